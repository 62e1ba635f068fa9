/-
  A disk in memory, whole.
-/
import Derived.Test.YthbdhmjmboliiaaDk
import Derived.Test.YthbdhmjmboliiaaKeeps
namespace Go.Proofs.Ythbdhmjmboliiaa
open Go.RowKit Go.Maps

/-- A disk, as the document has it: its sectors' bytes one behind the other, the writes that wait, what Arm left, whether it is down, its acts. -/
structure DSt where
  L : List UInt8
  Q : List (Nat × List UInt8)
  left : Int
  down : Bool
  acts : Nat

def qcells (q : Nat × List UInt8) : List Value := .int .i64 (q.1 : Int) :: q.2.map B8
/-- A sector's bytes. -/
def sec (L : List UInt8) (n : Nat) : List UInt8 := (L.drop (n * 64)).take 64

structure DSt.Ok (D : DSt) (n : Nat) : Prop where
  len : D.L.length = 64 * n
  n_le : n ≤ 2000
  q : ∀ q ∈ D.Q, q.1 < n ∧ q.2.length = 64
  lo : -1 ≤ D.left
  hi : D.left ≤ 9223372036854775807

/-- The disk lies at block p. -/
structure DkAt (w : World) (p lb mb n : Nat) (iv : Value) (D : DSt) : Prop where
  ok : D.Ok n
  head : w.heap[p]? = some (.cells #[.slice (some ⟨lb, 0, none⟩) n n, iv, .map (some mb), .int .i64 D.left, .bool D.down, .int .i64 (D.acts : Int)] 58 (0, 0))
  rows : w.heap[lb]? = some (.cells (D.L.map B8).toArray 71 (0, 0))
  que : w.ownsRow 0 74 65 iv D.Q.length (D.Q.flatMap qcells)
  map : MapIs w mb D.Q

/-- The disk at block p, in blocks of F alone. -/
def Dk (w : World) (F : Nat → Prop) (p : Nat) (D : DSt) : Prop :=
  ∃ lb mb n iv, DkAt w p lb mb n iv D ∧ F p ∧ F lb ∧ F mb ∧ ∀ g, Value.ownBlock iv = some g → F g

theorem DkAt.keep {w w' : World} {p lb mb n : Nat} {iv : Value} {D : DSt} (h : DkAt w p lb mb n iv D) (hp : w'.heap[p]? = w.heap[p]?) (hl : w'.heap[lb]? = w.heap[lb]?) (hm : w'.heap[mb]? = w.heap[mb]?)
    (hi : ∀ g, Value.ownBlock iv = some g → w'.heap[g]? = w.heap[g]?) : DkAt w' p lb mb n iv D := by
  refine ⟨h.ok, hp.trans h.head, hl.trans h.rows, ?_, h.map.keep hm⟩
  refine ⟨h.que.1, ?_⟩
  rcases h.que.2 with hn | ⟨g, cap, cur, rfl, hb, hgg, rest⟩
  · exact .inl hn
  · exact .inr ⟨g, cap, cur, rfl, hb, (hi g rfl).trans hgg, rest⟩
theorem Dk.lt {w : World} {F : Nat → Prop} {p : Nat} {D : DSt} (h : Dk w F p D) : p < w.heap.size := by
  obtain ⟨lb, mb, n, iv, h, _⟩ := h
  exact (Array.getElem?_eq_some_iff.1 h.head).1
/-- The disk is as it was where only other blocks were written. -/
theorem Dk.keep {w w' : World} {F G : Nat → Prop} {p : Nat} {D : DSt} (h : Dk w F p D) (k : Keeps G w w') (hd : ∀ b, b < w.heap.size → F b → ¬ G b) : Dk w' F p D := by
  obtain ⟨lb, mb, n, iv, h, fp, fl, fm, fi⟩ := h
  have lt : ∀ {b : Nat} {o : Obj}, w.heap[b]? = some o → b < w.heap.size := fun e => (Array.getElem?_eq_some_iff.1 e).1
  have keep : ∀ {b : Nat} {o : Obj}, w.heap[b]? = some o → F b → w'.heap[b]? = w.heap[b]? := fun e hf => k.block _ (lt e) (hd _ (lt e) hf)
  obtain ⟨es, clock, hm⟩ := h.map.obj
  refine ⟨lb, mb, n, iv, h.keep (keep h.head fp) (keep h.rows fl) (keep hm fm) (fun g hg => ?_), fp, fl, fm, fi⟩
  exact k.block g (h.que.lt g hg).2 (hd _ (h.que.lt g hg).2 (fi g hg))
theorem Dk.mono {w : World} {F G : Nat → Prop} {p : Nat} {D : DSt} (h : Dk w F p D) (hF : ∀ k, k < w.heap.size → F k → G k) : Dk w G p D := by
  obtain ⟨lb, mb, n, iv, h, fp, fl, fm, fi⟩ := h
  obtain ⟨es, clock, hm⟩ := h.map.obj
  have lt : ∀ {b : Nat} {o : Obj}, w.heap[b]? = some o → b < w.heap.size := fun e => (Array.getElem?_eq_some_iff.1 e).1
  exact ⟨lb, mb, n, iv, h, hF _ (lt h.head) fp, hF _ (lt h.rows) fl, hF _ (lt hm) fm, fun g hg => hF _ (h.que.lt g hg).2 (fi g hg)⟩
theorem DkAt.apart {w : World} {p lb mb n : Nat} {iv : Value} {D : DSt} (h : DkAt w p lb mb n iv D) : p ≠ lb ∧ p ≠ mb ∧ lb ≠ mb ∧ ∀ g, Value.ownBlock iv = some g → g ≠ p ∧ g ≠ lb ∧ g ≠ mb := by
  obtain ⟨es, clock, hm⟩ := h.map.obj
  have h1 := h.head
  have h2 := h.rows
  refine ⟨?_, ?_, ?_, fun g hg => ?_⟩
  · rintro rfl; rw [h1] at h2; simp at h2
  · rintro rfl; rw [h1] at hm; simp at hm
  · rintro rfl; rw [h2] at hm; simp at hm
  · rcases h.que.2 with ⟨rfl, _⟩ | ⟨g', cap, cur, rfl, hb, hgg, rest⟩
    · cases hg
    · simp only [Value.ownBlock, Option.some.injEq] at hg
      subst hg
      refine ⟨?_, ?_, ?_⟩
      · rintro rfl; rw [h1] at hgg; simp at hgg
      · rintro rfl; rw [h2] at hgg; simp at hgg
      · rintro rfl; rw [hm] at hgg; simp at hgg
/-- The struct's cells. -/
theorem DkAt.c {w : World} {p lb mb n : Nat} {iv : Value} {D : DSt} (h : DkAt w p lb mb n iv D) :
    w.cell? ⟨p, 0, none⟩ = some (.slice (some ⟨lb, 0, none⟩) n n) ∧ w.cell? ⟨p, 1, none⟩ = some iv ∧ w.cell? ⟨p, 2, none⟩ = some (.map (some mb)) ∧ w.cell? ⟨p, 3, none⟩ = some (.int .i64 D.left) ∧ w.cell? ⟨p, 4, none⟩ = some (.bool D.down) ∧
    w.cell? ⟨p, 5, none⟩ = some (.int .i64 (D.acts : Int)) ∧ ∀ i, w.frozen? ⟨p, i, none⟩ = false := by
  have hh := h.head
  refine ⟨?_, ?_, ?_, ?_, ?_, ?_, fun i => frozen_of_row w p i _ _ hh⟩ <;> rw [cell_of_row w p _ _ _ _ hh] <;> rfl
theorem DkAt.setLeft {w : World} {p lb mb n : Nat} {iv : Value} {D : DSt} (h : DkAt w p lb mb n iv D) (x : Int) (h1 : -1 ≤ x) (h2 : x ≤ 9223372036854775807) : DkAt (w.setCell ⟨p, 3, none⟩ (.int .i64 x)) p lb mb n iv { D with left := x } := by
  have ap := h.apart
  have k : ∀ b, b ≠ p → (w.setCell ⟨p, 3, none⟩ (.int .i64 x)).heap[b]? = w.heap[b]? := fun b hb => Below.heap_setCell _ _ _ _ hb
  refine ⟨⟨h.ok.len, h.ok.n_le, h.ok.q, h1, h2⟩, ?_, (k _ ap.1.symm).trans h.rows, ?_, h.map.keep (k _ ap.2.1.symm)⟩
  · rw [heap_setCell_same w p 3 _ _ _ h.head]; rfl
  · refine ⟨h.que.1, ?_⟩
    rcases h.que.2 with hn | ⟨g, cap, cur, rfl, hb, hgg, rest⟩
    · exact .inl hn
    · exact .inr ⟨g, cap, cur, rfl, hb, (k _ (ap.2.2.2 g rfl).1).trans hgg, rest⟩
theorem DkAt.setDown {w : World} {p lb mb n : Nat} {iv : Value} {D : DSt} (h : DkAt w p lb mb n iv D) (x : Bool) : DkAt (w.setCell ⟨p, 4, none⟩ (.bool x)) p lb mb n iv { D with down := x } := by
  have ap := h.apart
  have k : ∀ b, b ≠ p → (w.setCell ⟨p, 4, none⟩ (.bool x)).heap[b]? = w.heap[b]? := fun b hb => Below.heap_setCell _ _ _ _ hb
  refine ⟨⟨h.ok.len, h.ok.n_le, h.ok.q, h.ok.lo, h.ok.hi⟩, ?_, (k _ ap.1.symm).trans h.rows, ?_, h.map.keep (k _ ap.2.1.symm)⟩
  · rw [heap_setCell_same w p 4 _ _ _ h.head]; rfl
  · refine ⟨h.que.1, ?_⟩
    rcases h.que.2 with hn | ⟨g, cap, cur, rfl, hb, hgg, rest⟩
    · exact .inl hn
    · exact .inr ⟨g, cap, cur, rfl, hb, (k _ (ap.2.2.2 g rfl).1).trans hgg, rest⟩
theorem DkAt.setActs {w : World} {p lb mb n : Nat} {iv : Value} {D : DSt} (h : DkAt w p lb mb n iv D) (x : Nat) : DkAt (w.setCell ⟨p, 5, none⟩ (.int .i64 (x : Int))) p lb mb n iv { D with acts := x } := by
  have ap := h.apart
  have k : ∀ b, b ≠ p → (w.setCell ⟨p, 5, none⟩ (.int .i64 (x : Int))).heap[b]? = w.heap[b]? := fun b hb => Below.heap_setCell _ _ _ _ hb
  refine ⟨⟨h.ok.len, h.ok.n_le, h.ok.q, h.ok.lo, h.ok.hi⟩, ?_, (k _ ap.1.symm).trans h.rows, ?_, h.map.keep (k _ ap.2.1.symm)⟩
  · rw [heap_setCell_same w p 5 _ _ _ h.head]; rfl
  · refine ⟨h.que.1, ?_⟩
    rcases h.que.2 with hn | ⟨g, cap, cur, rfl, hb, hgg, rest⟩
    · exact .inl hn
    · exact .inr ⟨g, cap, cur, rfl, hb, (k _ (ap.2.2.2 g rfl).1).trans hgg, rest⟩
theorem Dk.setC {w : World} {F : Nat → Prop} {p lb mb n : Nat} {iv : Value} {D : DSt} (hF : F p ∧ F lb ∧ F mb ∧ ∀ g, Value.ownBlock iv = some g → F g) (h : DkAt w p lb mb n iv D) : Dk w F p D := ⟨lb, mb, n, iv, h, hF⟩
end Go.Proofs.Ythbdhmjmboliiaa
