/-
  The code's disk and the document's beside each other; a call on both (act).
-/
import Derived.Test.YthbdhmjmboliiaaRDRestart
import Derived.Test.YthbdhmjmboliiaaActsIn
namespace Go.Proofs.Ythbdhmjmboliiaa
open Go.RowKit

/-- Two disks, each in blocks of its own, all of them from B on, none of them a block of X. -/
structure Two (w : World) (B : Nat) (X : Nat → Prop) (p q : Nat) (D E : DSt) : Prop where
  ex : ∃ Fp Fq : Nat → Prop, Dk w Fp p D ∧ RD w Fq q E ∧ (∀ k, Fp k → B ≤ k ∧ k < w.heap.size ∧ ¬ X k ∧ ¬ Fq k) ∧ ∀ k, Fq k → B ≤ k ∧ k < w.heap.size ∧ ¬ X k ∧ ¬ Fp k
theorem RD.lt {w : World} {F : Nat → Prop} {p : Nat} {D : DSt} (h : RD w F p D) : p < w.heap.size := by
  obtain ⟨n, sv, wv, svs, ws, h⟩ := h
  exact h.plt
theorem Two.left {w : World} {B : Nat} {X : Nat → Prop} {p q : Nat} {D E : DSt} (h : Two w B X p q D E) (hB : B ≤ w.heap.size) (hX : ∀ k, X k → k < w.heap.size) :
    ∃ F : Nat → Prop, Dk w F p D ∧ (∀ k, F k → B ≤ k) ∧ ∀ (w' : World) (D' : DSt), Dk w' (Gr F w) p D' → Keeps F w w' → Two w' B X p q D' E ∧ Below B w w' ∧ ∀ k, X k → w'.heap[k]? = w.heap[k]? := by
  obtain ⟨Fp, Fq, h1, h2, a, b⟩ := h.ex
  refine ⟨Fp, h1, fun k hk => (a k hk).1, fun w' D' hd hk => ⟨⟨fun k => Gr Fp w k ∧ k < w'.heap.size, Fq, hd.mono fun k hk hg => ⟨hg, hk⟩, h2.keep hk fun k _ hq => (b k hq).2.2.2, ?_, ?_⟩, hk.toBelow _ hB fun k hf => (a k hf).1, fun k hx => hk.block k (hX k hx) fun hf => (a k hf).2.2.1 hx⟩⟩
  · rintro k ⟨hg, hlt⟩
    rcases hg with hg | hg
    · exact ⟨(a k hg).1, hlt, (a k hg).2.2.1, (a k hg).2.2.2⟩
    · exact ⟨by omega, hlt, fun hx => by have := hX k hx; omega, fun hq => by have := (b k hq).2.1; omega⟩
  · intro k hq
    refine ⟨(b k hq).1, Nat.lt_of_lt_of_le (b k hq).2.1 hk.size, (b k hq).2.2.1, ?_⟩
    rintro ⟨hg | hg, _⟩
    · exact (b k hq).2.2.2 hg
    · have := (b k hq).2.1; omega
theorem Two.right {w : World} {B : Nat} {X : Nat → Prop} {p q : Nat} {D E : DSt} (h : Two w B X p q D E) (hB : B ≤ w.heap.size) (hX : ∀ k, X k → k < w.heap.size) :
    ∃ F : Nat → Prop, RD w F q E ∧ (∀ k, F k → B ≤ k) ∧ ∀ (w' : World) (E' : DSt), RD w' (Gr F w) q E' → Keeps F w w' → Two w' B X p q D E' ∧ Below B w w' ∧ ∀ k, X k → w'.heap[k]? = w.heap[k]? := by
  obtain ⟨Fp, Fq, h1, h2, a, b⟩ := h.ex
  refine ⟨Fq, h2, fun k hk => (b k hk).1, fun w' E' hd hk => ⟨⟨Fp, fun k => Gr Fq w k ∧ k < w'.heap.size, h1.keep hk fun k _ hq => (a k hq).2.2.2, hd.mono fun k hk hg => ⟨hg, hk⟩, ?_, ?_⟩, hk.toBelow _ hB fun k hf => (b k hf).1, fun k hx => hk.block k (hX k hx) fun hf => (b k hf).2.2.1 hx⟩⟩
  · intro k hq
    refine ⟨(a k hq).1, Nat.lt_of_lt_of_le (a k hq).2.1 hk.size, (a k hq).2.2.1, ?_⟩
    rintro ⟨hg | hg, _⟩
    · exact (a k hq).2.2.2 hg
    · have := (a k hq).2.1; omega
  · rintro k ⟨hg, hlt⟩
    rcases hg with hg | hg
    · exact ⟨(b k hg).1, hlt, (b k hg).2.2.1, (b k hg).2.2.2⟩
    · exact ⟨by omega, hlt, fun hx => by have := hX k hx; omega, fun hq => by have := (a k hq).2.1; omega⟩
/-- New blocks are none of theirs. -/
theorem Two.mark {w w' : World} {B : Nat} {X : Nat → Prop} {p q : Nat} {D E : DSt} (h : Two w B X p q D E) (hb : Below w.heap.size w w') (Y : Nat → Prop) (hY : ∀ k, Y k → X k ∨ w.heap.size ≤ k) : Two w' B Y p q D E := by
  obtain ⟨Fp, Fq, h1, h2, a, b⟩ := h.ex
  have k : Keeps (fun _ => False) w w' := ⟨hb.os, hb.tape, hb.output, hb.size, fun i hi _ => hb.block i hi⟩
  have ny : ∀ i, i < w.heap.size → ¬ X i → ¬ Y i := fun i hi hx hy => by
    rcases hY i hy with h | h
    · exact hx h
    · omega
  exact ⟨Fp, Fq, h1.keep k fun _ _ _ h => h, h2.keep k fun _ _ _ h => h, fun i hi => ⟨(a i hi).1, Nat.lt_of_lt_of_le (a i hi).2.1 hb.size, ny i (a i hi).2.1 (a i hi).2.2.1, (a i hi).2.2.2⟩, fun i hi => ⟨(b i hi).1, Nat.lt_of_lt_of_le (b i hi).2.1 hb.size, ny i (b i hi).2.1 (b i hi).2.2.1, (b i hi).2.2.2⟩⟩

/-! ### act -/
theorem box35 (w : World) (a : ActV) : (Instr.box 35 (.agg (acells a).toArray)).run Try.prog w = .ok (.pointer (some ⟨w.heap.size, 0, none⟩)) (w.alloc (.cells (acells a).toArray 35)) := rfl
theorem load33_at {w : World} {b : Nat} {a : ActV} {fr : Nat × Nat} (h : w.heap[b]? = some (.cells (acells a).toArray 35 fr)) : (Instr.loadAt 33 (.pointer (some ⟨b, 3, none⟩))).run Try.prog w = .ok (agf a.f) w :=
  run_loadAt_mid w b 3 33 (fcells a.f).toList _ (fun j v hv => by
    rw [cell_of_row w _ _ _ _ _ h]
    match j, hv with
    | 0, hv => exact hv
    | 1, hv => exact hv
    | 2, hv => exact hv
    | 3, hv => exact hv
    | j + 4, hv => simp [fcells] at hv) Try.underlying33 rfl (by kernel_rfl)

/-- What a call makes of a disk. -/
def DSt.actOn (D : DSt) (a : ActV) : DSt := if a.do_ = 0 then D.write a.n a.xs else if a.do_ = 1 then D.flush else if a.do_ = 2 then D.armed a.n else if a.do_ = 3 then D.restart a.f else D
/-- What act leaves. -/
def Acted (w : World) (B : Nat) (X : Nat → Prop) (p q : Nat) (D : DSt) (e : Ending) (w' : World) : Prop := e = .returned (.bool true) ∧ Two w' B X p q D D ∧ Below B w w' ∧ ∀ k, X k → w'.heap[k]? = w.heap[k]?
/-- The Act's variable lies at b. -/
def ActB (b : Nat) (a : ActV) (W : World) : Prop := W.heap[b]? = some (.cells (acells a).toArray 35 (0, 0))
theorem ActB.c {b : Nat} {a : ActV} {W : World} (h : ActB b a W) : W.cell? ⟨b, 0, none⟩ = some (.int .i64 a.do_) ∧ W.cell? ⟨b, 1, none⟩ = some (.int .i64 a.n) ∧ W.cell? ⟨b, 2, none⟩ = some (.slice a.A a.xs.length a.c) := by
  refine ⟨?_, ?_, ?_⟩ <;> rw [cell_of_row _ _ _ _ _ _ h] <;> rfl

/-- Where act stands behind its first steps: the Act's variable, both disks. -/
structure ActSt (w wA : World) (B : Nat) (X : Nat → Prop) (p q : Nat) (D : DSt) (a : ActV) : Prop where
  two : Two wA B (fun k => X k ∨ k = w.heap.size) p q D D
  hB : B ≤ wA.heap.size
  hX : ∀ k, X k ∨ k = w.heap.size → k < wA.heap.size
  bel : Below B w wA
  act : ActB w.heap.size a wA
  keep : ∀ k, X k → wA.heap[k]? = w.heap[k]?
theorem ActSt.start {w : World} {B : Nat} {X : Nat → Prop} {p q : Nat} {D : DSt} (two : Two w B X p q D D) (hB : B ≤ w.heap.size) (hX : ∀ k, X k → k < w.heap.size) (a : ActV) : ActSt w (w.alloc (.cells (acells a).toArray 35)) B X p q D a := by
  have b : Below w.heap.size w (w.alloc (.cells (acells a).toArray 35)) := (Below.refl _ _).alloc (Nat.le_refl _) _
  refine ⟨two.mark b _ fun k hk => ?_, Nat.le_trans hB b.size, fun k hk => ?_, b.mono hB, heap_alloc_new _ _, fun k hk => b.block k (hX k hk)⟩
  · rcases hk with h | h
    · exact Or.inl h
    · exact Or.inr (by omega)
  · have hs : (w.alloc (.cells (acells a).toArray 35)).heap.size = w.heap.size + 1 := by simp
    rcases hk with h | h
    · have := hX k h; omega
    · omega
theorem ActSt.drew {w wA : World} {B : Nat} {X : Nat → Prop} {p q : Nat} {D : DSt} {a : ActV} (h : ActSt w wA B X p q D a) : ActSt w wA.drew B X p q D a :=
  ⟨h.two.mark (w' := wA.drew) ⟨rfl, rfl, rfl, Nat.le_refl _, fun _ _ => rfl⟩ _ fun _ h => Or.inl h, h.hB, h.hX, h.bel.trans ⟨rfl, rfl, rfl, Nat.le_refl _, fun _ _ => rfl⟩, h.act, h.keep⟩
/-- A new block or two, made by a call that leaves all else. -/
theorem ActSt.more {w wA w' : World} {B : Nat} {X : Nat → Prop} {p q : Nat} {D : DSt} {a : ActV} (h : ActSt w wA B X p q D a) (k : Keeps (fun _ => False) wA w') : ActSt w w' B X p q D a := by
  have b : Below wA.heap.size wA w' := k.toBelow _ (Nat.le_refl _) fun _ h => h.elim
  exact ⟨h.two.mark b _ fun _ h => Or.inl h, Nat.le_trans h.hB b.size, fun k hk => Nat.lt_of_lt_of_le (h.hX k hk) b.size, h.bel.trans (b.mono h.hB), (b.block _ (h.hX _ (Or.inr rfl))).trans h.act, fun k hk => (b.block k (h.hX k (Or.inl hk))).trans (h.keep k hk)⟩
/-- Both disks were written. -/
theorem ActSt.done {w wA w1 w2 : World} {B : Nat} {X : Nat → Prop} {p q : Nat} {D D' : DSt} {a : ActV} (h : ActSt w wA B X p q D a) (b1 : Below B wA w1) (x1 : ∀ k, X k ∨ k = w.heap.size → w1.heap[k]? = wA.heap[k]?) (t2 : Two w2 B (fun k => X k ∨ k = w.heap.size) p q D' D') (b2 : Below B w1 w2) (x2 : ∀ k, X k ∨ k = w.heap.size → w2.heap[k]? = w1.heap[k]?) : Acted w B X p q D' (.returned (.bool true)) w2 := by
  refine ⟨rfl, ?_, (h.bel.trans b1).trans b2, fun k hk => ((x2 k (Or.inl hk)).trans (x1 k (Or.inl hk))).trans (h.keep k hk)⟩
  exact t2.mark (Below.refl _ _) _ fun k hk => Or.inl (Or.inl hk)
end Go.Proofs.Ythbdhmjmboliiaa
