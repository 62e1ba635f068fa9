/-
  Merged by wip/tools/merge.py: Tri DkKeep RdSec RdNew RdOf RdBytes RD RDSmall RDRead
-/
import Derived.Test.YtacghpabjmnfiaaGreatDoorGDo
import Derived.Test.YtacghpabjmnfiaaGreatDoorGDk
import Derived.Test.YtacghpabjmnfiaaGreatDoorGLe
import Derived.Test.YtacghpabjmnfiaaGreatDoorGT
import Derived.Test.YtacghpabjmnfiaaGreatDoorGA
namespace Go.Proofs.YtacghpabjmnfiaaGreatDoor
open Go.RowKit

/-- Three disks, each in blocks of its own, all of them from B on, none of them a block of X. -/
structure Tri (w : World) (B : Nat) (X : Nat → Prop) (p q r : Nat) (D E G : DSt) : Prop where
  ex : ∃ Fp Fq Fr : Nat → Prop, Dk w Fp p D ∧ Dk w Fq q E ∧ Dk w Fr r G ∧ (∀ k, Fp k → B ≤ k ∧ k < w.heap.size ∧ ¬ X k ∧ ¬ Fq k ∧ ¬ Fr k) ∧ (∀ k, Fq k → B ≤ k ∧ k < w.heap.size ∧ ¬ X k ∧ ¬ Fp k ∧ ¬ Fr k) ∧ ∀ k, Fr k → B ≤ k ∧ k < w.heap.size ∧ ¬ X k ∧ ¬ Fp k ∧ ¬ Fq k
theorem Tri.rot {w : World} {B : Nat} {X : Nat → Prop} {p q r : Nat} {D E G : DSt} (h : Tri w B X p q r D E G) : Tri w B X q r p E G D := by
  obtain ⟨Fp, Fq, Fr, h1, h2, h3, a, b, c⟩ := h.ex
  exact ⟨Fq, Fr, Fp, h2, h3, h1, fun k hk => ⟨(b k hk).1, (b k hk).2.1, (b k hk).2.2.1, (b k hk).2.2.2.2, (b k hk).2.2.2.1⟩, fun k hk => ⟨(c k hk).1, (c k hk).2.1, (c k hk).2.2.1, (c k hk).2.2.2.2, (c k hk).2.2.2.1⟩, a⟩
/-- What becomes of the first, the others being apart. -/
theorem Tri.upd {w : World} {B : Nat} {X : Nat → Prop} {p q r : Nat} {D E G : DSt} (h : Tri w B X p q r D E G) (hB : B ≤ w.heap.size) (hX : ∀ k, X k → k < w.heap.size) :
    ∃ F : Nat → Prop, Dk w F p D ∧ (∀ k, F k → B ≤ k) ∧ ∀ (w' : World) (D' : DSt), Dk w' (Gr F w) p D' → Keeps F w w' → Tri w' B X p q r D' E G ∧ Below B w w' ∧ ∀ k, X k → w'.heap[k]? = w.heap[k]? := by
  obtain ⟨Fp, Fq, Fr, h1, h2, h3, a, b, c⟩ := h.ex
  refine ⟨Fp, h1, fun k hk => (a k hk).1, fun w' D' hd hk => ⟨⟨fun k => Gr Fp w k ∧ k < w'.heap.size, Fq, Fr, hd.mono fun k hk hg => ⟨hg, hk⟩, h2.keep hk fun k _ hq => (b k hq).2.2.2.1, h3.keep hk fun k _ hr => (c k hr).2.2.2.1, ?_, ?_, ?_⟩, hk.toBelow _ hB fun k hf => (a k hf).1, fun k hx => hk.block k (hX k hx) fun hf => (a k hf).2.2.1 hx⟩⟩
  · rintro k ⟨hg, hlt⟩
    rcases hg with hg | hg
    · exact ⟨(a k hg).1, hlt, (a k hg).2.2.1, (a k hg).2.2.2.1, (a k hg).2.2.2.2⟩
    · exact ⟨by omega, hlt, fun hx => by have := hX k hx; omega, fun hq => by have := (b k hq).2.1; omega, fun hr => by have := (c k hr).2.1; omega⟩
  · intro k hq
    refine ⟨(b k hq).1, Nat.lt_of_lt_of_le (b k hq).2.1 hk.size, (b k hq).2.2.1, ?_, (b k hq).2.2.2.2⟩
    rintro ⟨hg | hg, _⟩
    · exact (b k hq).2.2.2.1 hg
    · have := (b k hq).2.1; omega
  · intro k hr
    refine ⟨(c k hr).1, Nat.lt_of_lt_of_le (c k hr).2.1 hk.size, (c k hr).2.2.1, ?_, (c k hr).2.2.2.2⟩
    rintro ⟨hg | hg, _⟩
    · exact (c k hr).2.2.2.1 hg
    · have := (c k hr).2.1; omega
/-- New blocks are none of theirs. -/
theorem Tri.mark {w w' : World} {B : Nat} {X : Nat → Prop} {p q r : Nat} {D E G : DSt} (h : Tri w B X p q r D E G) (hb : Below w.heap.size w w') (Y : Nat → Prop) (hY : ∀ k, Y k → w.heap.size ≤ k) : Tri w' B Y p q r D E G := by
  obtain ⟨Fp, Fq, Fr, h1, h2, h3, a, b, c⟩ := h.ex
  have k : Keeps (fun _ => False) w w' := ⟨hb.os, hb.tape, hb.output, hb.size, fun i hi _ => hb.block i hi⟩
  have ny : ∀ i, i < w.heap.size → ¬ Y i := fun i hi hy => by have := hY i hy; omega
  exact ⟨Fp, Fq, Fr, h1.keep k fun _ _ _ h => h, h2.keep k fun _ _ _ h => h, h3.keep k fun _ _ _ h => h, fun i hi => ⟨(a i hi).1, Nat.lt_of_lt_of_le (a i hi).2.1 hb.size, ny i (a i hi).2.1, (a i hi).2.2.2⟩, fun i hi => ⟨(b i hi).1, Nat.lt_of_lt_of_le (b i hi).2.1 hb.size, ny i (b i hi).2.1, (b i hi).2.2.2⟩, fun i hi => ⟨(c i hi).1, Nat.lt_of_lt_of_le (c i hi).2.1 hb.size, ny i (c i hi).2.1, (c i hi).2.2.2⟩⟩
theorem Tri.free {w : World} {B : Nat} {X : Nat → Prop} {p q r : Nat} {D E G : DSt} (h : Tri w B X p q r D E G) : Tri w B (fun _ => False) p q r D E G := h.mark (Below.refl _ _) _ fun _ h => h.elim
/-- Three disks that were made one behind the other. -/
theorem Tri.made {w w1 w2 w3 : World} {p q r : Nat} {D E G : DSt} (h1 : Dk w1 (fun k => w.heap.size ≤ k) p D) (k1 : Keeps (fun _ => False) w w1) (h2 : Dk w2 (fun k => w1.heap.size ≤ k) q E) (k2 : Keeps (fun _ => False) w1 w2) (h3 : Dk w3 (fun k => w2.heap.size ≤ k) r G) (k3 : Keeps (fun _ => False) w2 w3) :
    Tri w3 w.heap.size (fun _ => False) p q r D E G := by
  have hp : Dk w3 (fun k => w.heap.size ≤ k ∧ k < w1.heap.size) p D := ((h1.mono fun k hk hf => ⟨hf, hk⟩).keep k2 fun _ _ _ h => h).keep k3 fun _ _ _ h => h
  have hq : Dk w3 (fun k => w1.heap.size ≤ k ∧ k < w2.heap.size) q E := (h2.mono fun k hk hf => ⟨hf, hk⟩).keep k3 fun _ _ _ h => h
  have hr : Dk w3 (fun k => w2.heap.size ≤ k ∧ k < w3.heap.size) r G := h3.mono fun k hk hf => ⟨hf, hk⟩
  have s1 := k1.size
  have s2 := k2.size
  have s3 := k3.size
  exact ⟨_, _, _, hp, hq, hr, fun k hk => ⟨hk.1, by omega, fun h => h, by omega, by omega⟩, fun k hk => ⟨by omega, by omega, fun h => h, by omega, by omega⟩, fun k hk => ⟨by omega, hk.2, fun h => h, by omega, by omega⟩⟩
theorem Dk.bytes {w : World} {F : Nat → Prop} {p : Nat} {D : DSt} (h : Dk w F p D) : Calls Tryz.prog 36 #[.pointer (some ⟨p, 0, none⟩)] w (GivesB w D.L) := by
  obtain ⟨lb, mb, n, iv, h, _⟩ := h
  exact bytes_at h
theorem Tri.bytes {w : World} {B : Nat} {X : Nat → Prop} {p q r : Nat} {D E G : DSt} (h : Tri w B X p q r D E G) : Calls Tryz.prog 36 #[.pointer (some ⟨p, 0, none⟩)] w (GivesB w D.L) := by
  obtain ⟨Fp, Fq, Fr, h1, _⟩ := h.ex
  exact h1.bytes

/-- The writes of a list, one behind the other. -/
def wrTo (D : DSt) (l : List (Int × List UInt8)) : DSt := l.foldl (fun D x => D.write x.1 x.2) D
theorem write_len (D : DSt) (i : Int) (b : List UInt8) : (D.write i b).Q.length ≤ D.Q.length + 1 ∧ (D.write i b).acts ≤ D.acts + 1 ∧ (D.write i b).L = D.L := by
  unfold DSt.write DSt.spent
  split
  · exact ⟨by omega, by omega, rfl⟩
  · split
    · split
      · exact ⟨by simp, by simp, rfl⟩
      · refine ⟨by simp, by simp, rfl⟩
    · exact ⟨by omega, by omega, rfl⟩
/-- A disk whose power stays. -/
structure On (D : DSt) : Prop where
  left : D.left = -1
  down : D.down = false
theorem On.write {D : DSt} (h : On D) (i : Int) (b : List UInt8) : On (D.write i b) := by
  unfold DSt.write
  rw [if_neg (by rw [h.down]; simp)]
  split
  · rw [if_neg (by rw [h.left]; decide)]
    unfold DSt.spent
    rw [if_neg (by rw [h.left]; decide)]
    refine ⟨?_, h.down⟩
    show (if 0 < D.left then D.left - 1 else D.left) = -1
    rw [h.left]; rfl
  · exact h
theorem On.of (xs : List UInt8) : On (ofD xs) := ⟨rfl, rfl⟩
def fNone : Fate := ⟨0, -1, 0, false⟩
theorem fNone_ok : fNone.Ok := ⟨by decide, by decide⟩
theorem lay_none (L : List UInt8) (Q : List (Nat × List UInt8)) (k : Nat) : layTo fNone L Q k = L := by
  induction k with
  | zero => rfl
  | succ k ih =>
    unfold layTo
    split
    · rename_i q _
      rw [ih]
      unfold layOne
      have e1 : ((k : Int) == fNone.torn) = false := by
        rw [beq_eq_false_iff_ne]; show (k : Int) ≠ -1; omega
      have e2 : stayB fNone.stay k = false := by simp [fNone, stayB]
      rw [e1, e2]
      rfl
    · exact ih
theorem on_flush {D : DSt} (h : On D) : D.flush.L = (D.restart fAll).L := by
  have e : D.spent = { D with left := if 0 < D.left then D.left - 1 else D.left, acts := D.acts + 1 } := by unfold DSt.spent; rw [if_neg (by rw [h.left]; decide)]
  unfold DSt.flush
  rw [if_neg (by rw [h.down]; simp), if_neg (by rw [h.left]; decide), e]
  rfl
theorem restart_none (D : DSt) : (D.restart fNone).L = D.L := lay_none _ _ _
/-- The disk behind the first k writes of a list. -/
def afterW (D : DSt) (l : List (Int × List UInt8)) (k : Nat) : DSt := wrTo D (l.take k)
theorem afterW_succ (D : DSt) (l : List (Int × List UInt8)) (k : Nat) (h : k < l.length) : afterW D l (k + 1) = (afterW D l k).write l[k].1 l[k].2 := by
  unfold afterW wrTo
  rw [List.take_succ_eq_append_getElem h, List.foldl_append]
  rfl
theorem afterW_facts (D : DSt) (l : List (Int × List UInt8)) (hD : On D) (hQ : D.Q = []) (ha : D.acts = 0) (k : Nat) (hk : k ≤ l.length) : On (afterW D l k) ∧ (afterW D l k).Q.length ≤ k ∧ (afterW D l k).acts ≤ k ∧ (afterW D l k).L = D.L := by
  induction k with
  | zero => exact ⟨hD, by show D.Q.length ≤ 0; rw [hQ]; simp, by show D.acts ≤ 0; omega, rfl⟩
  | succ k ih =>
    obtain ⟨h1, h2, h3, h4⟩ := ih (by omega)
    rw [afterW_succ D l k (by omega)]
    have := write_len (afterW D l k) l[k].1 l[k].2
    exact ⟨h1.write _ _, by omega, by omega, this.2.2.trans h4⟩
end Go.Proofs.YtacghpabjmnfiaaGreatDoor
namespace Go.Proofs.YtacghpabjmnfiaaGreatDoor
open Go.RowKit

theorem splice_get (L b : List UInt8) (o j : Nat) (h : o + b.length ≤ L.length) : (splice L o b)[j]? = if j < o then L[j]? else if j < o + b.length then b[j - o]? else L[j]? := by
  unfold splice
  have hl : (L.take o).length = o := by simp; omega
  by_cases h1 : j < o
  · rw [if_pos h1, List.getElem?_append_left (by omega), List.getElem?_take, if_pos h1]
  · rw [if_neg h1]
    by_cases h2 : j < o + b.length
    · rw [if_pos h2, List.getElem?_append_right (by omega), hl, List.getElem?_append_left (by omega)]
    · rw [if_neg h2, List.getElem?_append_right (by omega), hl, List.getElem?_append_right (by omega), List.getElem?_drop]
      congr 1
      omega
theorem sec_get (L : List UInt8) (n i : Nat) : (sec L n)[i]? = if i < 64 then L[n * 64 + i]? else none := by
  unfold sec
  rw [List.getElem?_take]
  split
  · rw [List.getElem?_drop]
  · rfl
theorem sec_splice (L b : List UInt8) (m n : Nat) (hb : b.length = 64) (hm : m * 64 + 64 ≤ L.length) : sec (splice L (m * 64) b) n = if m = n then b else sec L n := by
  apply List.ext_getElem?
  intro i
  rw [sec_get]
  by_cases h : m = n
  · subst h
    rw [if_pos rfl]
    by_cases hi : i < 64
    · rw [if_pos hi, splice_get _ _ _ _ (by omega), if_neg (by omega), if_pos (by omega)]
      congr 1; omega
    · rw [if_neg hi, List.getElem?_eq_none (by omega)]
  · rw [if_neg h, sec_get]
    by_cases hi : i < 64
    · rw [if_pos hi, if_pos hi, splice_get _ _ _ _ (by omega)]
      by_cases h1 : n * 64 + i < m * 64
      · rw [if_pos h1]
      · rw [if_neg h1, if_neg (by omega)]
    · rw [if_neg hi, if_neg hi]
theorem stay_all (i : Nat) : stayB fAll.stay i = true := by
  have h : ∀ m : Nat, m < 64 → (((18446744073709551615 : Int) / 2 ^ m) % 2 == 1) = true := by decide +kernel
  exact h (min i 63) (by omega)
theorem lay_all (L : List UInt8) (Q : List (Nat × List UInt8)) (n : Nat) (hQ : ∀ q ∈ Q, q.1 * 64 + 64 ≤ L.length ∧ q.2.length = 64) (k : Nat) (hk : k ≤ Q.length) : sec (layTo fAll L Q k) n = (lastW (Q.take k) n).getD (sec L n) := by
  induction k with
  | zero => rfl
  | succ k ih =>
    have hlt : k < Q.length := by omega
    rw [layTo_succ _ _ _ _ hlt, List.take_succ_eq_append_getElem hlt]
    have hq := hQ Q[k] (List.getElem_mem hlt)
    have e1 : ((k : Int) == fAll.torn) = false := by rw [beq_eq_false_iff_ne]; show (k : Int) ≠ -1; omega
    unfold layOne
    rw [e1, if_neg (by simp), if_pos (stay_all k), sec_splice _ _ _ _ hq.2 (by rw [layTo_len _ _ _ hQ _ (by omega)]; exact hq.1), ih (by omega)]
    rw [show (Q.take k ++ [Q[k]]) = (Q.take k ++ [(Q[k].1, Q[k].2)]) from rfl, lastW_snoc]
    by_cases h : Q[k].1 = n
    · rw [if_pos h, if_pos h]; rfl
    · rw [if_neg h, if_neg h]
theorem okQ {D : DSt} {n : Nat} (h : D.Ok n) : ∀ q ∈ D.Q, q.1 * 64 + 64 ≤ D.L.length ∧ q.2.length = 64 := fun q hq => by
  have h1 := h.q q hq
  have h2 := h.len
  exact ⟨by omega, h1.2⟩
theorem flush_parts {D : DSt} (h : On D) : D.flush.L = layTo fAll D.L D.Q D.Q.length ∧ D.flush.Q = [] ∧ D.flushErr = 0 := by
  have e : D.spent = { D with left := if 0 < D.left then D.left - 1 else D.left, acts := D.acts + 1 } := by unfold DSt.spent; rw [if_neg (by rw [h.left]; decide)]
  refine ⟨?_, ?_, ?_⟩
  · unfold DSt.flush; rw [if_neg (by rw [h.down]; simp), if_neg (by rw [h.left]; decide), e]; rfl
  · unfold DSt.flush; rw [if_neg (by rw [h.down]; simp), if_neg (by rw [h.left]; decide), e]; rfl
  · unfold DSt.flushErr DSt.actErr; rw [if_neg (by rw [h.down]; simp), if_neg (by rw [h.left]; decide)]
/-- Behind a flush, whatever the fate, all is read as before. -/
theorem kept_now {D : DSt} {n : Nat} (h : On D) (hk : D.Ok n) (f : Fate) (i : Nat) : (D.flush.restart f).now i = D.now i := by
  obtain ⟨e1, e2, _⟩ := flush_parts h
  have e3 : (D.flush.restart f).Q = [] := rfl
  have e4 : (D.flush.restart f).L = D.flush.L := by
    show layTo f D.flush.L D.flush.Q D.flush.Q.length = D.flush.L
    rw [e2]; rfl
  unfold DSt.now
  rw [e3, e4, e1, lay_all D.L D.Q i (okQ hk) _ (Nat.le_refl _), List.take_length]
  rfl

/-! ### a row of slices of 64 bytes -/
def WasRow (w : World) (T : Nat) (f : Nat → List UInt8) (k : Nat) (v : Value) : Prop :=
  ∃ vs : List Value, w.ownsRow T 30 1 v k vs ∧ ∀ i, i < k → ∃ R c, vs[i]? = some (.slice R 64 c) ∧ BR w w.heap.size R (f i) ∧ ∀ ad, R = some ad → T ≤ ad.block ∧ ad.block < w.heap.size ∧ v.ownBlock ≠ some ad.block
theorem WasRow.keep {w w' : World} {G : Nat → Prop} {T : Nat} {f : Nat → List UInt8} {k : Nat} {v : Value} (h : WasRow w T f k v) (hk : Keeps G w w') (hG : ∀ b, T ≤ b → b < w.heap.size → ¬ G b) : WasRow w' T f k v := by
  obtain ⟨vs, h1, h2⟩ := h
  refine ⟨vs, ⟨h1.1, ?_⟩, fun i hi => ?_⟩
  · rcases h1.2 with hn | ⟨g, cap, cur, hv, hb, hgg, rest⟩
    · exact .inl hn
    · have hlt := (Array.getElem?_eq_some_iff.1 hgg).1
      exact .inr ⟨g, cap, cur, hv, hb, (hk.block _ hlt (hG g hb hlt)).trans hgg, rest⟩
  · obtain ⟨R, c, e, br, ha⟩ := h2 i hi
    exact ⟨R, c, e, hk.br br fun ad e' _ => hG _ (ha ad e').1 (ha ad e').2.1, fun ad e' => ⟨(ha ad e').1, Nat.lt_of_lt_of_le (ha ad e').2.1 hk.size, (ha ad e').2.2⟩⟩
theorem WasRow.start (w : World) (T : Nat) (f : Nat → List UInt8) : WasRow w T f 0 (.slice none 0 0) := ⟨[], World.ownsRow_nil _ _ _ _, fun i hi => absurd hi (Nat.not_lt_zero i)⟩
theorem WasRow.lt {w : World} {T : Nat} {f : Nat → List UInt8} {k : Nat} {v : Value} (h : WasRow w T f k v) : ∀ b, v.ownBlock = some b → T ≤ b ∧ b < w.heap.size := by
  obtain ⟨vs, h1, _⟩ := h
  exact fun b e => World.ownsRow.lt h1 b e
/-- The i-th, read. -/
theorem WasRow.at_ {w : World} {T : Nat} {f : Nat → List UInt8} {k : Nat} {v : Value} (h : WasRow w T f k v) (i : Nat) (hi : i < k) : ∃ g cap R c, v = .slice (some ⟨g, 0, none⟩) k cap ∧ w.cell? ⟨g, i, none⟩ = some (.slice R 64 c) ∧ BR w w.heap.size R (f i) := by
  obtain ⟨vs, h1, h2⟩ := h
  obtain ⟨g, cap, hv, _, _⟩ := World.ownsRow.form h1 (by omega)
  obtain ⟨R, c, e, br, _⟩ := h2 i hi
  have := World.ownsRow.cells h1 (g := g) (by rw [hv]; rfl) i _ e
  have e0 : (⟨g, 0, none⟩ : Addr).add i = ⟨g, i, none⟩ := by unfold Addr.add; split <;> simp_all
  rw [e0] at this
  exact ⟨g, cap, R, c, hv, this, br⟩
theorem WasRow.form {w : World} {T : Nat} {f : Nat → List UInt8} {k : Nat} {v : Value} (h : WasRow w T f k v) : ∃ A cap, v = .slice A k cap := by
  obtain ⟨vs, h1, _⟩ := h
  rcases h1.2 with ⟨rfl, hn⟩ | ⟨_, cap, _, e, _⟩
  · exact ⟨none, 0, by rw [hn]⟩
  · exact ⟨_, cap, e⟩
theorem Tryz.info30 : (Tryz.prog.info? 30).map (fun i => (i.zero, i.size, i.bytes)) = some (some (.slice none 0 0), 1, 24) := by kernel_rfl
theorem bslice44 (w : World) (R : Option Addr) (n c : Nat) :
    (Instr.buildSlice 54 1 #[(0, .slice R n c)]).run Tryz.prog w = .ok (.slice (some ⟨w.heap.size, 0, none⟩) 1 1) (w.alloc (.cells #[.slice R n c] 30)) := by kernel_rfl
/-- One slice more. -/
theorem WasRow.app {w : World} {T : Nat} {f : Nat → List UInt8} {k : Nat} {v : Value} (h : WasRow w T f k v) (hT : T ≤ w.heap.size) (hk : k ≤ 2000) (R : Option Addr) (c : Nat) (br : BR w w.heap.size R (f k)) (ha : ∀ ad, R = some ad → T ≤ ad.block ∧ ad.block < w.heap.size ∧ v.ownBlock ≠ some ad.block) (g c' : Nat) (ty : TypeId) (hg : w.cell? ⟨g, 0, none⟩ = some (.slice R 64 c)) :
    ∃ v' w', (Builtin.append_ #[54, 54] ty #[v, .slice (some ⟨g, 0, none⟩) 1 c']).run Tryz.prog w = .ok v' w' ∧ WasRow w' T f (k + 1) v' ∧ Keeps (fun b => v.ownBlock = some b) w w' := by
  obtain ⟨vs, h1, h2⟩ := h
  obtain ⟨i0, hi, hz0, hz1, hz2⟩ := info_parts Tryz.info30
  obtain ⟨v', w', hrun, hown, hgr, _, hblk⟩ := run_append_own_at (P := Tryz.prog) w T 54 ty 30 i0 _ 1 24 Tryz.underlying54 hi hz0 hz1 hz2 rfl (by decide) v k vs h1 ⟨g, 0, none⟩ 1 c' [.slice R 64 c] rfl (fun j u hu => by
    match j, hu with
    | 0, hu => cases hu; exact hg
    | j + 1, hu => simp at hu) (by intro u hu; simp at hu; subst hu; rfl) (by unfold maxLen; omega) (by omega) hT
  have hkp : Keeps (fun b => v.ownBlock = some b) w w' := Keeps.grown _ hgr fun _ e => e
  have hlen : vs.length = k := by have := h1.1; omega
  have put : ∀ (R' : Option Addr) (xs : List UInt8), BR w w.heap.size R' xs → (∀ ad, R' = some ad → T ≤ ad.block ∧ ad.block < w.heap.size ∧ v.ownBlock ≠ some ad.block) → BR w' w'.heap.size R' xs ∧ ∀ ad, R' = some ad → T ≤ ad.block ∧ ad.block < w'.heap.size ∧ v'.ownBlock ≠ some ad.block := fun R' xs hb hh =>
    ⟨hkp.br hb fun ad e _ hf => (hh ad e).2.2 hf, fun ad e => ⟨(hh ad e).1, Nat.lt_of_lt_of_le (hh ad e).2.1 hkp.size, fun hf => by
      rcases hblk with e1 | e1
      · rw [e1] at hf; exact (hh ad e).2.2 hf
      · rw [e1] at hf
        simp only [Option.some.injEq] at hf
        have := (hh ad e).2.1
        omega⟩⟩
  refine ⟨v', w', hrun, ⟨vs ++ [.slice R 64 c], hown, fun i hi => ?_⟩, hkp⟩
  by_cases e : i = k
  · subst e
    obtain ⟨p1, p2⟩ := put _ _ br ha
    exact ⟨R, c, by rw [List.getElem?_append_right (by omega), hlen]; simp, p1, p2⟩
  · obtain ⟨R', c', e', br', ha'⟩ := h2 i (by omega)
    obtain ⟨p1, p2⟩ := put _ _ br' ha'
    exact ⟨R', c', by rw [List.getElem?_append_left (by omega)]; exact e', p1, p2⟩

/-! ### Waiting, where nothing waits -/
theorem make49 (w : World) : (Instr.makeSlice 43 (.int .i64 0) (.int .i64 0)).run Tryz.prog w = .ok (.slice (some ⟨w.heap.size, 0, none⟩) 0 0) (w.alloc (.cells #[] 3)) := by kernel_rfl
def WaitOut (w : World) (e : Ending) (w' : World) : Prop := ∃ R c, e = .returned (.slice R 0 c) ∧ Keeps (fun _ => False) w w'
theorem now64 {D : DSt} {n : Nat} (h : D.Ok n) (hd : D.down = false) (i : Nat) (hi : i < n) : D.readAt (i : Int) = D.now i ∧ D.readErr (i : Int) = 0 ∧ (D.now i).length = 64 := by
  have hn := h.n_eq
  refine ⟨?_, ?_, now_len h hi⟩
  · unfold DSt.readAt
    rw [if_neg (by rw [hd]; simp), if_pos (by omega)]
    simp
  · unfold DSt.readErr
    rw [if_neg (by rw [hd]; simp), if_pos (by omega)]
theorem Dk.ok {w : World} {F : Nat → Prop} {p : Nat} {D : DSt} (h : Dk w F p D) : ∃ n, D.Ok n := by
  obtain ⟨lb, mb, n, iv, h, _⟩ := h
  exact ⟨n, h.ok⟩
/-- Read, at a sector that there is. -/
theorem Dk.read {w : World} {F : Nat → Prop} {p : Nat} {D : DSt} {n : Nat} (h : Dk w F p D) (ho : D.Ok n) (hd : D.down = false) (i : Nat) (hi : i < n) (zs : List UInt8) (hz : D.now i = zs) : Calls Tryz.prog 30 #[.pointer (some ⟨p, 0, none⟩), .int .i64 (i : Int)] w
    fun e w' => ∃ R c, e = .returned (.tuple #[.slice R 64 c, .int .i64 0]) ∧ BR w' w'.heap.size R zs ∧ (∀ ad, R = some ad → w.heap.size ≤ ad.block) ∧ Keeps (fun _ => False) w w' := by
  subst hz
  obtain ⟨lb, mb, m, iv, h, _⟩ := h
  obtain ⟨e1, e2, e3⟩ := now64 ho hd i hi
  refine (read_at h (i : Int)).mono ?_
  rintro e w' ⟨R, c, rfl, hr, ha, hk⟩
  rw [e1] at hr
  exact ⟨R, c, by rw [e1, e2, e3], hr, ha, hk⟩
theorem Dk.lenN {w : World} {F : Nat → Prop} {p : Nat} {D : DSt} {n : Nat} (h : Dk w F p D) (ho : D.Ok n) : Calls Tryz.prog 37 #[.pointer (some ⟨p, 0, none⟩)] w fun e w' => e = .returned (.int .i64 (n : Int)) ∧ w = w' := by
  obtain ⟨lb, mb, m, iv, h, _⟩ := h
  have e1 := h.ok.len
  have e2 := ho.len
  obtain rfl : m = n := by omega
  exact len_at h
theorem restart_ok {D : DSt} {n : Nat} (h : On D) (ho : D.Ok n) (f : Fate) : (D.flush.restart f).Ok n ∧ (D.flush.restart f).down = false ∧ (D.flush.restart f).Q = [] := by
  obtain ⟨e1, e2, _⟩ := flush_parts h
  have e4 : (D.flush.restart f).L = D.flush.L := by
    show layTo f D.flush.L D.flush.Q D.flush.Q.length = D.flush.L
    rw [e2]; rfl
  refine ⟨⟨?_, ho.n_le, (fun q hq => by cases hq), (by show (-1 : Int) ≤ -1; decide), (by show (-1 : Int) ≤ 9223372036854775807; decide)⟩, rfl, rfl⟩
  rw [e4, e1, layTo_len _ _ _ (okQ ho) _ (Nat.le_refl _), ho.len]
end Go.Proofs.YtacghpabjmnfiaaGreatDoor
namespace Go.Proofs.YtacghpabjmnfiaaGreatDoor
open Go.RowKit

/-- k sectors: the row v, the i-th one's bytes in block G i. -/
structure Secs (w : World) (T k : Nat) (v : Value) (G : Nat → Nat) (zs : Nat → List UInt8) : Prop where
  own : w.ownsRow T 30 1 v k ((List.range k).map fun i => .slice (some ⟨G i, 0, none⟩) 64 64)
  row : ∀ i, i < k → Row8 w (G i) 5 (zs i) ∧ (zs i).length = 64 ∧ T ≤ G i ∧ v.ownBlock ≠ some (G i)
  inj : ∀ i j, i < k → j < k → G i = G j → i = j
theorem Secs.lt {w : World} {T k : Nat} {v : Value} {G : Nat → Nat} {zs : Nat → List UInt8} (h : Secs w T k v G zs) (b : Nat) (e : v.ownBlock = some b) : T ≤ b ∧ b < w.heap.size := World.ownsRow.lt h.own b e
theorem Row8.keepB {w w' : World} {g : Nat} {t : TypeId} {zs : List UInt8} (h : Row8 w g t zs) (e : w'.heap[g]? = w.heap[g]?) : Row8 w' g t zs := by
  obtain ⟨c, h1, h2⟩ := h
  exact ⟨c, e.trans h1, h2⟩
theorem ownsRow_keepB {w w' : World} {T k : Nat} {t : TypeId} {v : Value} {vs : List Value} (h : w.ownsRow T t 1 v k vs) (e : ∀ b, v.ownBlock = some b → w'.heap[b]? = w.heap[b]?) : w'.ownsRow T t 1 v k vs := by
  obtain ⟨h0, h1⟩ := h
  refine ⟨h0, ?_⟩
  rcases h1 with hn | ⟨g, cap, cur, hv, hb, hgg, rest⟩
  · exact .inl hn
  · exact .inr ⟨g, cap, cur, hv, hb, (e g (by rw [hv]; rfl)).trans hgg, rest⟩
theorem Secs.keep {w w' : World} {F : Nat → Prop} {T k : Nat} {v : Value} {G : Nat → Nat} {zs : Nat → List UInt8} (h : Secs w T k v G zs) (kp : Keeps F w w') (hF : ∀ b, T ≤ b → b < w.heap.size → ¬ F b) : Secs w' T k v G zs :=
  ⟨ownsRow_keepB h.own fun b e => kp.block b (h.lt b e).2 (hF b (h.lt b e).1 (h.lt b e).2), fun i hi => ⟨(h.row i hi).1.keepB (kp.block _ (h.row i hi).1.lt_ (hF _ (h.row i hi).2.2.1 (h.row i hi).1.lt_)), (h.row i hi).2⟩, h.inj⟩
theorem Secs.start (w : World) (T : Nat) (G : Nat → Nat) (zs : Nat → List UInt8) : Secs w T 0 (.slice none 0 0) G zs :=
  ⟨World.ownsRow_nil _ _ _ _, fun i hi => absurd hi (Nat.not_lt_zero i), fun i _ hi => absurd hi (Nat.not_lt_zero i)⟩
theorem Secs.form {w : World} {T k : Nat} {v : Value} {G : Nat → Nat} {zs : Nat → List UInt8} (h : Secs w T k v G zs) : ∃ A cap, v = .slice A k cap := by
  rcases h.own.2 with ⟨rfl, hn⟩ | ⟨_, cap, _, e, _⟩
  · exact ⟨none, 0, by rw [hn]⟩
  · exact ⟨_, cap, e⟩
set_option maxRecDepth 100000 in
/-- One sector more, its bytes in a block of its own. -/
theorem Secs.app {w : World} {T k : Nat} {v : Value} {G : Nat → Nat} {zs : Nat → List UInt8} (h : Secs w T k v G zs) (hT : T ≤ w.heap.size) (hk : k ≤ 2000) (g0 : Nat) (hr : Row8 w g0 5 (zs k)) (hz : (zs k).length = 64) (hT0 : T ≤ g0) (hv : v.ownBlock ≠ some g0) (hn : ∀ i, i < k → G i ≠ g0) (g c' : Nat) (ty : TypeId) (hg : w.cell? ⟨g, 0, none⟩ = some (.slice (some ⟨g0, 0, none⟩) 64 64)) :
    ∃ v' w', (Builtin.append_ #[54, 54] ty #[v, .slice (some ⟨g, 0, none⟩) 1 c']).run Tryz.prog w = .ok v' w' ∧ Secs w' T (k + 1) v' (fun i => if i = k then g0 else G i) zs ∧ Keeps (fun b => v.ownBlock = some b) w w' := by
  obtain ⟨i0, hi, hz0, hz1, hz2⟩ := info_parts Tryz.info30
  obtain ⟨v', w', hrun, hown, hgr, _, hblk⟩ := run_append_own_at (P := Tryz.prog) w T 54 ty 30 i0 _ 1 24 Tryz.underlying54 hi hz0 hz1 hz2 rfl (by decide) v k _ h.own ⟨g, 0, none⟩ 1 c' [.slice (some ⟨g0, 0, none⟩) 64 64] rfl (fun j u hu => by
    match j, hu with
    | 0, hu => cases hu; exact hg
    | j + 1, hu => simp at hu) (by intro u hu; simp at hu; subst hu; rfl) (by unfold maxLen; omega) (by omega) hT
  have hkp : Keeps (fun b => v.ownBlock = some b) w w' := Keeps.grown _ hgr fun _ e => e
  have hlt0 := hr.lt_
  have nb : ∀ b, b < w.heap.size → v.ownBlock ≠ some b → v'.ownBlock ≠ some b := fun b hb hne e => by
    rcases hblk with e1 | e1
    · rw [e1] at e; exact hne e
    · rw [e1] at e; simp only [Option.some.injEq] at e; omega
  refine ⟨v', w', hrun, ⟨?_, fun i hi => ?_, fun i j hi hj e => ?_⟩, hkp⟩
  · have e1 : (List.range (k + 1)).map (fun i => Value.slice (some ⟨if i = k then g0 else G i, 0, none⟩) 64 64) = (List.range k).map (fun i => Value.slice (some ⟨G i, 0, none⟩) 64 64) ++ [.slice (some ⟨g0, 0, none⟩) 64 64] := by
      rw [List.range_succ, List.map_append]
      congr 1
      · refine List.map_congr_left fun i hi => ?_
        rw [if_neg (by have := List.mem_range.1 hi; omega)]
      · simp
    rw [e1]; exact hown
  · by_cases e : i = k
    · subst e
      rw [if_pos rfl]
      exact ⟨hr.keepB (hkp.block _ hlt0 hv), hz, hT0, nb _ hlt0 hv⟩
    · rw [if_neg e]
      have hh := h.row i (by omega)
      exact ⟨hh.1.keepB (hkp.block _ hh.1.lt_ hh.2.2.2), hh.2.1, hh.2.2.1, nb _ hh.1.lt_ hh.2.2.2⟩
  · by_cases ei : i = k
    · by_cases ej : j = k
      · omega
      · rw [if_pos ei, if_neg ej] at e
        exact absurd e.symm (hn j (by omega))
    · by_cases ej : j = k
      · rw [if_neg ei, if_pos ej] at e
        exact absurd e (hn i (by omega))
      · rw [if_neg ei, if_neg ej] at e
        exact h.inj i j (by omega) (by omega) e
/-- The i-th, read. -/
theorem Secs.at_ {w : World} {T k : Nat} {v : Value} {G : Nat → Nat} {zs : Nat → List UInt8} (h : Secs w T k v G zs) (i : Nat) (hi : i < k) : ∃ g cap, v = .slice (some ⟨g, 0, none⟩) k cap ∧ w.cell? ⟨g, i, none⟩ = some (.slice (some ⟨G i, 0, none⟩) 64 64) := by
  obtain ⟨g, cap, hv, _, _⟩ := World.ownsRow.form h.own (by omega)
  have := World.ownsRow.cells h.own (g := g) (by rw [hv]; rfl) i (.slice (some ⟨G i, 0, none⟩) 64 64) (by simp [hi])
  have e0 : (⟨g, 0, none⟩ : Addr).add i = ⟨g, i, none⟩ := by unfold Addr.add; split <;> simp_all
  rw [e0] at this
  exact ⟨g, cap, hv, this⟩
/-- The i-th sector's bytes are others now. -/
theorem Secs.put {w w' : World} {T k : Nat} {v : Value} {G : Nat → Nat} {zs : Nat → List UInt8} (h : Secs w T k v G zs) (i : Nat) (hi : i < k) (ys : List UInt8) (hl : ys.length = 64) (kp : Keeps (· = G i) w w') (hr : Row8 w' (G i) 5 ys) : Secs w' T k v G (fun j => if j = i then ys else zs j) := by
  refine ⟨ownsRow_keepB h.own fun b e => kp.block b (h.lt b e).2 (fun eb => (h.row i hi).2.2.2 (by rw [← eb]; exact e)), fun j hj => ?_, h.inj⟩
  by_cases e : j = i
  · subst e
    rw [if_pos rfl]
    exact ⟨hr, hl, (h.row j hj).2.2⟩
  · rw [if_neg e]
    have hh := h.row j hj
    exact ⟨hh.1.keepB (kp.block _ hh.1.lt_ (fun eb => e (h.inj j i hj hi eb))), hh.2⟩
end Go.Proofs.YtacghpabjmnfiaaGreatDoor
namespace Go.Proofs.YtacghpabjmnfiaaGreatDoor
open Go.RowKit

theorem load44 {w : World} {b o : Nat} {v : Value} (h : w.cell? ⟨b, o, none⟩ = some v) : (Instr.loadAt 54 (.pointer (some ⟨b, o, none⟩))).run Tryz.prog w = .ok v w := by
  have hagg : (isAgg 54).run Tryz.prog w = .ok false w := by unfold isAgg; rw [Sem.run_bind, run_underlying Tryz.underlying54 w]; rfl
  simp [Instr.loadAt, Instr.sureAddr, loadVar, hagg, h]
theorem ex_makeSlice {P : Program} {w w' : World} {o : Oper} {ρ : Operand → Value} (t : TypeId) (x y : Operand) (ho : o.op = .makeSlice t x y) (a b v : Value) (hx : ρ x = a) (hy : ρ y = b) (hrun : (Instr.makeSlice t a b).run P w = .ok v w') : (execOp ρ o).run P w = .ok (.value v) w' := by
  unfold execOp
  simp only [ho, hx, hy, Sem.run_bind, hrun, Result.andThen_ok, Sem.run_pure]
theorem make64R (w : World) :
    (Instr.makeSlice 30 (.int .i64 64) (.int .i64 64)).run Tryz.prog w = .ok (.slice (some ⟨w.heap.size, 0, none⟩) 64 64) (w.alloc (.cells (madeCells #[.int .u8 0] 64) 5)) := make8 64 (by decide) w

/-- The document's disk behind block p while it is made: sectors alone. -/
structure RNew (w wr : World) (p k : Nat) (v : Value) (G : Nat → Nat) (zs : Nat → List UInt8) : Prop where
  head : wr.heap[p]? = some (.cells #[v, .slice none 0 0, .int .i64 (-1), .bool false, .int .i64 0] 57 (0, 0))
  secs : Secs wr (p + 1) k v G zs
  kp : Keeps (fun _ => False) w wr
  new : w.heap.size ≤ p
def RMade (w : World) (k : Nat) (zs : Nat → List UInt8) (e : Ending) (w' : World) : Prop := ∃ p v G, e = .returned (.pointer (some ⟨p, 0, none⟩)) ∧ RNew w w' p k v G zs

set_option maxRecDepth 100000 in
set_option maxHeartbeats 1000000 in
theorem refNew_mid (i : Int) (n : Nat) (w : World) (h1 : ¬ i < 0) (h2 : ¬ 2000 < i) (h3 : i = (n : Int)) (hn : n ≤ 2000) : Calls Tryz.prog 74 #[.int .i64 i] w (RMade w n fun _ => zs64) := by
  go_enter Tryz.func74, Tryz.ntmps74
  go_wp2_with fail
  go_loopw [4] (fun s wr => ∃ (k : Nat) (v : Value) (G : Nat → Nat), k ≤ n ∧ s = .int .i64 k ∧ RNew w wr w.heap.size k v G fun _ => zs64) (fun s _ => n - (intOf s).toNat)
  case atStart => exact ⟨0, .slice none 0 0, fun _ => 0, by omega, rfl, heap_alloc_new _ _, Secs.start _ _ _ _, Keeps.alloc _ _ _, Nat.le_refl _⟩
  case round =>
    obtain ⟨k, v, G, hk, rfl, inv⟩ := hrel
    by_cases hlt : k < n
    · have hkn : (k : Int) < i := by omega
      go_wp2_with fail
      refine wp_region_any (by kernel_rfl) ?_
      change wpAny _ _ _ _ _ _ _ (World.drew wr)
      have kd : Keeps (fun _ => False) wr wr.drew := Keeps.drew _ _
      have inv0 : RNew w wr.drew w.heap.size k v G (fun _ => zs64) := ⟨inv.head, inv.secs.keep kd (fun _ _ _ h => h), inv.kp.trans kd, inv.new⟩
      clear inv kd
      generalize wr.drew = w0 at *
      have hp0 : w.heap.size < w0.heap.size := (Array.getElem?_eq_some_iff.1 inv0.head).1
      have kA : Keeps (fun _ => False) w0 (w0.alloc (.cells (madeCells #[.int .u8 0] 64) 5)) := Keeps.alloc _ _ _
      have kB : Keeps (fun _ => False) (w0.alloc (.cells (madeCells #[.int .u8 0] 64) 5)) ((w0.alloc (.cells (madeCells #[.int .u8 0] 64) 5)).alloc (.cells #[.slice (some ⟨w0.heap.size, 0, none⟩) 64 64] 30)) := Keeps.alloc _ _ _
      have hcA := kA.block _ hp0 (fun h => h)
      have hsA : (w0.alloc (.cells (madeCells #[.int .u8 0] 64) 5)).heap.size = w0.heap.size + 1 := by simp
      have hcB := (kB.block w.heap.size (by rw [hsA]; omega) (fun h => h)).trans hcA
      have hl0 := load44 (w := w0) (b := w.heap.size) (o := 0) (v := v) (by rw [cell_of_row _ _ _ _ _ _ inv0.head]; rfl)
      have hlA := load44 (w := w0.alloc (.cells (madeCells #[.int .u8 0] 64) 5)) (b := w.heap.size) (o := 0) (v := v) (by rw [cell_of_row _ _ _ _ _ _ (hcA.trans inv0.head)]; rfl)
      have hlB := load44 (w := (w0.alloc (.cells (madeCells #[.int .u8 0] 64) 5)).alloc (.cells #[.slice (some ⟨w0.heap.size, 0, none⟩) 64 64] 30)) (b := w.heap.size) (o := 0) (v := v) (by rw [cell_of_row _ _ _ _ _ _ (hcB.trans inv0.head)]; rfl)
      refine wpAny_take (oi := ⟨_, _, _, _, _, _⟩) (i := 0) (v := .pointer (some ⟨w.heap.size, 0, none⟩)) rfl (by kernel_rfl) (by kernel_rfl) (by kernel_rfl) (fun _ _ _ h => h) (Or.inl ⟨by rfl, fun _ => rfl⟩) ?_
      refine wpAny_take (oi := ⟨_, _, _, _, _, _⟩) (i := 1) (v := .pointer (some ⟨w.heap.size, 0, none⟩)) rfl (by kernel_rfl) (by kernel_rfl) (by kernel_rfl) (fun _ _ _ h => h) (Or.inl ⟨by rfl, fun _ => rfl⟩) ?_
      refine wpAny_take (oi := ⟨_, _, _, _, _, _⟩) (i := 2) (v := .pointer (some ⟨w.heap.size, 0, none⟩)) rfl (by kernel_rfl) (by kernel_rfl) (by kernel_rfl) (fun _ _ _ h => h) (Or.inl ⟨by rfl, fun _ => rfl⟩) ?_
      refine wpAny_take (oi := ⟨_, _, _, _, _, _⟩) (i := 3) (v := .pointer (some ⟨w.heap.size, 0, none⟩)) rfl (by kernel_rfl) (by kernel_rfl) (by kernel_rfl) (fun _ _ _ h => h) (Or.inl ⟨by rfl, fun w => by go_simp⟩) ?_
      simp only [Act.put, List.setIfInBounds_toArray, List.set_cons_zero, List.set_cons_succ]
      refine Both.go (oi := ⟨_, _, _, _, _, _⟩) (i := 4) (v := v) rfl ?_
      refine Both.step rfl 5 ⟨_, _, _, _, _, _⟩ rfl (by kernel_rfl) (yields_load rfl 54 (.tmp 17) rfl _ _ rfl hl0) _ (op_run rfl rfl (ex_makeSlice 30 (.const (.int .i64 64)) (.const (.int .i64 64)) rfl _ _ _ rfl rfl (make64R w0))) ?_
      rintro u1 w1 ⟨rfl, rfl⟩
      simp only [Act.put, List.setIfInBounds_toArray, List.set_cons_zero, List.set_cons_succ]
      refine Both.step rfl 6 ⟨_, _, _, _, _, _⟩ rfl (by kernel_rfl) (yields_load rfl 54 (.tmp 17) rfl _ _ rfl hlA) _ (op_run rfl rfl (ex_buildSlice 54 (.tmp 19) rfl _ _ rfl (bslice44 _ _ _ _))) ?_
      rintro u2 w2 ⟨rfl, rfl⟩
      simp only [Act.put, List.setIfInBounds_toArray, List.set_cons_zero, List.set_cons_succ]
      refine Both.done rfl (by kernel_rfl) (yields_load rfl 54 (.tmp 17) rfl _ _ rfl hlB) ?_
      refine wpAny_of_chain [7, 8, 9, 10] [_, _, _, _] _ _ _ rfl (by kernel_rfl) ?_
      clear hl0 hlA hlB
      simp only [Act.put, List.setIfInBounds_toArray, List.set_cons_zero, List.set_cons_succ]
      have kAB := kA.trans kB
      have secB := inv0.secs.keep kAB (fun _ _ _ h => h)
      have rowB : Row8 ((w0.alloc (.cells (madeCells #[.int .u8 0] 64) 5)).alloc (.cells #[.slice (some ⟨w0.heap.size, 0, none⟩) 64 64] 30)) w0.heap.size 5 zs64 := ((Row8.made w0 64 5).alloc _ : Row8 ((w0.alloc (.cells (madeCells #[.int .u8 0] 64) 5)).alloc (.cells #[.slice (some ⟨w0.heap.size, 0, none⟩) 64 64] 30)) w0.heap.size 5 (List.replicate 64 0))
      have hvB : v.ownBlock ≠ some w0.heap.size := fun e => by have := (inv0.secs.lt _ e).2; omega
      have hGB : ∀ i, i < k → G i ≠ w0.heap.size := fun i hi e => by have := (inv0.secs.row i hi).1.lt_; omega
      have hsB : (w0.alloc (.cells (madeCells #[.int .u8 0] 64) 5)).heap.size < ((w0.alloc (.cells (madeCells #[.int .u8 0] 64) 5)).alloc (.cells #[.slice (some ⟨w0.heap.size, 0, none⟩) 64 64] 30)).heap.size := by simp
      have cellB : ((w0.alloc (.cells (madeCells #[.int .u8 0] 64) 5)).alloc (.cells #[.slice (some ⟨w0.heap.size, 0, none⟩) 64 64] 30)).cell? ⟨(w0.alloc (.cells (madeCells #[.int .u8 0] 64) 5)).heap.size, 0, none⟩ = some (.slice (some ⟨w0.heap.size, 0, none⟩) 64 64) := by rw [cell_of_row _ _ _ _ _ _ (heap_alloc_new _ _)]; rfl
      obtain ⟨v', w3, hap, sec3, k3⟩ := secB.app (by omega) (by omega) w0.heap.size rowB zs64_len (by omega) hvB hGB _ 1 54 cellB
      refine wpList_append_run rfl _ _ _ rfl v' hap ?_
      have hne : v.ownBlock ≠ some w.heap.size := fun e => by have := (inv0.secs.lt _ e).1; omega
      have h3 := (k3.block w.heap.size (by omega) (fun e => hne e)).trans (hcB.trans inv0.head)
      have d0 : w3.cell? ⟨w.heap.size, 0, none⟩ = some v := by rw [cell_of_row _ _ _ _ _ _ h3]; rfl
      have z0 := frozen_of_row w3 w.heap.size 0 _ _ h3
      have INV : Hid (RNew w (w3.setCell ⟨w.heap.size, 0, none⟩ v') w.heap.size (k + 1) v' (fun i => if i = k then w0.heap.size else G i) fun _ => zs64) := by
        have ks : Keeps (· = w.heap.size) w3 (w3.setCell ⟨w.heap.size, 0, none⟩ v') := Keeps.setCell _ _ _ _ rfl
        refine ⟨?_, sec3.keep ks (fun b h1 _ e => by omega), ?_, Nat.le_refl _⟩
        · rw [heap_setCell_same _ _ _ _ _ _ h3]; rfl
        · refine ⟨ks.os.trans (k3.os.trans (kAB.os.trans inv0.kp.os)), ks.tape.trans (k3.tape.trans (kAB.tape.trans inv0.kp.tape)), ks.output.trans (k3.output.trans (kAB.output.trans inv0.kp.output)), Nat.le_trans inv0.kp.size (Nat.le_trans kAB.size (Nat.le_trans k3.size ks.size)), fun b hb _ => ?_⟩
          have hb0 := Nat.lt_of_lt_of_le hb inv0.kp.size
          have hbB := Nat.lt_of_lt_of_le hb0 kAB.size
          rw [ks.block b (Nat.lt_of_lt_of_le hbB k3.size) (by omega), k3.block b hbB (fun e => by have := (inv0.secs.lt _ e).1; omega), kAB.block b hb0 (fun h => h)]
          exact inv0.kp.block b hb (fun h => h)
      obtain ⟨A', cap', hv'⟩ := sec3.form
      subst hv'
      clear hap sec3 k3 h3 secB rowB hvB hGB cellB inv0 kA kB kAB hcA hcB hne
      go_wp2_with fail
      go_roundw
      case rel => exact ⟨k + 1, _, _, by omega, by go_num, INV.out⟩
      case measure => simp [intOf]; omega
    · obtain rfl : k = n := by omega
      go_wp2_with fail
      go_ret
      exact ⟨w.heap.size, v, G, rfl, inv⟩
set_option maxRecDepth 100000 in
set_option maxHeartbeats 1000000 in
theorem refNew_high (i : Int) (n : Nat) (w : World) (h2 : 2000 < i) (h3 : n = 2000) (hn : n ≤ 2000) : Calls Tryz.prog 74 #[.int .i64 i] w (RMade w n fun _ => zs64) := by
  have H3 := Lib.hid h3
  clear h3
  go_enter Tryz.func74, Tryz.ntmps74
  go_wp2_with fail
  go_loopw [4] (fun s wr => ∃ (k : Nat) (v : Value) (G : Nat → Nat), k ≤ n ∧ s = .int .i64 k ∧ RNew w wr w.heap.size k v G fun _ => zs64) (fun s _ => n - (intOf s).toNat)
  case atStart => exact ⟨0, .slice none 0 0, fun _ => 0, by omega, rfl, heap_alloc_new _ _, Secs.start _ _ _ _, Keeps.alloc _ _ _, Nat.le_refl _⟩
  case round =>
    obtain ⟨k, v, G, hk, rfl, inv⟩ := hrel
    by_cases hlt : k < n
    · have hkn : (k : Int) < 2000 := by have := H3.out; omega
      go_wp2_with fail
      refine wp_region_any (by kernel_rfl) ?_
      change wpAny _ _ _ _ _ _ _ (World.drew wr)
      have kd : Keeps (fun _ => False) wr wr.drew := Keeps.drew _ _
      have inv0 : RNew w wr.drew w.heap.size k v G (fun _ => zs64) := ⟨inv.head, inv.secs.keep kd (fun _ _ _ h => h), inv.kp.trans kd, inv.new⟩
      clear inv kd
      generalize wr.drew = w0 at *
      have hp0 : w.heap.size < w0.heap.size := (Array.getElem?_eq_some_iff.1 inv0.head).1
      have kA : Keeps (fun _ => False) w0 (w0.alloc (.cells (madeCells #[.int .u8 0] 64) 5)) := Keeps.alloc _ _ _
      have kB : Keeps (fun _ => False) (w0.alloc (.cells (madeCells #[.int .u8 0] 64) 5)) ((w0.alloc (.cells (madeCells #[.int .u8 0] 64) 5)).alloc (.cells #[.slice (some ⟨w0.heap.size, 0, none⟩) 64 64] 30)) := Keeps.alloc _ _ _
      have hcA := kA.block _ hp0 (fun h => h)
      have hsA : (w0.alloc (.cells (madeCells #[.int .u8 0] 64) 5)).heap.size = w0.heap.size + 1 := by simp
      have hcB := (kB.block w.heap.size (by rw [hsA]; omega) (fun h => h)).trans hcA
      have hl0 := load44 (w := w0) (b := w.heap.size) (o := 0) (v := v) (by rw [cell_of_row _ _ _ _ _ _ inv0.head]; rfl)
      have hlA := load44 (w := w0.alloc (.cells (madeCells #[.int .u8 0] 64) 5)) (b := w.heap.size) (o := 0) (v := v) (by rw [cell_of_row _ _ _ _ _ _ (hcA.trans inv0.head)]; rfl)
      have hlB := load44 (w := (w0.alloc (.cells (madeCells #[.int .u8 0] 64) 5)).alloc (.cells #[.slice (some ⟨w0.heap.size, 0, none⟩) 64 64] 30)) (b := w.heap.size) (o := 0) (v := v) (by rw [cell_of_row _ _ _ _ _ _ (hcB.trans inv0.head)]; rfl)
      refine wpAny_take (oi := ⟨_, _, _, _, _, _⟩) (i := 0) (v := .pointer (some ⟨w.heap.size, 0, none⟩)) rfl (by kernel_rfl) (by kernel_rfl) (by kernel_rfl) (fun _ _ _ h => h) (Or.inl ⟨by rfl, fun _ => rfl⟩) ?_
      refine wpAny_take (oi := ⟨_, _, _, _, _, _⟩) (i := 1) (v := .pointer (some ⟨w.heap.size, 0, none⟩)) rfl (by kernel_rfl) (by kernel_rfl) (by kernel_rfl) (fun _ _ _ h => h) (Or.inl ⟨by rfl, fun _ => rfl⟩) ?_
      refine wpAny_take (oi := ⟨_, _, _, _, _, _⟩) (i := 2) (v := .pointer (some ⟨w.heap.size, 0, none⟩)) rfl (by kernel_rfl) (by kernel_rfl) (by kernel_rfl) (fun _ _ _ h => h) (Or.inl ⟨by rfl, fun _ => rfl⟩) ?_
      refine wpAny_take (oi := ⟨_, _, _, _, _, _⟩) (i := 3) (v := .pointer (some ⟨w.heap.size, 0, none⟩)) rfl (by kernel_rfl) (by kernel_rfl) (by kernel_rfl) (fun _ _ _ h => h) (Or.inl ⟨by rfl, fun w => by go_simp⟩) ?_
      simp only [Act.put, List.setIfInBounds_toArray, List.set_cons_zero, List.set_cons_succ]
      refine Both.go (oi := ⟨_, _, _, _, _, _⟩) (i := 4) (v := v) rfl ?_
      refine Both.step rfl 5 ⟨_, _, _, _, _, _⟩ rfl (by kernel_rfl) (yields_load rfl 54 (.tmp 17) rfl _ _ rfl hl0) _ (op_run rfl rfl (ex_makeSlice 30 (.const (.int .i64 64)) (.const (.int .i64 64)) rfl _ _ _ rfl rfl (make64R w0))) ?_
      rintro u1 w1 ⟨rfl, rfl⟩
      simp only [Act.put, List.setIfInBounds_toArray, List.set_cons_zero, List.set_cons_succ]
      refine Both.step rfl 6 ⟨_, _, _, _, _, _⟩ rfl (by kernel_rfl) (yields_load rfl 54 (.tmp 17) rfl _ _ rfl hlA) _ (op_run rfl rfl (ex_buildSlice 54 (.tmp 19) rfl _ _ rfl (bslice44 _ _ _ _))) ?_
      rintro u2 w2 ⟨rfl, rfl⟩
      simp only [Act.put, List.setIfInBounds_toArray, List.set_cons_zero, List.set_cons_succ]
      refine Both.done rfl (by kernel_rfl) (yields_load rfl 54 (.tmp 17) rfl _ _ rfl hlB) ?_
      refine wpAny_of_chain [7, 8, 9, 10] [_, _, _, _] _ _ _ rfl (by kernel_rfl) ?_
      clear hl0 hlA hlB
      simp only [Act.put, List.setIfInBounds_toArray, List.set_cons_zero, List.set_cons_succ]
      have kAB := kA.trans kB
      have secB := inv0.secs.keep kAB (fun _ _ _ h => h)
      have rowB : Row8 ((w0.alloc (.cells (madeCells #[.int .u8 0] 64) 5)).alloc (.cells #[.slice (some ⟨w0.heap.size, 0, none⟩) 64 64] 30)) w0.heap.size 5 zs64 := ((Row8.made w0 64 5).alloc _ : Row8 ((w0.alloc (.cells (madeCells #[.int .u8 0] 64) 5)).alloc (.cells #[.slice (some ⟨w0.heap.size, 0, none⟩) 64 64] 30)) w0.heap.size 5 (List.replicate 64 0))
      have hvB : v.ownBlock ≠ some w0.heap.size := fun e => by have := (inv0.secs.lt _ e).2; omega
      have hGB : ∀ i, i < k → G i ≠ w0.heap.size := fun i hi e => by have := (inv0.secs.row i hi).1.lt_; omega
      have hsB : (w0.alloc (.cells (madeCells #[.int .u8 0] 64) 5)).heap.size < ((w0.alloc (.cells (madeCells #[.int .u8 0] 64) 5)).alloc (.cells #[.slice (some ⟨w0.heap.size, 0, none⟩) 64 64] 30)).heap.size := by simp
      have cellB : ((w0.alloc (.cells (madeCells #[.int .u8 0] 64) 5)).alloc (.cells #[.slice (some ⟨w0.heap.size, 0, none⟩) 64 64] 30)).cell? ⟨(w0.alloc (.cells (madeCells #[.int .u8 0] 64) 5)).heap.size, 0, none⟩ = some (.slice (some ⟨w0.heap.size, 0, none⟩) 64 64) := by rw [cell_of_row _ _ _ _ _ _ (heap_alloc_new _ _)]; rfl
      obtain ⟨v', w3, hap, sec3, k3⟩ := secB.app (by omega) (by omega) w0.heap.size rowB zs64_len (by omega) hvB hGB _ 1 54 cellB
      refine wpList_append_run rfl _ _ _ rfl v' hap ?_
      have hne : v.ownBlock ≠ some w.heap.size := fun e => by have := (inv0.secs.lt _ e).1; omega
      have h3 := (k3.block w.heap.size (by omega) (fun e => hne e)).trans (hcB.trans inv0.head)
      have d0 : w3.cell? ⟨w.heap.size, 0, none⟩ = some v := by rw [cell_of_row _ _ _ _ _ _ h3]; rfl
      have z0 := frozen_of_row w3 w.heap.size 0 _ _ h3
      have INV : Hid (RNew w (w3.setCell ⟨w.heap.size, 0, none⟩ v') w.heap.size (k + 1) v' (fun i => if i = k then w0.heap.size else G i) fun _ => zs64) := by
        have ks : Keeps (· = w.heap.size) w3 (w3.setCell ⟨w.heap.size, 0, none⟩ v') := Keeps.setCell _ _ _ _ rfl
        refine ⟨?_, sec3.keep ks (fun b h1 _ e => by omega), ?_, Nat.le_refl _⟩
        · rw [heap_setCell_same _ _ _ _ _ _ h3]; rfl
        · refine ⟨ks.os.trans (k3.os.trans (kAB.os.trans inv0.kp.os)), ks.tape.trans (k3.tape.trans (kAB.tape.trans inv0.kp.tape)), ks.output.trans (k3.output.trans (kAB.output.trans inv0.kp.output)), Nat.le_trans inv0.kp.size (Nat.le_trans kAB.size (Nat.le_trans k3.size ks.size)), fun b hb _ => ?_⟩
          have hb0 := Nat.lt_of_lt_of_le hb inv0.kp.size
          have hbB := Nat.lt_of_lt_of_le hb0 kAB.size
          rw [ks.block b (Nat.lt_of_lt_of_le hbB k3.size) (by omega), k3.block b hbB (fun e => by have := (inv0.secs.lt _ e).1; omega), kAB.block b hb0 (fun h => h)]
          exact inv0.kp.block b hb (fun h => h)
      obtain ⟨A', cap', hv'⟩ := sec3.form
      subst hv'
      clear hap sec3 k3 h3 secB rowB hvB hGB cellB inv0 kA kB kAB hcA hcB hne
      go_wp2_with fail
      go_roundw
      case rel => exact ⟨k + 1, _, _, by omega, by go_num, INV.out⟩
      case measure => simp [intOf]; omega
    · obtain rfl : k = n := by omega
      have hkn : ¬ (k : Int) < 2000 := by have := H3.out; omega
      go_wp2_with fail
      go_ret
      exact ⟨w.heap.size, v, G, rfl, inv⟩
set_option maxRecDepth 100000 in
set_option maxHeartbeats 400000 in
theorem refNew_low (i : Int) (w : World) (h1 : i < 0) : Calls Tryz.prog 74 #[.int .i64 i] w (RMade w 0 fun _ => zs64) := by
  go_enter Tryz.func74, Tryz.ntmps74
  go_wp2_with fail
  go_loopw [4] (fun s wr => s = .int .i64 0 ∧ RNew w wr w.heap.size 0 (.slice none 0 0) (fun _ => 0) fun _ => zs64) (fun _ _ => 0)
  case atStart => exact ⟨rfl, heap_alloc_new _ _, Secs.start _ _ _ _, Keeps.alloc _ _ _, Nat.le_refl _⟩
  case round =>
    obtain ⟨rfl, inv⟩ := hrel
    go_wp2_with fail
    go_ret
    exact ⟨w.heap.size, _, _, rfl, inv⟩
theorem refNew_any (i : Int) (w : World) : Calls Tryz.prog 74 #[.int .i64 i] w (RMade w (nOf i) fun _ => zs64) := by
  by_cases h1 : i < 0
  · have e : nOf i = 0 := by unfold nOf; omega
    rw [e]; exact refNew_low i w h1
  · by_cases h2 : 2000 < i
    · exact refNew_high i _ w h2 (by unfold nOf; omega) (by unfold nOf; omega)
    · exact refNew_mid i _ w h1 h2 (by unfold nOf; omega) (by unfold nOf; omega)
end Go.Proofs.YtacghpabjmnfiaaGreatDoor
namespace Go.Proofs.YtacghpabjmnfiaaGreatDoor
open Go.RowKit

theorem sec_padded (xs : List UInt8) (k : Nat) (hk : k < nBytes xs.length) : splice zs64 0 ((xs.drop (k * 64)).take 64) = sec (padded xs) k := by
  have hpl := padded_len xs
  apply List.ext_getElem?
  intro i
  rw [sec_get, splice_get _ _ _ _ (by rw [zs64_len]; simp; omega), if_neg (by omega)]
  by_cases hi : i < 64
  · rw [if_pos hi]
    unfold padded
    by_cases h1 : k * 64 + i < xs.length
    · rw [if_pos (by simp; omega), Nat.sub_zero, List.getElem?_take, if_pos hi, List.getElem?_drop, List.getElem?_append_left h1]
    · rw [if_neg (by simp; omega), List.getElem?_append_right (by omega), List.getElem?_replicate, if_pos (by unfold nBytes at *; omega)]
      unfold zs64
      rw [List.getElem?_replicate, if_pos hi]
  · rw [if_neg hi, if_neg (by simp; omega), List.getElem?_eq_none (by rw [zs64_len]; omega)]
theorem sec_pad_len (xs : List UInt8) (k : Nat) (hk : k < nBytes xs.length) : (sec (padded xs) k).length = 64 := sec_lenL (by rw [padded_len]; omega)

/-- The first k filled. -/
def fillR (xs : List UInt8) (k i : Nat) : List UInt8 := if i < k then sec (padded xs) i else zs64
theorem fillR_step (xs : List UInt8) (k : Nat) : (fun j => if j = k then sec (padded xs) k else fillR xs k j) = fillR xs (k + 1) := by
  funext j
  unfold fillR
  by_cases e : j = k
  · subst e; rw [if_pos rfl, if_pos (by omega)]
  · rw [if_neg e]
    by_cases h : j < k
    · rw [if_pos h, if_pos (by omega)]
    · rw [if_neg h, if_neg (by omega)]

set_option maxRecDepth 100000 in
set_option maxHeartbeats 1000000 in
theorem refOf_go (A : Option Addr) (xs : List UInt8) (c : Nat) (w : World) (hx : BR w w.heap.size A xs) (hl : xs.length ≤ 128000) (hc : xs.length ≤ c) :
    Calls Tryz.prog 22 #[.slice A xs.length c] w (RMade w (nBytes xs.length) (fillR xs (nBytes xs.length))) := by
  have hm : nBytes xs.length ≤ 2000 := by unfold nBytes; omega
  have hnew := refNew_any ((nBytes xs.length : Nat) : Int) w
  have en : nOf ((nBytes xs.length : Nat) : Int) = nBytes xs.length := by unfold nOf; omega
  rw [en] at hnew
  have HNEW := Lib.hid hnew
  clear hnew en
  by_cases hr : xs.length % 64 = 0
  · have hr' : ¬ (0 : Int) < (xs.length : Int) % 64 := by omega
    have hq : (xs.length : Int) / 64 = (nBytes xs.length : Int) := by unfold nBytes; omega
    have HQ := Lib.hid hq
    clear hq hr
    go_enter Tryz.func22, Tryz.ntmps22
    go_wp2_with fail
    rw [HQ.out]
    refine HNEW.out.mono ?_
    rintro e w1 ⟨p, v, G, rfl, inv⟩
    have HNB : Hid (∀ k, k < nBytes xs.length → k * 64 < xs.length) := fun k hk => by unfold nBytes at hk; omega
    have HSP : Hid (∀ k, k < nBytes xs.length → splice zs64 0 ((xs.drop (k * 64)).take 64) = sec (padded xs) k) := sec_padded xs
    have HSL : Hid (∀ k, k < nBytes xs.length → (sec (padded xs) k).length = 64) := sec_pad_len xs
    clear HQ HNEW
    generalize nBytes xs.length = n at *
    obtain ⟨A', cap', hv⟩ := inv.secs.form
    subst hv
    have c0 : w1.cell? ⟨p, 0, none⟩ = some (.slice A' n cap') := by rw [cell_of_row _ _ _ _ _ _ inv.head]; rfl
    go_wp2_with fail
    clear c0
    go_loopw [22, 5] (fun i _ wr => ∃ k : Nat, k ≤ n ∧ i = .int .i64 (k : Int) ∧ RNew w wr p n (.slice A' n cap') G (fillR xs k)) (fun i _ _ => n - (intOf i).toNat)
    case atStart =>
      have e0 : fillR xs 0 = fun _ => zs64 := by funext j; simp [fillR]
      exact ⟨0, by omega, rfl, by rw [e0]; exact inv⟩
    case round =>
      clear inv
      obtain ⟨k, hk, rfl, inv⟩ := hrel
      by_cases hlt : k < n
      · obtain ⟨g, cap, hv, hcell⟩ := inv.secs.at_ k hlt
        cases hv
        have hkx := HNB.out k hlt
        have hrow : Row8 wr (G k) 5 zs64 := by
          have h := (inv.secs.row k hlt).1
          have e1 : fillR xs k k = zs64 := by unfold fillR; rw [if_neg (by omega)]
          rw [e1] at h; exact h
        have hxr := inv.kp.br hx fun _ _ _ h => h
        obtain ⟨ad, rfl, had, hcs⟩ := hxr (by intro e; rw [e] at hkx; simp at hkx)
        have d0 : wr.drew.cell? ⟨p, 0, none⟩ = some (.slice (some ⟨g, 0, none⟩) n cap') := by show wr.cell? _ = _; rw [cell_of_row _ _ _ _ _ _ inv.head]; rfl
        have d1 : wr.drew.cell? ⟨g, k, none⟩ = some (.slice (some ⟨G k, 0, none⟩) 64 64) := hcell
        have hra : wr.drew.heap[G k]? = some (.cells (zs64.map B8).toArray 5 (0, 0)) := hrow.block
        have hcl : ((xs.drop (k * 64)).take 64).length = Nat.min (xs.length - k * 64) 64 := by rw [List.length_take, List.length_drop, Nat.min_comm]
        have hml : Nat.min (xs.length - k * 64) 64 ≤ 64 := Nat.min_le_right _ _
        have cpy := fun ty => run_copy_row (P := Tryz.prog) wr.drew 30 30 ty 5 (G k) 0 64 64 (ad.add (k * 64)) (xs.length - k * 64) (c - k * 64) _ 5 (((xs.drop (k * 64)).take 64).map B8) Tryz.underlying30 (by kernel_rfl) hra (by rw [List.length_map]; exact hcl) (fun j v hj => by
          simp only [List.getElem?_map, Option.map_eq_some_iff] at hj
          obtain ⟨u, hu, rfl⟩ := hj
          rw [List.getElem?_take] at hu
          split at hu
          · rw [List.getElem?_drop] at hu
            rw [Addr.add_add]
            exact hcs _ u hu
          · cases hu) (by rw [List.length_map, hcl]; simp only [List.size_toArray, List.length_map, zs64_len]; omega) (fun v hv => by
          simp only [List.mem_map] at hv
          obtain ⟨u, _, rfl⟩ := hv
          rfl)
        have CP := Lib.hid cpy
        have RA := Lib.hid hra
        clear cpy hcl hra hrow hcell
        have kd : Keeps (· = G k) wr wr.drew := Keeps.drew _ _
        have h3 : (0 : Int) ≤ (k : Int) * 64 := by omega
        have h4 : (k : Int) * 64 ≤ (xs.length : Int) := by omega
        have h5 : ¬ c = k * 64 := by omega
        have hk0 : (0 : Int) ≤ (k : Int) := by omega
        have hk1 : (k : Int) < (n : Int) := by omega
        go_wp2_with fail
        refine wp_region_still_tail 11 (by kernel_rfl) (by kernel_rfl) ?_
        simp only [List.take_succ_cons, List.take_zero, List.drop_succ_cons, List.drop_zero]
        change wpStill _ _ wr.drew (fun a' => wpList _ _ _ _ a' wr.drew) _ _
        generalize wr.drew = w2 at *
        have htn : ((k : Int) * 64).toNat = k * 64 := by omega
        have hwr := IntWalk.i64_in ((k : Int) * 64) (by omega)
        still_step
        still_step
        still_step
        still_step
        still_step
        still_step
        still_step
        still_step
        still_step
        still_step
        still_step
        refine wpStill_nil ?_
        clear hwr htn h3 h4 h5 hk0 hk1
        have hrun := CP.out 3
        clear CP
        have e3 : (((zs64.map B8).toArray.toList.take 0 ++ ((xs.drop (k * 64)).take 64).map B8 ++ (zs64.map B8).toArray.toList.drop (0 + (((xs.drop (k * 64)).take 64).map B8).length)).toArray) = ((sec (padded xs) k).map B8).toArray := by
          rw [← HSP.out k hlt]
          simp [splice, List.map_drop]
        rw [e3] at hrun
        have G3 : (w2.setRow (G k) ((sec (padded xs) k).map B8).toArray).heap[G k]? = some (.cells ((sec (padded xs) k).map B8).toArray 5 (0, 0)) := setRow_heap w2 (G k) _ _ _ _ RA.out
        have K3 : Keeps (· = G k) w2 (w2.setRow (G k) ((sec (padded xs) k).map B8).toArray) := ⟨rfl, rfl, rfl, by rw [size_setRow]; exact Nat.le_refl _, fun j _ hj => setRow_other w2 (G k) j _ hj⟩
        have k23 := kd.trans K3
        have INV : Hid (RNew w (w2.setRow (G k) ((sec (padded xs) k).map B8).toArray) p n (.slice (some ⟨g, 0, none⟩) n cap') G (fillR xs (k + 1))) := by
          have hGT := (inv.secs.row k hlt).2.2.1
          have hpl : p < wr.heap.size := (Array.getElem?_eq_some_iff.1 inv.head).1
          refine ⟨(k23.block _ hpl (by omega)).trans inv.head, ?_, ?_, inv.new⟩
          · rw [← fillR_step]
            exact inv.secs.put k hlt _ (HSL.out k hlt) k23 (Row8.of_block G3)
          · refine ⟨k23.os.trans inv.kp.os, k23.tape.trans inv.kp.tape, k23.output.trans inv.kp.output, Nat.le_trans inv.kp.size k23.size, fun b hb _ => ?_⟩
            have := inv.new
            rw [k23.block b (Nat.lt_of_lt_of_le hb inv.kp.size) (by omega)]
            exact inv.kp.block b hb (fun h => h)
        clear e3 G3 K3 k23 kd inv d0 d1 had hcs RA
        generalize w2.setRow (G k) ((sec (padded xs) k).map B8).toArray = w3 at *
        go_wp2
        go_roundw
        case rel => exact ⟨k + 1, by omega, by go_num, INV.out⟩
        case measure => simp [intOf]; omega
      · obtain rfl : k = n := by omega
        go_wp2_with fail
        go_ret
        exact ⟨p, _, G, rfl, inv⟩
  · have hr' : (0 : Int) < (xs.length : Int) % 64 := by omega
    have hq : (xs.length : Int) / 64 + 1 = (nBytes xs.length : Int) := by unfold nBytes; omega
    have HQ := Lib.hid hq
    clear hq hr
    go_enter Tryz.func22, Tryz.ntmps22
    go_wp2_with fail
    rw [HQ.out]
    refine HNEW.out.mono ?_
    rintro e w1 ⟨p, v, G, rfl, inv⟩
    have HNB : Hid (∀ k, k < nBytes xs.length → k * 64 < xs.length) := fun k hk => by unfold nBytes at hk; omega
    have HSP : Hid (∀ k, k < nBytes xs.length → splice zs64 0 ((xs.drop (k * 64)).take 64) = sec (padded xs) k) := sec_padded xs
    have HSL : Hid (∀ k, k < nBytes xs.length → (sec (padded xs) k).length = 64) := sec_pad_len xs
    clear HQ HNEW
    generalize nBytes xs.length = n at *
    obtain ⟨A', cap', hv⟩ := inv.secs.form
    subst hv
    have c0 : w1.cell? ⟨p, 0, none⟩ = some (.slice A' n cap') := by rw [cell_of_row _ _ _ _ _ _ inv.head]; rfl
    go_wp2_with fail
    clear c0
    go_loopw [22, 5] (fun i _ wr => ∃ k : Nat, k ≤ n ∧ i = .int .i64 (k : Int) ∧ RNew w wr p n (.slice A' n cap') G (fillR xs k)) (fun i _ _ => n - (intOf i).toNat)
    case atStart =>
      have e0 : fillR xs 0 = fun _ => zs64 := by funext j; simp [fillR]
      exact ⟨0, by omega, rfl, by rw [e0]; exact inv⟩
    case round =>
      clear inv
      obtain ⟨k, hk, rfl, inv⟩ := hrel
      by_cases hlt : k < n
      · obtain ⟨g, cap, hv, hcell⟩ := inv.secs.at_ k hlt
        cases hv
        have hkx := HNB.out k hlt
        have hrow : Row8 wr (G k) 5 zs64 := by
          have h := (inv.secs.row k hlt).1
          have e1 : fillR xs k k = zs64 := by unfold fillR; rw [if_neg (by omega)]
          rw [e1] at h; exact h
        have hxr := inv.kp.br hx fun _ _ _ h => h
        obtain ⟨ad, rfl, had, hcs⟩ := hxr (by intro e; rw [e] at hkx; simp at hkx)
        have d0 : wr.drew.cell? ⟨p, 0, none⟩ = some (.slice (some ⟨g, 0, none⟩) n cap') := by show wr.cell? _ = _; rw [cell_of_row _ _ _ _ _ _ inv.head]; rfl
        have d1 : wr.drew.cell? ⟨g, k, none⟩ = some (.slice (some ⟨G k, 0, none⟩) 64 64) := hcell
        have hra : wr.drew.heap[G k]? = some (.cells (zs64.map B8).toArray 5 (0, 0)) := hrow.block
        have hcl : ((xs.drop (k * 64)).take 64).length = Nat.min (xs.length - k * 64) 64 := by rw [List.length_take, List.length_drop, Nat.min_comm]
        have hml : Nat.min (xs.length - k * 64) 64 ≤ 64 := Nat.min_le_right _ _
        have cpy := fun ty => run_copy_row (P := Tryz.prog) wr.drew 30 30 ty 5 (G k) 0 64 64 (ad.add (k * 64)) (xs.length - k * 64) (c - k * 64) _ 5 (((xs.drop (k * 64)).take 64).map B8) Tryz.underlying30 (by kernel_rfl) hra (by rw [List.length_map]; exact hcl) (fun j v hj => by
          simp only [List.getElem?_map, Option.map_eq_some_iff] at hj
          obtain ⟨u, hu, rfl⟩ := hj
          rw [List.getElem?_take] at hu
          split at hu
          · rw [List.getElem?_drop] at hu
            rw [Addr.add_add]
            exact hcs _ u hu
          · cases hu) (by rw [List.length_map, hcl]; simp only [List.size_toArray, List.length_map, zs64_len]; omega) (fun v hv => by
          simp only [List.mem_map] at hv
          obtain ⟨u, _, rfl⟩ := hv
          rfl)
        have CP := Lib.hid cpy
        have RA := Lib.hid hra
        clear cpy hcl hra hrow hcell
        have kd : Keeps (· = G k) wr wr.drew := Keeps.drew _ _
        have h3 : (0 : Int) ≤ (k : Int) * 64 := by omega
        have h4 : (k : Int) * 64 ≤ (xs.length : Int) := by omega
        have h5 : ¬ c = k * 64 := by omega
        have hk0 : (0 : Int) ≤ (k : Int) := by omega
        have hk1 : (k : Int) < (n : Int) := by omega
        go_wp2_with fail
        refine wp_region_still_tail 11 (by kernel_rfl) (by kernel_rfl) ?_
        simp only [List.take_succ_cons, List.take_zero, List.drop_succ_cons, List.drop_zero]
        change wpStill _ _ wr.drew (fun a' => wpList _ _ _ _ a' wr.drew) _ _
        generalize wr.drew = w2 at *
        have htn : ((k : Int) * 64).toNat = k * 64 := by omega
        have hwr := IntWalk.i64_in ((k : Int) * 64) (by omega)
        still_step
        still_step
        still_step
        still_step
        still_step
        still_step
        still_step
        still_step
        still_step
        still_step
        still_step
        refine wpStill_nil ?_
        clear hwr htn h3 h4 h5 hk0 hk1
        have hrun := CP.out 3
        clear CP
        have e3 : (((zs64.map B8).toArray.toList.take 0 ++ ((xs.drop (k * 64)).take 64).map B8 ++ (zs64.map B8).toArray.toList.drop (0 + (((xs.drop (k * 64)).take 64).map B8).length)).toArray) = ((sec (padded xs) k).map B8).toArray := by
          rw [← HSP.out k hlt]
          simp [splice, List.map_drop]
        rw [e3] at hrun
        have G3 : (w2.setRow (G k) ((sec (padded xs) k).map B8).toArray).heap[G k]? = some (.cells ((sec (padded xs) k).map B8).toArray 5 (0, 0)) := setRow_heap w2 (G k) _ _ _ _ RA.out
        have K3 : Keeps (· = G k) w2 (w2.setRow (G k) ((sec (padded xs) k).map B8).toArray) := ⟨rfl, rfl, rfl, by rw [size_setRow]; exact Nat.le_refl _, fun j _ hj => setRow_other w2 (G k) j _ hj⟩
        have k23 := kd.trans K3
        have INV : Hid (RNew w (w2.setRow (G k) ((sec (padded xs) k).map B8).toArray) p n (.slice (some ⟨g, 0, none⟩) n cap') G (fillR xs (k + 1))) := by
          have hGT := (inv.secs.row k hlt).2.2.1
          have hpl : p < wr.heap.size := (Array.getElem?_eq_some_iff.1 inv.head).1
          refine ⟨(k23.block _ hpl (by omega)).trans inv.head, ?_, ?_, inv.new⟩
          · rw [← fillR_step]
            exact inv.secs.put k hlt _ (HSL.out k hlt) k23 (Row8.of_block G3)
          · refine ⟨k23.os.trans inv.kp.os, k23.tape.trans inv.kp.tape, k23.output.trans inv.kp.output, Nat.le_trans inv.kp.size k23.size, fun b hb _ => ?_⟩
            have := inv.new
            rw [k23.block b (Nat.lt_of_lt_of_le hb inv.kp.size) (by omega)]
            exact inv.kp.block b hb (fun h => h)
        clear e3 G3 K3 k23 kd inv d0 d1 had hcs RA
        generalize w2.setRow (G k) ((sec (padded xs) k).map B8).toArray = w3 at *
        go_wp2
        go_roundw
        case rel => exact ⟨k + 1, by omega, by go_num, INV.out⟩
        case measure => simp [intOf]; omega
      · obtain rfl : k = n := by omega
        go_wp2_with fail
        go_ret
        exact ⟨p, _, G, rfl, inv⟩
end Go.Proofs.YtacghpabjmnfiaaGreatDoor
namespace Go.Proofs.YtacghpabjmnfiaaGreatDoor
open Go.RowKit

/-- The bytes of the first k sectors. -/
def catR (zs : Nat → List UInt8) (k : Nat) : List UInt8 := (List.range k).flatMap zs
theorem catR_succ (zs : Nat → List UInt8) (k : Nat) : catR zs (k + 1) = catR zs k ++ zs k := by simp [catR, List.range_succ]
theorem catR_len (zs : Nat → List UInt8) (k : Nat) (h : ∀ i, i < k → (zs i).length = 64) : (catR zs k).length = k * 64 := by
  induction k with
  | zero => rfl
  | succ k ih => rw [catR_succ, List.length_append, ih (fun i hi => h i (by omega)), h k (by omega)]; omega
/-- Bytes appended to a row of the call's own. -/
theorem Own8.app {w : World} {B : Nat} {R : Option Addr} {cap : Nat} {zs : List UInt8} (h : Own8 w B 5 R cap zs) (hB : B ≤ w.heap.size) (hl : zs.length ≤ 200000) (g c : Nat) (ys : List UInt8) (hy : Row8 w g 5 ys) (hyl : ys.length = 64) :
    ∃ R' cap' w', (Builtin.append_ #[30, 30] 30 #[.slice R zs.length cap, .slice (some ⟨g, 0, none⟩) 64 c]).run Tryz.prog w = .ok (.slice R' (zs.length + 64) cap') w' ∧ Own8 w' B 5 R' cap' (zs ++ ys) ∧ Below B w w' := by
  obtain ⟨i0, hi, hz0, hz1, hz2⟩ := info_parts Tryz.info8
  obtain ⟨v', w', hrun, hown, hg, _, _⟩ := run_append_own_at (P := Tryz.prog) w B 30 30 5 i0 (.int .u8 0) 1 1 Tryz.underlying30 hi hz0 hz1 hz2 rfl (by decide) _ zs.length _ h ⟨g, 0, none⟩ 64 c (ys.map B8) (by rw [List.length_map, hyl]) (fun j u hu => by
    simp only [List.getElem?_map, Option.map_eq_some_iff] at hu
    obtain ⟨x, hx, rfl⟩ := hu
    obtain ⟨ad, e, _, hc⟩ := hy.br (by intro e; rw [e] at hx; simp at hx)
    cases e
    exact hc j x hx) (by
    intro u hu
    simp only [List.mem_map] at hu
    obtain ⟨x, _, rfl⟩ := hu
    rfl) (by unfold maxLen; omega) (by omega) hB
  obtain ⟨g', cap', rfl, _, _⟩ := World.ownsRow.form hown (by omega)
  refine ⟨_, cap', w', hrun, ?_, ⟨hg.os, hg.tape, hg.output, hg.size, fun k hk => hg.block k (by omega) (fun e => by have := (World.ownsRow.lt h k e.symm).1; omega)⟩⟩
  unfold Own8
  rw [List.length_append, hyl, List.map_append]
  exact hown
theorem catR_sec (L : List UInt8) (k : Nat) : catR (sec L) k = L.take (k * 64) := by
  induction k with
  | zero => simp [catR]
  | succ k ih =>
    rw [catR_succ, ih, Nat.add_mul, Nat.one_mul, List.take_add]
    rfl
theorem catR_congr {zs ys : Nat → List UInt8} {k : Nat} (h : ∀ i, i < k → zs i = ys i) : catR zs k = catR ys k := by
  induction k with
  | zero => rfl
  | succ k ih => rw [catR_succ, catR_succ, ih (fun i hi => h i (by omega)), h k (by omega)]
/-- The bytes of a disk that Of made. -/
theorem catR_fill (xs : List UInt8) : catR (fillR xs (nBytes xs.length)) (nBytes xs.length) = padded xs := by
  have e : catR (fillR xs (nBytes xs.length)) (nBytes xs.length) = catR (sec (padded xs)) (nBytes xs.length) := catR_congr fun i hi => by unfold fillR; rw [if_pos hi]
  rw [e, catR_sec, List.take_of_length_le (by rw [padded_len]; omega)]
end Go.Proofs.YtacghpabjmnfiaaGreatDoor
namespace Go.Proofs.YtacghpabjmnfiaaGreatDoor
open Go.RowKit

/-- A slice of 64 bytes in a block of P. -/
def SL (w : World) (P : Nat → Prop) (v : Value) (xs : List UInt8) : Prop :=
  ∃ ad c, v = .slice (some ad) 64 c ∧ xs.length = 64 ∧ ad.block < w.heap.size ∧ P ad.block ∧ ∀ k u, xs[k]? = some u → w.cell? (ad.add k) = some (B8 u)
theorem SL.keep {w w' : World} {P G : Nat → Prop} {v : Value} {xs : List UInt8} (h : SL w P v xs) (k : Keeps G w w') (hG : ∀ b, b < w.heap.size → P b → ¬ G b) : SL w' P v xs := by
  obtain ⟨ad, c, e, hl, hb, hp, hc⟩ := h
  refine ⟨ad, c, e, hl, Nat.lt_of_lt_of_le hb k.size, hp, fun j u hu => ?_⟩
  rw [World.cell?_of_block (w := w) (by rw [block_add]; exact k.block _ hb (hG _ hb hp))]
  exact hc j u hu
theorem SL.mono {w : World} {P P' : Nat → Prop} {v : Value} {xs : List UInt8} (h : SL w P v xs) (hP : ∀ b, b < w.heap.size → P b → P' b) : SL w P' v xs := by
  obtain ⟨ad, c, e, hl, hb, hp, hc⟩ := h
  exact ⟨ad, c, e, hl, hb, hP _ hb hp, hc⟩
theorem SL.br {w : World} {P : Nat → Prop} {v : Value} {xs : List UInt8} (h : SL w P v xs) : ∃ R c, v = .slice R 64 c ∧ BR w w.heap.size R xs ∧ xs.length = 64 := by
  obtain ⟨ad, c, e, hl, hb, hp, hc⟩ := h
  exact ⟨some ad, c, e, fun _ => ⟨ad, rfl, hb, hc⟩, hl⟩
theorem SL.of {w : World} {P : Nat → Prop} {R : Option Addr} {c : Nat} {xs : List UInt8} (hl : xs.length = 64) (h : BR w w.heap.size R xs) (hP : ∀ ad, R = some ad → P ad.block) : SL w P (.slice R 64 c) xs := by
  obtain ⟨ad, e, hb, hc⟩ := h (by intro e; rw [e] at hl; simp at hl)
  subst e
  exact ⟨ad, c, rfl, hl, hb, hP ad rfl, hc⟩

def wcells (q : Nat × Value) : List Value := [.int .i64 (q.1 : Int), q.2]
/-- The blocks that the disk's calls write. -/
def XR (p : Nat) (sv wv : Value) (b : Nat) : Prop := b = p ∨ sv.ownBlock = some b ∨ wv.ownBlock = some b
def PF (F : Nat → Prop) (p : Nat) (sv wv : Value) (b : Nat) : Prop := F b ∧ ¬ XR p sv wv b
def rhead (sv wv : Value) (D : DSt) : Obj := .cells #[sv, wv, .int .i64 D.left, .bool D.down, .int .i64 (D.acts : Int)] 57 (0, 0)

structure RDat (w : World) (F : Nat → Prop) (p n : Nat) (sv wv : Value) (svs : List Value) (ws : List (Nat × Value)) (D : DSt) : Prop where
  ok : D.Ok n
  head : w.heap[p]? = some (rhead sv wv D)
  own : w.ownsRow 0 30 1 sv n svs
  que : w.ownsRow 0 200 2 wv D.Q.length (ws.flatMap wcells)
  secs : ∀ i, i < n → ∃ v, svs[i]? = some v ∧ SL w (PF F p sv wv) v (sec D.L i)
  wl : ws.length = D.Q.length
  wts : ∀ (j : Nat) (q : Nat × List UInt8), D.Q[j]? = some q → ∃ v, ws[j]? = some (q.1, v) ∧ SL w (PF F p sv wv) v q.2
  fp : F p
  fs : ∀ g, sv.ownBlock = some g → F g
  fw : ∀ g, wv.ownBlock = some g → F g
def RD (w : World) (F : Nat → Prop) (p : Nat) (D : DSt) : Prop := ∃ n sv wv svs ws, RDat w F p n sv wv svs ws D

section
variable {w w' : World} {F G : Nat → Prop} {p n : Nat} {sv wv : Value} {svs : List Value} {ws : List (Nat × Value)} {D : DSt}
theorem ownsRow_keepS {w w' : World} {T size k : Nat} {t : TypeId} {v : Value} {vs : List Value} (h : w.ownsRow T t size v k vs) (e : ∀ b, v.ownBlock = some b → w'.heap[b]? = w.heap[b]?) : w'.ownsRow T t size v k vs := by
  obtain ⟨h0, h1⟩ := h
  refine ⟨h0, ?_⟩
  rcases h1 with hn | ⟨g, cap, cur, hv, hb, hgg, rest⟩
  · exact .inl hn
  · exact .inr ⟨g, cap, cur, hv, hb, (e g (by rw [hv]; rfl)).trans hgg, rest⟩
theorem ownsRow_blk {w : World} {T size k : Nat} {t : TypeId} {v : Value} {vs : List Value} (h : w.ownsRow T t size v k vs) {b : Nat} (e : v.ownBlock = some b) : ∃ cur, w.heap[b]? = some (.cells cur t (0, 0)) := by
  rcases h.2 with ⟨hn, _⟩ | ⟨g, cap, cur, hv, hb, hgg, rest⟩
  · rw [hn] at e; cases e
  · rw [hv] at e
    simp only [Value.ownBlock, Option.some.injEq] at e
    subst e
    exact ⟨cur, hgg⟩
theorem RDat.plt (h : RDat w F p n sv wv svs ws D) : p < w.heap.size := (Array.getElem?_eq_some_iff.1 h.head).1
theorem RDat.slt (h : RDat w F p n sv wv svs ws D) {b : Nat} (e : sv.ownBlock = some b) : b < w.heap.size := (World.ownsRow.lt h.own b e).2
theorem RDat.wlt (h : RDat w F p n sv wv svs ws D) {b : Nat} (e : wv.ownBlock = some b) : b < w.heap.size := (World.ownsRow.lt h.que b e).2
theorem RDat.xlt (h : RDat w F p n sv wv svs ws D) {b : Nat} (e : XR p sv wv b) : b < w.heap.size := by
  rcases e with rfl | e | e
  · exact h.plt
  · exact h.slt e
  · exact h.wlt e
theorem RDat.xf (h : RDat w F p n sv wv svs ws D) {b : Nat} (e : XR p sv wv b) : F b := by
  rcases e with rfl | e | e
  · exact h.fp
  · exact h.fs _ e
  · exact h.fw _ e
theorem RDat.apart (h : RDat w F p n sv wv svs ws D) : sv.ownBlock ≠ some p ∧ wv.ownBlock ≠ some p ∧ ∀ b, sv.ownBlock = some b → wv.ownBlock ≠ some b := by
  have hh := h.head
  unfold rhead at hh
  refine ⟨fun e => ?_, fun e => ?_, fun b e e' => ?_⟩
  · obtain ⟨cur, hc⟩ := ownsRow_blk h.own e
    rw [hh] at hc; simp at hc
  · obtain ⟨cur, hc⟩ := ownsRow_blk h.que e
    rw [hh] at hc; simp at hc
  · obtain ⟨cur, hc⟩ := ownsRow_blk h.own e
    obtain ⟨cur', hc'⟩ := ownsRow_blk h.que e'
    rw [hc] at hc'; simp at hc'
theorem RDat.c (h : RDat w F p n sv wv svs ws D) : w.cell? ⟨p, 0, none⟩ = some sv ∧ w.cell? ⟨p, 1, none⟩ = some wv ∧ w.cell? ⟨p, 2, none⟩ = some (.int .i64 D.left) ∧ w.cell? ⟨p, 3, none⟩ = some (.bool D.down) ∧ w.cell? ⟨p, 4, none⟩ = some (.int .i64 (D.acts : Int)) ∧ ∀ i, w.frozen? ⟨p, i, none⟩ = false := by
  have hh := h.head
  refine ⟨?_, ?_, ?_, ?_, ?_, fun i => frozen_of_row w p i _ _ hh⟩ <;> rw [cell_of_row w p _ _ _ _ hh] <;> rfl
/-- Where only other blocks were written. -/
theorem RDat.keep (h : RDat w F p n sv wv svs ws D) (k : Keeps G w w') (hd : ∀ b, b < w.heap.size → F b → ¬ G b) : RDat w' F p n sv wv svs ws D :=
  ⟨h.ok, (k.block _ h.plt (hd _ h.plt h.fp)).trans h.head, ownsRow_keepS h.own fun b e => k.block b (h.slt e) (hd _ (h.slt e) (h.fs _ e)), ownsRow_keepS h.que fun b e => k.block b (h.wlt e) (hd _ (h.wlt e) (h.fw _ e)),
    fun i hi => by obtain ⟨v, e, s⟩ := h.secs i hi; exact ⟨v, e, s.keep k fun b hb hp => hd b hb hp.1⟩, h.wl, fun j q hq => by obtain ⟨v, e, s⟩ := h.wts j q hq; exact ⟨v, e, s.keep k fun b hb hp => hd b hb hp.1⟩, h.fp, h.fs, h.fw⟩
theorem RDat.same (h : RDat w F p n sv wv svs ws D) (k : Keeps (fun _ => False) w w') : RDat w' F p n sv wv svs ws D := h.keep k fun _ _ _ h => h
theorem RDat.mono (h : RDat w F p n sv wv svs ws D) (hF : ∀ b, b < w.heap.size → F b → G b) : RDat w G p n sv wv svs ws D :=
  ⟨h.ok, h.head, h.own, h.que, fun i hi => by obtain ⟨v, e, s⟩ := h.secs i hi; exact ⟨v, e, s.mono fun b hb hp => ⟨hF b hb hp.1, hp.2⟩⟩, h.wl, fun j q hq => by obtain ⟨v, e, s⟩ := h.wts j q hq; exact ⟨v, e, s.mono fun b hb hp => ⟨hF b hb hp.1, hp.2⟩⟩,
    hF _ h.plt h.fp, fun g e => hF _ (h.slt e) (h.fs g e), fun g e => hF _ (h.wlt e) (h.fw g e)⟩
/-- Other numbers in the struct. -/
theorem RDat.put (h : RDat w F p n sv wv svs ws D) (k : Keeps (· = p) w w') (D' : DSt) (e1 : D'.L = D.L) (e2 : D'.Q = D.Q) (lo : -1 ≤ D'.left) (hi : D'.left ≤ 9223372036854775807) (hh : w'.heap[p]? = some (rhead sv wv D')) : RDat w' F p n sv wv svs ws D' := by
  have ap := h.apart
  have kS : ∀ {v : Value} {xs : List UInt8}, SL w (PF F p sv wv) v xs → SL w' (PF F p sv wv) v xs := fun s => s.keep k fun b _ hp e => hp.2 (Or.inl e)
  refine ⟨⟨by rw [e1]; exact h.ok.len, h.ok.n_le, by rw [e2]; exact h.ok.q, lo, hi⟩, hh, ownsRow_keepS h.own fun b e => k.block b (h.slt e) (fun eb => ap.1 (by rw [← eb]; exact e)), ?_, ?_, by rw [e2]; exact h.wl, ?_, h.fp, h.fs, h.fw⟩
  · rw [e2]; exact ownsRow_keepS h.que fun b e => k.block b (h.wlt e) (fun eb => ap.2.1 (by rw [← eb]; exact e))
  · rw [e1]; exact fun i hi => by obtain ⟨v, e, s⟩ := h.secs i hi; exact ⟨v, e, kS s⟩
  · rw [e2]; exact fun j q hq => by obtain ⟨v, e, s⟩ := h.wts j q hq; exact ⟨v, e, kS s⟩
/-- A sector's cell. -/
theorem RDat.at_ (h : RDat w F p n sv wv svs ws D) (i : Nat) (hi : i < n) : ∃ g cap R c, sv = .slice (some ⟨g, 0, none⟩) n cap ∧ w.cell? ⟨g, i, none⟩ = some (.slice R 64 c) ∧ w.frozen? ⟨g, i, none⟩ = false ∧ BR w w.heap.size R (sec D.L i) ∧ (sec D.L i).length = 64 := by
  obtain ⟨g, cap, hv, _, _⟩ := World.ownsRow.form h.own (by omega)
  obtain ⟨v, e, s⟩ := h.secs i hi
  obtain ⟨R, c, rfl, hb, hl⟩ := s.br
  have := World.ownsRow.cells h.own (g := g) (by rw [hv]; rfl) i _ e
  have e0 : (⟨g, 0, none⟩ : Addr).add i = ⟨g, i, none⟩ := by unfold Addr.add; split <;> simp_all
  rw [e0] at this
  obtain ⟨cur, hc⟩ := ownsRow_blk h.own (b := g) (by rw [hv]; rfl)
  exact ⟨g, cap, R, c, hv, this, frozen_of_row w g i _ _ hc, hb, hl⟩
theorem RDat.svf (h : RDat w F p n sv wv svs ws D) : ∃ A cap, sv = .slice A n cap := by
  rcases h.own.2 with ⟨rfl, hn⟩ | ⟨_, cap, _, e, _⟩
  · exact ⟨none, 0, by rw [hn]⟩
  · exact ⟨_, cap, e⟩
theorem RDat.wvf (h : RDat w F p n sv wv svs ws D) : ∃ A cap, wv = .slice A D.Q.length cap := by
  rcases h.que.2 with ⟨rfl, hn⟩ | ⟨_, cap, _, e, _⟩
  · exact ⟨none, 0, by rw [hn]⟩
  · exact ⟨_, cap, e⟩
theorem flat2_at : ∀ (ws : List (Nat × Value)) (j : Nat) (q : Nat × Value), ws[j]? = some q → (ws.flatMap wcells)[j * 2]? = some (.int .i64 (q.1 : Int)) ∧ (ws.flatMap wcells)[j * 2 + 1]? = some q.2
  | [], j, q, h => by simp at h
  | x :: r, 0, q, h => by simp at h; subst h; simp [wcells]
  | x :: r, j + 1, q, h => by
    have := flat2_at r j q (by simpa using h)
    rw [List.flatMap_cons, show (j + 1) * 2 = j * 2 + 1 + 1 from by omega]
    simpa [wcells] using this
/-- A write that waits. -/
theorem RDat.wat (h : RDat w F p n sv wv svs ws D) (j : Nat) (hj : j < D.Q.length) : ∃ g cap v, wv = .slice (some ⟨g, 0, none⟩) D.Q.length cap ∧ w.cell? ⟨g, j * 2, none⟩ = some (.int .i64 (D.Q[j].1 : Int)) ∧ w.cell? ⟨g, j * 2 + 1, none⟩ = some v ∧ SL w (PF F p sv wv) v D.Q[j].2 := by
  obtain ⟨g, cap, hv, _, _⟩ := World.ownsRow.form h.que (by omega)
  obtain ⟨v, e, s⟩ := h.wts j _ (List.getElem?_eq_getElem hj)
  obtain ⟨e1, e2⟩ := flat2_at _ _ _ e
  have c1 := World.ownsRow.cells h.que (g := g) (by rw [hv]; rfl) _ _ e1
  have c2 := World.ownsRow.cells h.que (g := g) (by rw [hv]; rfl) _ _ e2
  rw [Addr.add_mid, Nat.zero_add] at c1 c2
  exact ⟨g, cap, v, hv, c1, c2, s⟩
end
theorem RD.keep {w w' : World} {F G : Nat → Prop} {p : Nat} {D : DSt} (h : RD w F p D) (k : Keeps G w w') (hd : ∀ b, b < w.heap.size → F b → ¬ G b) : RD w' F p D := by
  obtain ⟨n, sv, wv, svs, ws, h⟩ := h
  exact ⟨n, sv, wv, svs, ws, h.keep k hd⟩
theorem RD.mono {w : World} {F G : Nat → Prop} {p : Nat} {D : DSt} (h : RD w F p D) (hF : ∀ b, b < w.heap.size → F b → G b) : RD w G p D := by
  obtain ⟨n, sv, wv, svs, ws, h⟩ := h
  exact ⟨n, sv, wv, svs, ws, h.mono hF⟩
/-- A sector's slice is another. -/
theorem RDat.store {w : World} {F : Nat → Prop} {p n : Nat} {sv wv : Value} {svs : List Value} {ws : List (Nat × Value)} {D : DSt} (h : RDat w F p n sv wv svs ws D) (i : Nat) (hi : i < n) (g : Nat) (hg : sv.ownBlock = some g) (v : Value) (b : List UInt8) (hs : SL w (PF F p sv wv) v b) :
    RDat (w.setCell ⟨g, i, none⟩ v) F p n sv wv (svs.set i v) ws { D with L := splice D.L (i * 64) b } ∧ Keeps (fun k => sv.ownBlock = some k) w (w.setCell ⟨g, i, none⟩ v) := by
  have ap := h.apart
  have hb : b.length = 64 := by obtain ⟨_, _, _, hl, _⟩ := hs; exact hl
  have hL : i * 64 + 64 ≤ D.L.length := by have := h.ok.len; omega
  have k : Keeps (fun k => sv.ownBlock = some k) w (w.setCell ⟨g, i, none⟩ v) := Keeps.setCell _ _ _ _ hg
  have kS : ∀ {v' : Value} {xs : List UInt8}, SL w (PF F p sv wv) v' xs → SL (w.setCell ⟨g, i, none⟩ v) (PF F p sv wv) v' xs := fun s => s.keep k fun b _ hp e => hp.2 (Or.inr (Or.inl e))
  have hlen : svs.length = n := by have := h.own.1; omega
  obtain ⟨g', cap, hv', _, _⟩ := World.ownsRow.form h.own (by omega)
  subst hv'
  simp only [Value.ownBlock, Option.some.injEq] at hg
  subst hg
  have st := World.ownsRow.stored h.own i v
  refine ⟨⟨⟨by show (splice _ _ _).length = _; rw [length_splice _ _ _ (by omega)]; exact h.ok.len, h.ok.n_le, h.ok.q, h.ok.lo, h.ok.hi⟩, (k.block _ h.plt ap.1).trans h.head, st.1, ownsRow_keepS h.que fun b e => k.block b (h.wlt e) (fun eb => ap.2.2 b eb e), fun j hj => ?_, h.wl, fun j q hq => ?_, h.fp, h.fs, h.fw⟩, k⟩
  · show ∃ v', _ ∧ SL _ _ v' (sec (splice D.L (i * 64) b) j)
    rw [sec_splice _ _ _ _ hb hL]
    by_cases e : i = j
    · subst e
      rw [if_pos rfl]
      exact ⟨v, by rw [List.getElem?_set_self (by omega)], kS hs⟩
    · rw [if_neg e]
      obtain ⟨v', e', s⟩ := h.secs j hj
      exact ⟨v', by rw [List.getElem?_set_ne e]; exact e', kS s⟩
  · obtain ⟨v', e', s⟩ := h.wts j q hq
    exact ⟨v', e', kS s⟩
end Go.Proofs.YtacghpabjmnfiaaGreatDoor
namespace Go.Proofs.YtacghpabjmnfiaaGreatDoor
open Go.RowKit

section
variable {w : World} {F : Nat → Prop} {p n : Nat} {sv wv : Value} {svs : List Value} {ws : List (Nat × Value)} {D : DSt}

set_option maxRecDepth 100000 in
set_option maxHeartbeats 400000 in
theorem rhas_yes (h : RDat w F p n sv wv svs ws D) (i : Int) (h0 : 0 ≤ i) (h1 : i < n) :
    Calls Tryz.prog 141 #[.pointer (some ⟨p, 0, none⟩), .int .i64 i] w fun e w' => e = .returned (.bool true) ∧ w = w' := by
  obtain ⟨A, cap, rfl⟩ := h.svf
  obtain ⟨c0, _⟩ := h.c
  clear h
  go_enter Tryz.func141, Tryz.ntmps141
  go_wp2_with fail
  go_ret
  exact ⟨ret_bool (by simp), rfl⟩
set_option maxRecDepth 100000 in
set_option maxHeartbeats 400000 in
theorem rhas_no (h : RDat w F p n sv wv svs ws D) (i : Int) (hi : i < 0 ∨ n ≤ i) :
    Calls Tryz.prog 141 #[.pointer (some ⟨p, 0, none⟩), .int .i64 i] w fun e w' => e = .returned (.bool false) ∧ w = w' := by
  obtain ⟨A, cap, rfl⟩ := h.svf
  obtain ⟨c0, _⟩ := h.c
  clear h
  by_cases h0 : i < 0
  · clear hi
    go_enter Tryz.func141, Tryz.ntmps141
    go_wp2_with fail
    go_ret
    exact ⟨rfl, rfl⟩
  · have h1 : ¬ i < (n : Int) := by omega
    clear hi
    go_enter Tryz.func141, Tryz.ntmps141
    go_wp2_with fail
    go_ret
    exact ⟨ret_bool (by simp), rfl⟩

/-- Only the struct is written. -/
def RStep (w : World) (F : Nat → Prop) (p n : Nat) (sv wv : Value) (svs : List Value) (ws : List (Nat × Value)) (D : DSt) (v : Value) (e : Ending) (w' : World) : Prop := e = .returned v ∧ RDat w' F p n sv wv svs ws D ∧ Keeps (· = p) w w'

end

/-- Bytes appended to a row of the call's own, wherever they lie. -/
theorem Own8.appB {w : World} {B : Nat} {R : Option Addr} {cap : Nat} {zs : List UInt8} (h : Own8 w B 5 R cap zs) (hB : B ≤ w.heap.size) (hl : zs.length ≤ 200000) (A : Option Addr) (c : Nat) (ys : List UInt8) (hy : BR w w.heap.size A ys) (hyl : ys.length = 64) :
    ∃ R' cap' w', (Builtin.append_ #[30, 30] 30 #[.slice R zs.length cap, .slice A 64 c]).run Tryz.prog w = .ok (.slice R' (zs.length + 64) cap') w' ∧ Own8 w' B 5 R' cap' (zs ++ ys) ∧ Below B w w' := by
  obtain ⟨ad, rfl, _, hc⟩ := hy (by intro e; rw [e] at hyl; simp at hyl)
  obtain ⟨i0, hi, hz0, hz1, hz2⟩ := info_parts Tryz.info8
  obtain ⟨v', w', hrun, hown, hg, _, _⟩ := run_append_own_at (P := Tryz.prog) w B 30 30 5 i0 (.int .u8 0) 1 1 Tryz.underlying30 hi hz0 hz1 hz2 rfl (by decide) _ zs.length _ h ad 64 c (ys.map B8) (by rw [List.length_map, hyl]) (fun j u hu => by
    simp only [List.getElem?_map, Option.map_eq_some_iff] at hu
    obtain ⟨x, hx, rfl⟩ := hu
    exact hc j x hx) (by
    intro u hu
    simp only [List.mem_map] at hu
    obtain ⟨x, _, rfl⟩ := hu
    rfl) (by unfold maxLen; omega) (by omega) hB
  obtain ⟨g', cap', rfl, _, _⟩ := World.ownsRow.form hown (by omega)
  refine ⟨_, cap', w', hrun, ?_, ⟨hg.os, hg.tape, hg.output, hg.size, fun k hk => hg.block k (by omega) (fun e => by have := (World.ownsRow.lt h k e.symm).1; omega)⟩⟩
  unfold Own8
  rw [List.length_append, hyl, List.map_append]
  exact hown

theorem catR_L {L : List UInt8} {n : Nat} (h : L.length = 64 * n) : catR (sec L) n = L := by
  rw [catR_sec, List.take_of_length_le (by omega)]

end Go.Proofs.YtacghpabjmnfiaaGreatDoor
namespace Go.Proofs.YtacghpabjmnfiaaGreatDoor
open Go.RowKit

/-- The numbers of the first j writes that wait. -/
def nums (Q : List (Nat × List UInt8)) (j : Nat) : List Nat := (Q.take j).map (·.1)
theorem nums_len (Q : List (Nat × List UInt8)) (j : Nat) (h : j ≤ Q.length) : (nums Q j).length = j := by simp [nums]; omega
theorem nums_succ (Q : List (Nat × List UInt8)) (j : Nat) (h : j < Q.length) : nums Q (j + 1) = nums Q j ++ [Q[j].1] := by
  unfold nums
  rw [List.take_succ_eq_append_getElem h, List.map_append]
  rfl
theorem nums_all (Q : List (Nat × List UInt8)) : nums Q Q.length = Q.map (·.1) := by simp [nums]

/-! ### Read -/
def GivesRR (w : World) (zs : List UInt8) (err : Int) (e : Ending) (w' : World) : Prop := ∃ R n c, e = .returned (.tuple #[.slice R n c, .int .i64 err]) ∧ zs.length = n ∧ BR w' w'.heap.size R zs ∧ Keeps (fun _ => False) w w'
/-- A sector as written by the first k that wait. -/
def nowTo (D : DSt) (i k : Nat) : List UInt8 := (lastW (D.Q.take k) i).getD (sec D.L i)
theorem nowTo_all (D : DSt) (i : Nat) : nowTo D i D.Q.length = D.now i := by unfold nowTo DSt.now; rw [List.take_length]
theorem nowTo_yes (D : DSt) (i k : Nat) (hk : k < D.Q.length) (h : D.Q[k].1 = i) : nowTo D i (k + 1) = D.Q[k].2 := by
  unfold nowTo
  rw [List.take_succ_eq_append_getElem hk, show (D.Q.take k ++ [D.Q[k]]) = (D.Q.take k ++ [(D.Q[k].1, D.Q[k].2)]) from rfl, lastW_snoc, if_pos h]
  rfl
theorem nowTo_no (D : DSt) (i k : Nat) (hk : k < D.Q.length) (h : ¬ D.Q[k].1 = i) : nowTo D i (k + 1) = nowTo D i k := by
  unfold nowTo
  rw [List.take_succ_eq_append_getElem hk, show (D.Q.take k ++ [D.Q[k]]) = (D.Q.take k ++ [(D.Q[k].1, D.Q[k].2)]) from rfl, lastW_snoc, if_neg h]

set_option maxRecDepth 100000 in
set_option maxHeartbeats 1000000 in
theorem rread_in {w : World} {F : Nat → Prop} {p n : Nat} {sv wv : Value} {svs : List Value} {ws : List (Nat × Value)} {D : DSt} (h : RDat w F p n sv wv svs ws D) (hd : D.down = false) (i : Nat) (hi : i < n) (hQ : D.Q.length ≤ 1954687338212) :
    Calls Tryz.prog 94 #[.pointer (some ⟨p, 0, none⟩), .int .i64 (i : Int)] w (GivesRR w (D.now i) 0) := by
  obtain ⟨A', cap', hv⟩ := h.wvf
  subst hv
  obtain ⟨g0, cap0, R0, c0', hsv, s0, _, _, _⟩ := h.at_ i hi
  subst hsv
  have sl0 : SL w (fun _ => True) (.slice R0 64 c0') (nowTo D i 0) := by
    obtain ⟨v, e, s⟩ := h.secs i hi
    have := World.ownsRow.cells h.own (g := g0) rfl i _ e
    have e0 : (⟨g0, 0, none⟩ : Addr).add i = ⟨g0, i, none⟩ := by unfold Addr.add; split <;> simp_all
    rw [e0, s0] at this
    cases this
    exact s.mono fun _ _ _ => trivial
  obtain ⟨d0, d1, d2, d3, d4, _⟩ := h.c
  have hn := h.ok.n_le
  have hi' : (i : Int) < (n : Int) := by omega
  rw [hd] at d3
  clear d2 d4 hd
  go_enter Tryz.func94, Tryz.ntmps94
  go_wp2_with fail
  refine (rhas_yes h (i : Int) (by omega) hi').mono ?_
  rintro e w' ⟨rfl, rfl⟩
  go_wp2_with fail
  clear d0 d1 d3 s0
  go_loopw [29, 6] (fun t b wr => ∃ (k : Nat) (R : Option Addr) (c : Nat), k ≤ D.Q.length ∧ t = .int .i64 (k : Int) ∧ b = .slice R 64 c ∧ SL wr (fun _ => True) (.slice R 64 c) (nowTo D i k) ∧ Below w.heap.size w wr) (fun t _ _ => D.Q.length - (intOf t).toNat)
  case atStart => exact ⟨0, R0, c0', by omega, rfl, rfl, sl0, Below.refl _ _⟩
  case round =>
    clear sl0
    obtain ⟨k, R, c, hk, rfl, rfl, sl, bel⟩ := hrel
    by_cases hlt : k < D.Q.length
    · obtain ⟨g, cap2, v, hv, e0, e1, sw⟩ := (h.same (keeps_below bel)).wat k hlt
      cases hv
      obtain ⟨R1, c1, rfl, _, _⟩ := sw.br
      have bel2 : Below w.heap.size w (wr.alloc (.cells #[.int .i64 (D.Q[k].1 : Int), .slice R1 64 c1] 200)) := bel.alloc bel.size _
      have ka : Keeps (fun _ => False) wr (wr.alloc (.cells #[.int .i64 (D.Q[k].1 : Int), .slice R1 64 c1] 200)) := Keeps.alloc _ _ _
      have slA := sl.keep ka fun _ _ _ h => h
      have swA := (sw.mono (P' := fun _ => True) fun _ _ _ => trivial).keep ka fun _ _ _ h => h
      by_cases he : D.Q[k].1 = i
      · have HN := Lib.hid (nowTo_yes D i k hlt he)
        have hb : ((D.Q[k].1 : Int) == (i : Int)) = true := by simp [he]
        rw [← HN.out] at swA
        have SW := Lib.hid swA
        generalize D.Q[k].1 = x at *
        clear sl sw ka slA swA he
        go_wp2_with fail
        go_roundw
        case rel => exact ⟨k + 1, R1, c1, by omega, by go_num, rfl, SW.out, bel2⟩
        case measure => simp [intOf]; omega
      · have HN := Lib.hid (nowTo_no D i k hlt he)
        have hb : ((D.Q[k].1 : Int) == (i : Int)) = false := by simp; omega
        rw [← HN.out] at slA
        have SW := Lib.hid slA
        generalize D.Q[k].1 = x at *
        clear sl sw ka slA swA he
        go_wp2_with fail
        go_roundw
        case rel => exact ⟨k + 1, R, c, by omega, by go_num, rfl, SW.out, bel2⟩
        case measure => simp [intOf]; omega
    · obtain rfl : k = D.Q.length := by omega
      obtain ⟨R1, c1, hv, br, hl⟩ := sl.br
      cases hv
      rw [nowTo_all] at br hl
      obtain ⟨R2, c2, w2, hap, own, b2⟩ := run_append8 (P := Tryz.prog) wr 30 30 5 Tryz.info8 Tryz.underlying30 R (D.now i) c br (by omega)
      rw [hl] at hap
      have HAP := Lib.hid hap
      have br2 := own.br
      have kp := keeps_below (bel.trans (b2.mono bel.size))
      clear hap own br sl b2
      go_wp2_with (first | (at_builtin; refine wpList_append_run rfl _ _ 30 rfl _ HAP.out ?_) | fail)
      go_ret2
      exact ⟨R2, 64, c2, rfl, hl, br2, kp⟩
set_option maxRecDepth 100000 in
theorem rread_any {w : World} {F : Nat → Prop} {p : Nat} {D : DSt} (h : RD w F p D) (i : Int) (hQ : D.Q.length ≤ 1954687338212) :
    Calls Tryz.prog 94 #[.pointer (some ⟨p, 0, none⟩), .int .i64 i] w (GivesRR w (D.readAt i) (D.readErr i)) := by
  obtain ⟨n, sv, wv, svs, ws, h⟩ := h
  have hn := h.ok.n_eq
  cases hd : D.down with
  | true =>
    have e1 : D.readAt i = [] := by unfold DSt.readAt; rw [if_pos hd]
    have e2 : D.readErr i = 20 := by unfold DSt.readErr; rw [if_pos hd]
    rw [e1, e2]
    obtain ⟨_, _, _, d3, _⟩ := h.c
    rw [hd] at d3
    clear e1 e2 h hn
    go_enter Tryz.func94, Tryz.ntmps94
    go_wp2_with fail
    go_ret2
    exact ⟨none, 0, 0, rfl, rfl, BR.nil, Keeps.refl _ _⟩
  | false =>
    by_cases hi : 0 ≤ i ∧ i < n
    · obtain ⟨k, rfl⟩ := Int.eq_ofNat_of_zero_le hi.1
      have e1 : D.readAt (k : Int) = D.now k := by unfold DSt.readAt; rw [if_neg (by rw [hd]; simp), if_pos (by rw [hn]; omega)]; rfl
      have e2 : D.readErr (k : Int) = 0 := by unfold DSt.readErr; rw [if_neg (by rw [hd]; simp), if_pos (by rw [hn]; omega)]
      rw [e1, e2]
      exact rread_in h hd k (by omega) hQ
    · have e1 : D.readAt i = [] := by unfold DSt.readAt; rw [if_neg (by rw [hd]; simp), if_neg (by rw [hn]; exact hi)]
      have e2 : D.readErr i = 1 := by unfold DSt.readErr; rw [if_neg (by rw [hd]; simp), if_neg (by rw [hn]; exact hi)]
      rw [e1, e2]
      obtain ⟨_, _, _, d3, _⟩ := h.c
      rw [hd] at d3
      have hi' : i < 0 ∨ (n : Int) ≤ i := by omega
      have HI := Lib.hid hi'
      clear e1 e2 hn hi hi'
      go_enter Tryz.func94, Tryz.ntmps94
      go_wp2_with fail
      refine (rhas_no h i HI.out).mono ?_
      rintro e w' ⟨rfl, rfl⟩
      go_wp2_with fail
      go_ret2
      exact ⟨none, 0, 0, rfl, rfl, BR.nil, Keeps.refl _ _⟩
end Go.Proofs.YtacghpabjmnfiaaGreatDoor
