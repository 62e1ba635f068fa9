/-
  Three disks that share nothing.
-/
import Derived.Test.YthbdhmjmboliiaaDkOf
import Derived.Test.YthbdhmjmboliiaaDkFlush
namespace Go.Proofs.Ythbdhmjmboliiaa
open Go.RowKit

/-- Three disks, each in blocks of its own, all of them from B on, none of them a block of X. -/
structure Tri (w : World) (B : Nat) (X : Nat → Prop) (p q r : Nat) (D E G : DSt) : Prop where
  ex : ∃ Fp Fq Fr : Nat → Prop, Dk w Fp p D ∧ Dk w Fq q E ∧ Dk w Fr r G ∧ (∀ k, Fp k → B ≤ k ∧ k < w.heap.size ∧ ¬ X k ∧ ¬ Fq k ∧ ¬ Fr k) ∧ (∀ k, Fq k → B ≤ k ∧ k < w.heap.size ∧ ¬ X k ∧ ¬ Fp k ∧ ¬ Fr k) ∧ ∀ k, Fr k → B ≤ k ∧ k < w.heap.size ∧ ¬ X k ∧ ¬ Fp k ∧ ¬ Fq k
theorem Tri.rot {w : World} {B : Nat} {X : Nat → Prop} {p q r : Nat} {D E G : DSt} (h : Tri w B X p q r D E G) : Tri w B X q r p E G D := by
  obtain ⟨Fp, Fq, Fr, h1, h2, h3, a, b, c⟩ := h.ex
  exact ⟨Fq, Fr, Fp, h2, h3, h1, fun k hk => ⟨(b k hk).1, (b k hk).2.1, (b k hk).2.2.1, (b k hk).2.2.2.2, (b k hk).2.2.2.1⟩, fun k hk => ⟨(c k hk).1, (c k hk).2.1, (c k hk).2.2.1, (c k hk).2.2.2.2, (c k hk).2.2.2.1⟩, a⟩
/-- What becomes of the first, the others being apart. -/
theorem Tri.upd {w : World} {B : Nat} {X : Nat → Prop} {p q r : Nat} {D E G : DSt} (h : Tri w B X p q r D E G) (hB : B ≤ w.heap.size) (hX : ∀ k, X k → k < w.heap.size) :
    ∃ F : Nat → Prop, Dk w F p D ∧ (∀ k, F k → B ≤ k) ∧ ∀ (w' : World) (D' : DSt), Dk w' (Gr F w) p D' → Keeps F w w' → Tri w' B X p q r D' E G ∧ Below B w w' ∧ ∀ k, X k → w'.heap[k]? = w.heap[k]? := by
  obtain ⟨Fp, Fq, Fr, h1, h2, h3, a, b, c⟩ := h.ex
  refine ⟨Fp, h1, fun k hk => (a k hk).1, fun w' D' hd hk => ⟨⟨fun k => Gr Fp w k ∧ k < w'.heap.size, Fq, Fr, hd.mono fun k hk hg => ⟨hg, hk⟩, h2.keep hk fun k _ hq => (b k hq).2.2.2.1, h3.keep hk fun k _ hr => (c k hr).2.2.2.1, ?_, ?_, ?_⟩, hk.toBelow _ hB fun k hf => (a k hf).1, fun k hx => hk.block k (hX k hx) fun hf => (a k hf).2.2.1 hx⟩⟩
  · rintro k ⟨hg, hlt⟩
    rcases hg with hg | hg
    · exact ⟨(a k hg).1, hlt, (a k hg).2.2.1, (a k hg).2.2.2.1, (a k hg).2.2.2.2⟩
    · exact ⟨by omega, hlt, fun hx => by have := hX k hx; omega, fun hq => by have := (b k hq).2.1; omega, fun hr => by have := (c k hr).2.1; omega⟩
  · intro k hq
    refine ⟨(b k hq).1, Nat.lt_of_lt_of_le (b k hq).2.1 hk.size, (b k hq).2.2.1, ?_, (b k hq).2.2.2.2⟩
    rintro ⟨hg | hg, _⟩
    · exact (b k hq).2.2.2.1 hg
    · have := (b k hq).2.1; omega
  · intro k hr
    refine ⟨(c k hr).1, Nat.lt_of_lt_of_le (c k hr).2.1 hk.size, (c k hr).2.2.1, ?_, (c k hr).2.2.2.2⟩
    rintro ⟨hg | hg, _⟩
    · exact (c k hr).2.2.2.1 hg
    · have := (c k hr).2.1; omega
/-- New blocks are none of theirs. -/
theorem Tri.mark {w w' : World} {B : Nat} {X : Nat → Prop} {p q r : Nat} {D E G : DSt} (h : Tri w B X p q r D E G) (hb : Below w.heap.size w w') (Y : Nat → Prop) (hY : ∀ k, Y k → w.heap.size ≤ k) : Tri w' B Y p q r D E G := by
  obtain ⟨Fp, Fq, Fr, h1, h2, h3, a, b, c⟩ := h.ex
  have k : Keeps (fun _ => False) w w' := ⟨hb.os, hb.tape, hb.output, hb.size, fun i hi _ => hb.block i hi⟩
  have ny : ∀ i, i < w.heap.size → ¬ Y i := fun i hi hy => by have := hY i hy; omega
  exact ⟨Fp, Fq, Fr, h1.keep k fun _ _ _ h => h, h2.keep k fun _ _ _ h => h, h3.keep k fun _ _ _ h => h, fun i hi => ⟨(a i hi).1, Nat.lt_of_lt_of_le (a i hi).2.1 hb.size, ny i (a i hi).2.1, (a i hi).2.2.2⟩, fun i hi => ⟨(b i hi).1, Nat.lt_of_lt_of_le (b i hi).2.1 hb.size, ny i (b i hi).2.1, (b i hi).2.2.2⟩, fun i hi => ⟨(c i hi).1, Nat.lt_of_lt_of_le (c i hi).2.1 hb.size, ny i (c i hi).2.1, (c i hi).2.2.2⟩⟩
theorem Tri.free {w : World} {B : Nat} {X : Nat → Prop} {p q r : Nat} {D E G : DSt} (h : Tri w B X p q r D E G) : Tri w B (fun _ => False) p q r D E G := h.mark (Below.refl _ _) _ fun _ h => h.elim
/-- Three disks that were made one behind the other. -/
theorem Tri.made {w w1 w2 w3 : World} {p q r : Nat} {D E G : DSt} (h1 : Dk w1 (fun k => w.heap.size ≤ k) p D) (k1 : Keeps (fun _ => False) w w1) (h2 : Dk w2 (fun k => w1.heap.size ≤ k) q E) (k2 : Keeps (fun _ => False) w1 w2) (h3 : Dk w3 (fun k => w2.heap.size ≤ k) r G) (k3 : Keeps (fun _ => False) w2 w3) :
    Tri w3 w.heap.size (fun _ => False) p q r D E G := by
  have hp : Dk w3 (fun k => w.heap.size ≤ k ∧ k < w1.heap.size) p D := ((h1.mono fun k hk hf => ⟨hf, hk⟩).keep k2 fun _ _ _ h => h).keep k3 fun _ _ _ h => h
  have hq : Dk w3 (fun k => w1.heap.size ≤ k ∧ k < w2.heap.size) q E := (h2.mono fun k hk hf => ⟨hf, hk⟩).keep k3 fun _ _ _ h => h
  have hr : Dk w3 (fun k => w2.heap.size ≤ k ∧ k < w3.heap.size) r G := h3.mono fun k hk hf => ⟨hf, hk⟩
  have s1 := k1.size
  have s2 := k2.size
  have s3 := k3.size
  exact ⟨_, _, _, hp, hq, hr, fun k hk => ⟨hk.1, by omega, fun h => h, by omega, by omega⟩, fun k hk => ⟨by omega, by omega, fun h => h, by omega, by omega⟩, fun k hk => ⟨by omega, hk.2, fun h => h, by omega, by omega⟩⟩
theorem Dk.bytes {w : World} {F : Nat → Prop} {p : Nat} {D : DSt} (h : Dk w F p D) : Calls Try.prog 25 #[.pointer (some ⟨p, 0, none⟩)] w (GivesB w D.L) := by
  obtain ⟨lb, mb, n, iv, h, _⟩ := h
  exact bytes_at h
theorem Tri.bytes {w : World} {B : Nat} {X : Nat → Prop} {p q r : Nat} {D E G : DSt} (h : Tri w B X p q r D E G) : Calls Try.prog 25 #[.pointer (some ⟨p, 0, none⟩)] w (GivesB w D.L) := by
  obtain ⟨Fp, Fq, Fr, h1, _⟩ := h.ex
  exact h1.bytes

/-- The writes of a list, one behind the other. -/
def wrTo (D : DSt) (l : List (Int × List UInt8)) : DSt := l.foldl (fun D x => D.write x.1 x.2) D
theorem write_len (D : DSt) (i : Int) (b : List UInt8) : (D.write i b).Q.length ≤ D.Q.length + 1 ∧ (D.write i b).acts ≤ D.acts + 1 ∧ (D.write i b).L = D.L := by
  unfold DSt.write DSt.spent
  split
  · exact ⟨by omega, by omega, rfl⟩
  · split
    · split
      · exact ⟨by simp, by simp, rfl⟩
      · refine ⟨by simp, by simp, rfl⟩
    · exact ⟨by omega, by omega, rfl⟩
/-- A disk whose power stays. -/
structure On (D : DSt) : Prop where
  left : D.left = -1
  down : D.down = false
theorem On.write {D : DSt} (h : On D) (i : Int) (b : List UInt8) : On (D.write i b) := by
  unfold DSt.write
  rw [if_neg (by rw [h.down]; simp)]
  split
  · rw [if_neg (by rw [h.left]; decide)]
    unfold DSt.spent
    rw [if_neg (by rw [h.left]; decide)]
    refine ⟨?_, h.down⟩
    show (if 0 < D.left then D.left - 1 else D.left) = -1
    rw [h.left]; rfl
  · exact h
theorem On.of (xs : List UInt8) : On (ofD xs) := ⟨rfl, rfl⟩
def fNone : Fate := ⟨0, -1, 0, false⟩
theorem fNone_ok : fNone.Ok := ⟨by decide, by decide⟩
theorem lay_none (L : List UInt8) (Q : List (Nat × List UInt8)) (k : Nat) : layTo fNone L Q k = L := by
  induction k with
  | zero => rfl
  | succ k ih =>
    unfold layTo
    split
    · rename_i q _
      rw [ih]
      unfold layOne
      have e1 : ((k : Int) == fNone.torn) = false := by
        rw [beq_eq_false_iff_ne]; show (k : Int) ≠ -1; omega
      have e2 : stayB fNone.stay k = false := by simp [fNone, stayB]
      rw [e1, e2]
      rfl
    · exact ih
theorem on_flush {D : DSt} (h : On D) : D.flush.L = (D.restart fAll).L := by
  have e : D.spent = { D with left := if 0 < D.left then D.left - 1 else D.left, acts := D.acts + 1 } := by unfold DSt.spent; rw [if_neg (by rw [h.left]; decide)]
  unfold DSt.flush
  rw [if_neg (by rw [h.down]; simp), if_neg (by rw [h.left]; decide), e]
  rfl
theorem restart_none (D : DSt) : (D.restart fNone).L = D.L := lay_none _ _ _
/-- The disk behind the first k writes of a list. -/
def afterW (D : DSt) (l : List (Int × List UInt8)) (k : Nat) : DSt := wrTo D (l.take k)
theorem afterW_succ (D : DSt) (l : List (Int × List UInt8)) (k : Nat) (h : k < l.length) : afterW D l (k + 1) = (afterW D l k).write l[k].1 l[k].2 := by
  unfold afterW wrTo
  rw [List.take_succ_eq_append_getElem h, List.foldl_append]
  rfl
theorem afterW_facts (D : DSt) (l : List (Int × List UInt8)) (hD : On D) (hQ : D.Q = []) (ha : D.acts = 0) (k : Nat) (hk : k ≤ l.length) : On (afterW D l k) ∧ (afterW D l k).Q.length ≤ k ∧ (afterW D l k).acts ≤ k ∧ (afterW D l k).L = D.L := by
  induction k with
  | zero => exact ⟨hD, by show D.Q.length ≤ 0; rw [hQ]; simp, by show D.acts ≤ 0; omega, rfl⟩
  | succ k ih =>
    obtain ⟨h1, h2, h3, h4⟩ := ih (by omega)
    rw [afterW_succ D l k (by omega)]
    have := write_len (afterW D l k) l[k].1 l[k].2
    exact ⟨h1.write _ _, by omega, by omega, this.2.2.trans h4⟩
end Go.Proofs.Ythbdhmjmboliiaa
