/-
  Words for a root and its checkpoints in memory, and the plain functions that layer 3 comes to.
-/
import Derived.Test.YtlefpnplibmgiaaPutGet
import Derived.Test.YtlefpnplibmgiaaCrc
namespace Go.Proofs.Ytlefpnplibmgiaa
open Go.RowKit

/-- A checkpoint: its generation, its tree's top. -/
structure Sn where
  g : Nat
  t : Int
deriving DecidableEq
def sn0 : Sn := ⟨0, 0⟩
/-- The checkpoints lie at 'A' (asked only where there are any), below block B. -/
def SR (w : World) (B : Nat) (A : Option Addr) (l : List Sn) : Prop :=
  l ≠ [] → ∃ ad, A = some ad ∧ ad.block < B ∧ ∀ k s, l[k]? = some s → w.cell? (ad.add (k * 2)) = some (.int .u64 (s.g : Int)) ∧ w.cell? ⟨(ad.add (k * 2)).block, (ad.add (k * 2)).off + 1, none⟩ = some (.int .i64 s.t)
theorem SR.at_ {w : World} {B : Nat} {A : Option Addr} {l : List Sn} (h : SR w B A l) {k : Nat} (hk : k < l.length) :
    ∃ ad, A = some ad ∧ ad.block < B ∧ w.cell? (ad.add (k * 2)) = some (.int .u64 ((l.getD k sn0).g : Int)) ∧ w.cell? ⟨(ad.add (k * 2)).block, (ad.add (k * 2)).off + 1, none⟩ = some (.int .i64 (l.getD k sn0).t) := by
  obtain ⟨ad, e, hb, hc⟩ := h (by intro e; subst e; simp at hk)
  have := hc k l[k] (List.getElem?_eq_getElem hk)
  exact ⟨ad, e, hb, by simpa [List.getD_eq_getElem?_getD, List.getElem?_eq_getElem hk] using this⟩
theorem SR.keep {w w' : World} {B : Nat} {A : Option Addr} {l : List Sn} (h : SR w B A l) (hk : ∀ p : Addr, p.block < B → w'.cell? p = w.cell? p) : SR w' B A l := by
  intro hn
  obtain ⟨ad, e, hb, hc⟩ := h hn
  exact ⟨ad, e, hb, fun k s hs => ⟨(hk _ (by rw [block_add]; exact hb)).trans (hc k s hs).1, (hk _ (by rw [block_add]; exact hb)).trans (hc k s hs).2⟩⟩
theorem SR.more {w : World} {B B' : Nat} {A : Option Addr} {l : List Sn} (h : SR w B A l) (hB : B ≤ B') : SR w B' A l := by
  intro hn
  obtain ⟨ad, e, hb, hc⟩ := h hn
  exact ⟨ad, e, by omega, hc⟩
theorem SR.below {w w' : World} {B : Nat} {A : Option Addr} {l : List Sn} (h : SR w B A l) (hb : Below B w w') : SR w' B A l := h.keep fun _ hp => hb.cell hp
theorem SR.nil {w : World} {B : Nat} {A : Option Addr} : SR w B A [] := fun h => absurd rfl h

/-- A root as a value. -/
abbrev agR (g : Nat) (A : Option Addr) (n c : Nat) : Value := .agg #[.int .u64 (g : Int), .slice A n c]

/-- A top that may be. -/
def topB (t : Int) : Bool := decide (0 ≤ t) && decide (t < 2000) && decide (t ≠ 1)
/-- The i-th checkpoint's top may be, and its generation is above the one ahead of it. -/
def okAt (l : List Sn) (i : Nat) : Bool := topB (l.getD i sn0).t && (decide (i = 0) || decide ((l.getD (i - 1) sn0).g < (l.getD i sn0).g))
def okTo (l : List Sn) (k : Nat) : Bool := (List.range k).all (okAt l)
theorem okTo_succ (l : List Sn) (k : Nat) : okTo l (k + 1) = (okTo l k && okAt l k) := by simp [okTo, List.range_succ]
/-- Whether a root may be. -/
def mayB (g : Nat) (l : List Sn) : Bool := decide (1 ≤ l.length) && decide (l.length ≤ 4) && okTo l l.length && decide ((l.getD (l.length - 1) sn0).g ≤ g)

theorem okTo_le (l : List Sn) (j k : Nat) (h : okTo l k = true) (hj : j ≤ k) : okTo l j = true := by
  unfold okTo at *
  rw [List.all_eq_true] at *
  intro x hx
  exact h x (by simp at *; omega)
theorem mayB_no (g : Nat) (l : List Sn) (k : Nat) (hk : k < l.length) (h : okAt l k = false) : mayB g l = false := by
  have h2 : okTo l l.length = false := by
    rw [Bool.eq_false_iff]
    intro h1
    have := okTo_le l (k + 1) l.length h1 (by omega)
    rw [okTo_succ, h] at this
    simp at this
  simp [mayB, h2]
theorem okAt_top (l : List Sn) (k : Nat) (h : topB (l.getD k sn0).t = false) : okAt l k = false := by simp only [okAt, h, Bool.false_and]
theorem okAt_zero (l : List Sn) (h : topB (l.getD 0 sn0).t = true) : okAt l 0 = true := by simp only [okAt, h]; rfl
theorem okAt_more (l : List Sn) (k : Nat) (h0 : 1 ≤ k) (h : topB (l.getD k sn0).t = true) : okAt l k = decide ((l.getD (k - 1) sn0).g < (l.getD k sn0).g) := by
  have : decide (k = 0) = false := by simp; omega
  simp only [okAt, h, this, Bool.false_or, Bool.true_and]

theorem mayB_len (g : Nat) (l : List Sn) (h : ¬ (1 ≤ l.length ∧ l.length ≤ 4)) : mayB g l = false := by
  rw [Bool.eq_false_iff]; intro h2; simp [mayB] at h2; omega
theorem mayB_end (g : Nat) (l : List Sn) (h1 : 1 ≤ l.length) (h4 : l.length ≤ 4) (h : okTo l l.length = true) : mayB g l = decide ((l.getD (l.length - 1) sn0).g ≤ g) := by
  simp only [mayB, h, Bool.and_true, decide_eq_true h1, decide_eq_true h4, Bool.true_and]

theorem okTo_at {l : List Sn} {k i : Nat} (h : okTo l k = true) (hi : i < k) : okAt l i = true := by
  unfold okTo at h
  rw [List.all_eq_true] at h
  exact h i (by simpa using hi)
theorem okTo_rise {l : List Sn} {k : Nat} (h : okTo l k = true) : ∀ d i, i + d < k → (l.getD i sn0).g ≤ (l.getD (i + d) sn0).g := by
  intro d
  induction d with
  | zero => intro i _; exact Nat.le_refl _
  | succ d ih =>
    intro i hi
    have h1 := ih i (by omega)
    have h2 := okTo_at h (i := i + (d + 1)) hi
    simp only [okAt, Bool.and_eq_true, Bool.or_eq_true, decide_eq_true_eq] at h2
    rcases h2.2 with h3 | h3
    · omega
    · rw [show i + (d + 1) - 1 = i + d from by omega] at h3; omega
theorem mayB_parts {g : Nat} {l : List Sn} (h : mayB g l = true) : 1 ≤ l.length ∧ l.length ≤ 4 ∧ okTo l l.length = true ∧ (l.getD (l.length - 1) sn0).g ≤ g := by
  simp only [mayB, Bool.and_eq_true, decide_eq_true_eq] at h
  exact ⟨h.1.1.1, h.1.1.2, h.1.2, h.2⟩
theorem mayB_gen {g : Nat} {l : List Sn} (h : mayB g l = true) (k : Nat) (hk : k < l.length) : (l.getD k sn0).g ≤ g := by
  obtain ⟨h1, _, h3, h4⟩ := mayB_parts h
  have := okTo_rise h3 (l.length - 1 - k) k (by omega)
  rw [show k + (l.length - 1 - k) = l.length - 1 from by omega] at this
  omega
theorem mayB_gen_no (g : Nat) (l : List Sn) (k : Nat) (hk : k < l.length) (h : g < (l.getD k sn0).g) : mayB g l = false := by
  rw [Bool.eq_false_iff]
  intro h2
  have := mayB_gen h2 k hk
  omega
/-- No generation of the first k is above g. -/
def genTo (g : Nat) (l : List Sn) (k : Nat) : Prop := ∀ i, i < k → (l.getD i sn0).g ≤ g
theorem genTo_succ {g : Nat} {l : List Sn} {k : Nat} (h : genTo g l k) (h1 : (l.getD k sn0).g ≤ g) : genTo g l (k + 1) := by
  intro i hi
  by_cases e : i = k
  · subst e; exact h1
  · exact h i (by omega)
theorem mayB_all (g : Nat) (l : List Sn) (h1 : 1 ≤ l.length) (h4 : l.length ≤ 4) (h : okTo l l.length = true) (hg : genTo g l l.length) : mayB g l = true := by
  rw [mayB_end g l h1 h4 h]
  simpa using hg _ (by omega)

/-- A record's bytes up to the k-th checkpoint. -/
def headL (g n : Nat) : List UInt8 := putL (putL (putL (List.replicate 64 0) 0 1280459075 4) 4 g 8) 12 n 2
def snapL (g : Nat) (l : List Sn) : Nat → List UInt8
  | 0 => headL g l.length
  | k + 1 => putL (putL (snapL g l k) (14 + 10 * k) (l.getD k sn0).g 8) (22 + 10 * k) (l.getD k sn0).t.toNat 2
def encL (g : Nat) (l : List Sn) : List UInt8 := putL (snapL g l l.length) 60 (crcOf ((snapL g l l.length).take 60)) 4
theorem headL_len (g n : Nat) : (headL g n).length = 64 := by simp [headL, putL_len]
theorem snapL_len (g : Nat) (l : List Sn) (k : Nat) : (snapL g l k).length = 64 := by
  induction k with
  | zero => exact headL_len _ _
  | succ k ih => rw [snapL, putL_len, putL_len, ih]
theorem encL_len (g : Nat) (l : List Sn) : (encL g l).length = 64 := by rw [encL, putL_len, snapL_len]
end Go.Proofs.Ytlefpnplibmgiaa
