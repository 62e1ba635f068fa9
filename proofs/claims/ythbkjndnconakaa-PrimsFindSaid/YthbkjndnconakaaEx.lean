/-
  Ex
-/
import Derived.Test.YthbkjndnconakaaExBits
import Derived.Test.YthbkjndnconakaaGA
import Derived.Deep.Slices
namespace Go.Proofs.Ythbkjndnconakaa.Ex
open Go.ChangeShapes Go.WideShapes Go.ChangeAt Go.RowKit

theorem u32_of_wf {n : Int} (h : (Lit.int .u32 n).wf = true) : 0 ≤ n ∧ n ≤ 4294967295 := by
  simp [Lit.wf, IntKind.min, IntKind.max, IntKind.signed, IntKind.bits] at h
  omega
def xcells (x : EX) : List Value := [.int .i64 x.1, .int .i64 x.2]
/-- Both numbers are ints. -/
def XOk (x : EX) : Prop := (-9223372036854775808 ≤ x.1 ∧ x.1 ≤ 9223372036854775807) ∧ -9223372036854775808 ≤ x.2 ∧ x.2 ≤ 9223372036854775807
/-- The extents lie at 'A' (asked only where there are any), below block B. -/
structure XR (w : World) (B : Nat) (A : Option Addr) (l : List EX) : Prop where
  ar : l ≠ [] → ∃ ad, A = some ad ∧ ad.block < B ∧ ∀ k a, l[k]? = some a → ∀ j v, (xcells a)[j]? = some v → w.cell? ((ad.add (k * 2)).add j) = some v
  ok : ∀ a ∈ l, XOk a
section
variable {w w' : World} {B B' : Nat} {A : Option Addr} {l : List EX}
theorem XR.keep (h : XR w B A l) (hk : ∀ p : Addr, p.block < B → w'.cell? p = w.cell? p) : XR w' B A l := by
  refine ⟨fun hn => ?_, h.ok⟩
  obtain ⟨ad, e, hlt, hc⟩ := h.ar hn
  exact ⟨ad, e, hlt, fun k a ha j v hv => (hk _ (by rw [block_add, block_add]; exact hlt)).trans (hc k a ha j v hv)⟩
theorem XR.below (h : XR w B A l) (hb : Below B w w') : XR w' B A l := h.keep fun _ hp => hb.cell hp
theorem XR.more (h : XR w B A l) (hB : B ≤ B') : XR w B' A l := by
  refine ⟨fun hn => ?_, h.ok⟩
  obtain ⟨ad, e, hlt, hc⟩ := h.ar hn
  exact ⟨ad, e, by omega, hc⟩
theorem XR.nil : XR w B A [] := ⟨fun h => absurd rfl h, fun a ha => by cases ha⟩
/-- Its cells, one by one, as the walk spells them. -/
theorem XR.at_ (h : XR w B A l) {k : Nat} (hk : k < l.length) :
    ∃ ad, A = some ad ∧ ad.block < B ∧ w.cell? (ad.add (k * 2)) = some (.int .i64 l[k].1) ∧ w.cell? ⟨(ad.add (k * 2)).block, (ad.add (k * 2)).off + 1, none⟩ = some (.int .i64 l[k].2) ∧ XOk l[k] := by
  obtain ⟨ad, e, hb, hc⟩ := h.ar (by intro e; subst e; simp at hk)
  have H := hc k l[k] (List.getElem?_eq_getElem hk)
  exact ⟨ad, e, hb, H 0 _ rfl, H 1 _ rfl, h.ok _ (List.getElem_mem hk)⟩
end

section
variable {H : Type} {enc : TypeId × Value → H} {W : World}
end

/-! ### one extent -/
def V (x : EX) : Value := .agg #[.int .i64 x.1, .int .i64 x.2]
theorem set_num (s n : Int) (h : ins (s, n)) : ((2 : Int) ^ n.toNat - 1) % 4294967296 * 2 ^ s.toNat % 4294967296 = (setN (exB (s, n)) : Int) := by
  have e := setN_ex (s, n)
  have l : setN (exB (s, n)) < 4294967296 := setN_lt (fun b hb => (ins_mem h hb).2)
  rw [← e] at l ⊢
  simp only at l ⊢
  generalize n.toNat = N at *
  generalize s.toNat = S at *
  have p1 : 0 < (2 : Nat) ^ N := Nat.pow_pos (by decide)
  have p2 : 0 < (2 : Nat) ^ S := Nat.pow_pos (by decide)
  have e1 : (2 : Int) ^ N = ((2 ^ N : Nat) : Int) := by simp
  have e2 : (2 : Int) ^ S = ((2 ^ S : Nat) : Int) := by simp
  have l2 : 2 ^ N - 1 ≤ (2 ^ N - 1) * 2 ^ S := Nat.le_mul_of_pos_right _ p2
  rw [e1, e2]
  clear e1 e2 e
  generalize (2 : Nat) ^ N = a at *
  generalize (2 : Nat) ^ S = b at *
  have e3 : ((a : Int) - 1) % 4294967296 = ((a - 1 : Nat) : Int) := by omega
  rw [e3, ← Int.natCast_mul]
  omega
/-! ### lists -/
def okE (l : List EX) : Int := if ok l = true then 0 else 1
theorem okE_no {l : List EX} (h : ok l = false) : okE l = 1 := by simp [okE, h]
theorem okE_yes {l : List EX} (h : ok l = true) : okE l = 0 := by simp [okE, h]
def Gives (w : World) (v : Value) (e : Ending) (w' : World) : Prop := e = .returned v ∧ Below w.heap.size w w'
end Go.Proofs.Ythbkjndnconakaa.Ex
