/-
  MmRefW
-/
import Derived.Test.YthmlhjjcihibnaaMmRef
import Derived.Test.YthmlhjjcihibnaaGMm
namespace Go.Proofs.Ythmlhjjcihibnaa.Mm
open Go.RowKit Go.Maps
set_option linter.unusedVariables false

variable {w : World} {mi q b c d e : Nat} {B G : List UInt8}
set_option maxRecDepth 100000 in
/-- The document's PutCell: its bytes are the call's own. -/
theorem refPutCell_own (A : Option Addr) (xs : List UInt8) (c : Nat) (a : Int) (n : Int) (w : World) (hx : BR w w.heap.size A xs) (hl : xs.length ≤ 1000000) (ha : -9223372036854775808 ≤ a) (ha' : a ≤ 9223372036854775807) :
    Calls Try.prog 38 #[.slice A xs.length c, .int .i64 a, .int .i64 n] w (GivesO w (putL xs a (IntKind.u64.wrap n).toNat 8)) := by
  go_enter Try.func38, Try.ntmps38
  have hw : IntKind.u64.wrap n = ((IntKind.u64.wrap n).toNat : Int) := (Int.toNat_of_nonneg (by rw [IntKind.wrap_u64]; omega)).symm
  have HW := Lib.hid hw
  clear hw
  go_wp2_with fail
  rw [HW.out]
  refine (refPutNum_own _ _ _ _ _ _ _ hx hl ha ha').mono ?_
  rintro e w1 ⟨R, c1, rfl, hr, hb⟩
  go_wp2_with fail
  go_ret
  exact ⟨R, c1, rfl, hr, hb⟩

theorem layL1 (M : List UInt8) (a : Int) (u : UInt8) (h0 : 0 ≤ a) (h1 : a < M.length) : layL M a [u] = M.set a.toNat u := by
  refine ext_getD (by rw [layL_len, List.length_set]) fun k hk => ?_
  rw [layL_len] at hk
  rw [getD_layL _ _ _ _ hk, List.getD_eq_getElem?_getD (l := M.set a.toNat u), List.getElem?_set, List.length_singleton]
  by_cases e : a.toNat = k
  · have c1 : a ≤ k ∧ (k : Int) < a + (1 : Nat) := by omega
    have c2 : a.toNat < M.length := by omega
    rw [if_pos e, if_pos c1, if_pos c2, byt_in _ _ (by omega), show ((k : Int) - a).toNat = 0 by omega]
    rfl
  · have c1 : ¬ (a ≤ k ∧ (k : Int) < a + (1 : Nat)) := by omega
    rw [if_neg e, if_neg c1, ← List.getD_eq_getElem?_getD]

end Go.Proofs.Ythmlhjjcihibnaa.Mm
