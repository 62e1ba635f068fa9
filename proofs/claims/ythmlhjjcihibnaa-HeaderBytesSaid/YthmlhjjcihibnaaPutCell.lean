/-
  PutCell
-/
import Derived.Test.YthmlhjjcihibnaaGLe
namespace Go.Proofs.Ythmlhjjcihibnaa
open Go.RowKit

set_option maxRecDepth 100000 in
set_option maxHeartbeats 400000 in
theorem lePutCell_any (A : Option Addr) (xs : List UInt8) (c : Nat) (a : Int) (n : Int) (w : World) (hx : BR w w.heap.size A xs) (hl : xs.length ≤ 1000000) (ha : -9223372036854775808 ≤ a) :
    Calls Try.prog 36 #[.slice A xs.length c, .int .i64 a, .int .i64 n] w (GivesB w (putL xs a (IntKind.u64.wrap n).toNat 8)) := by
  go_enter Try.func36, Try.ntmps36
  have hw : IntKind.u64.wrap n = ((IntKind.u64.wrap n).toNat : Int) := (Int.toNat_of_nonneg (by rw [IntKind.wrap_u64]; omega)).symm
  have HW := Lib.hid hw
  clear hw
  go_wp2_with fail
  rw [HW.out]
  refine (lePutNum_any _ _ _ _ _ _ _ hx hl ha).mono ?_
  rintro e w1 ⟨R, c1, rfl, hr, hb⟩
  go_wp2_with fail
  go_ret
  exact ⟨R, c1, rfl, hr, hb⟩

set_option maxRecDepth 100000 in
set_option maxHeartbeats 400000 in
theorem refPutCell_any (A : Option Addr) (xs : List UInt8) (c : Nat) (a : Int) (n : Int) (w : World) (hx : BR w w.heap.size A xs) (hl : xs.length ≤ 1000000) (ha : -9223372036854775808 ≤ a) (ha' : a ≤ 9223372036854775807) :
    Calls Try.prog 38 #[.slice A xs.length c, .int .i64 a, .int .i64 n] w (GivesB w (putL xs a (IntKind.u64.wrap n).toNat 8)) := by
  go_enter Try.func38, Try.ntmps38
  have hw : IntKind.u64.wrap n = ((IntKind.u64.wrap n).toNat : Int) := (Int.toNat_of_nonneg (by rw [IntKind.wrap_u64]; omega)).symm
  have HW := Lib.hid hw
  clear hw
  go_wp2_with fail
  rw [HW.out]
  refine (refPutNum_any _ _ _ _ _ _ _ hx hl ha ha').mono ?_
  rintro e w1 ⟨R, c1, rfl, hr, hb⟩
  go_wp2_with fail
  go_ret
  exact ⟨R, c1, rfl, hr, hb⟩
end Go.Proofs.Ythmlhjjcihibnaa
