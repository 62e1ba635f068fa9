/-
  PutLaws
-/
import Derived.Test.YthmlhjjcihibnaaGLe
import Derived.Test.YthmlhjjcihibnaaCell
import Derived.Test.YthmlhjjcihibnaaPutCell
namespace Go.Proofs.Ythmlhjjcihibnaa
open Go.RowKit

theorem back_num (xs : List UInt8) (a : Int) (n : Nat) (ha : 0 ≤ a) (hl : a ≤ xs.length - 8) : num (putL xs a n 8) a 8 = n % 2 ^ 64 := by
  refine num_of_bytes _ a n 8 fun j hj => ?_
  rw [byt_in _ _ (by omega), putL_get xs a n 8 _ ha (by omega), if_pos (by omega)]
  rw [show (((a + j).toNat : Nat) : Int) - a = j from by omega, Int.toNat_natCast]
theorem back_cel (xs : List UInt8) (a n : Int) (ha : 0 ≤ a) (hl : a ≤ xs.length - 8) (h1 : -9223372036854775808 ≤ n) (h2 : n ≤ 9223372036854775807) : cel (putL xs a (IntKind.u64.wrap n).toNat 8) a = n := by
  unfold cel wrap64
  rw [back_num xs a _ ha hl, IntKind.wrap_u64]
  omega
theorem back_else (xs : List UInt8) (a : Int) (n i : Nat) (ha : 0 ≤ a) (hi : i < xs.length) (h : (i : Int) < a ∨ a + 8 ≤ i) : (putL xs a n 8).getD i 0 = xs.getD i 0 := by
  rw [putL_get xs a n 8 i ha hi, if_neg (by omega)]
end Go.Proofs.Ythmlhjjcihibnaa
