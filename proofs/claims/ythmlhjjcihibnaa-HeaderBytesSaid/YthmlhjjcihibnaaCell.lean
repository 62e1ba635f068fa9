/-
  Cell
-/
import Derived.Test.YthmlhjjcihibnaaGLe
namespace Go.Proofs.Ythmlhjjcihibnaa
open Go.RowKit

/-- The cell at a place. -/
def cel (xs : List UInt8) (a : Int) : Int := wrap64 (num xs a 8 : Int)

set_option maxRecDepth 100000 in
set_option maxHeartbeats 400000 in
theorem leCell_any (A : Option Addr) (xs : List UInt8) (c : Nat) (a : Int) (w : World) (hx : BR w w.heap.size A xs) (hl' : xs.length ≤ 1000000) (ha : -9223372036854775808 ≤ a) :
    Calls Try.prog 45 #[.slice A xs.length c, .int .i64 a] w fun e w' => e = .returned (.int .i64 (cel xs a)) ∧ w = w' := by
  go_enter Try.func45, Try.ntmps45
  go_wp2_with (go_at_call 50; refine (leNum_any _ _ _ _ _ _ hx hl' ha).mono ?_; rintro e w' ⟨rfl, rfl⟩)
  go_ret
  exact ⟨rfl, rfl⟩

set_option maxRecDepth 100000 in
set_option maxHeartbeats 400000 in
theorem refCell_any (A : Option Addr) (xs : List UInt8) (c : Nat) (a : Int) (w : World) (hx : BR w w.heap.size A xs) (hl' : xs.length ≤ 1000000) (ha : -9223372036854775808 ≤ a) (ha' : a ≤ 9223372036854775807) :
    Calls Try.prog 46 #[.slice A xs.length c, .int .i64 a] w fun e w' => e = .returned (.int .i64 (cel xs a)) ∧ w = w' := by
  go_enter Try.func46, Try.ntmps46
  go_wp2_with (go_at_call 51; refine (refNum_any _ _ _ _ _ _ hx hl' ha ha').mono ?_; rintro e w' ⟨rfl, rfl⟩)
  go_ret
  exact ⟨rfl, rfl⟩
end Go.Proofs.Ythmlhjjcihibnaa
