/-
  Cell
-/
import Derived.Test.YtmaoaeebggpbbaaGLe
namespace Go.Proofs.Ytmaoaeebggpbbaa
open Go.RowKit

/-- The cell at a place. -/
def cel (xs : List UInt8) (a : Int) : Int := wrap64 (num xs a 8 : Int)

set_option maxRecDepth 100000 in
set_option maxHeartbeats 400000 in
theorem leCell_any (A : Option Addr) (xs : List UInt8) (c : Nat) (a : Int) (w : World) (hx : BR w w.heap.size A xs) (hl' : xs.length ≤ 1000000) (ha : -9223372036854775808 ≤ a) :
    Calls Try.prog 62 #[.slice A xs.length c, .int .i64 a] w fun e w' => e = .returned (.int .i64 (cel xs a)) ∧ w = w' := by
  go_enter Try.func62, Try.ntmps62
  go_wp2_with (go_at_call 71; refine (leNum_any _ _ _ _ _ _ hx hl' ha).mono ?_; rintro e w' ⟨rfl, rfl⟩)
  go_ret
  exact ⟨rfl, rfl⟩

set_option maxRecDepth 100000 in
set_option maxHeartbeats 400000 in
theorem refCell_any (A : Option Addr) (xs : List UInt8) (c : Nat) (a : Int) (w : World) (hx : BR w w.heap.size A xs) (hl' : xs.length ≤ 1000000) (ha : -9223372036854775808 ≤ a) (ha' : a ≤ 9223372036854775807) :
    Calls Try.prog 57 #[.slice A xs.length c, .int .i64 a] w fun e w' => e = .returned (.int .i64 (cel xs a)) ∧ w = w' := by
  go_enter Try.func57, Try.ntmps57
  go_wp2_with (go_at_call 69; refine (refNum_any _ _ _ _ _ _ hx hl' ha ha').mono ?_; rintro e w' ⟨rfl, rfl⟩)
  go_ret
  exact ⟨rfl, rfl⟩
end Go.Proofs.Ytmaoaeebggpbbaa
