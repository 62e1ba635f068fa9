/-
  Same
-/
import Derived.Test.YthmlhjjcihibnaaGB
import Derived.Test.YthmlhjjcihibnaaGLe
namespace Go.Proofs.Ythmlhjjcihibnaa
open Go.RowKit

set_option maxRecDepth 100000 in
set_option maxHeartbeats 400000 in
theorem same_any (A : Option Addr) (xs : List UInt8) (c : Nat) (A' : Option Addr) (ys : List UInt8) (c' : Nat) (w : World) (hx : BR w w.heap.size A xs) (hy : BR w w.heap.size A' ys) :
    Calls Try.prog 19 #[.slice A xs.length c, .slice A' ys.length c'] w fun e w' => e = .returned (.bool (decide (xs = ys))) ∧ w = w' := by
  have c1 := run_str (P := Try.prog) w _ _ _ _ A xs c hx Try.underlying22 Try.underlying5 Try.underlying9
  have c2 := run_str (P := Try.prog) w _ _ _ _ A' ys c' hy Try.underlying22 Try.underlying5 Try.underlying9
  clear hx hy
  go_enter Try.func19, Try.ntmps19
  go_wp2
  go_ret
  exact ⟨ret_bool (list_eq xs ys), rfl⟩
/-- The same, the lengths being said otherwise. -/
theorem same_len (A : Option Addr) (xs : List UInt8) (c n : Nat) (A' : Option Addr) (ys : List UInt8) (c' n' : Nat) (w : World) (hx : BR w w.heap.size A xs) (hy : BR w w.heap.size A' ys) (hn : xs.length = n) (hn' : ys.length = n') :
    Calls Try.prog 19 #[.slice A n c, .slice A' n' c'] w fun e w' => e = .returned (.bool (decide (xs = ys))) ∧ w = w' := by
  subst hn hn'
  exact same_any A xs c A' ys c' w hx hy
end Go.Proofs.Ythmlhjjcihibnaa
