/-
  HhEq
-/
import Derived.Test.YthmlhjjcihibnaaHhAwk
import Derived.Test.YthmlhjjcihibnaaGSnG
namespace Go.Proofs.Ythmlhjjcihibnaa.Hh
open Go.RowKit Go.Maps Mm Sk
theorem eqgH : Try.prog.eqGuardType Try.prog.depth 29 = false := by kernel_rfl
theorem fieldsH : Try.prog.fieldsOf 29 = #[⟨"At", 2, 0, false, "", "", 0⟩, ⟨"Link", 2, 1, false, "", "", 8⟩, ⟨"Name", 9, 2, false, "", "", 16⟩, ⟨"Immediate", 4, 3, false, "", "", 32⟩, ⟨"Hidden", 4, 4, false, "", "", 33⟩, ⟨"Xt", 2, 5, false, "", "", 40⟩] := by
  unfold Program.fieldsOf
  rw [Try.underlying29]
theorem eql_hag (w : World) (x : HV) : (binOp .eql 29 (hag x) (hag x)).run Try.prog w = .ok (.bool true) w := by
  unfold hag Sx
  rw [run_eql_struct, run_equalIn_struct w 9999 29 _ _ (by rw [fieldsH]; exact Try.underlying29) (by kernel_rfl), fieldsH]
  go_simp
end Go.Proofs.Ythmlhjjcihibnaa.Hh
