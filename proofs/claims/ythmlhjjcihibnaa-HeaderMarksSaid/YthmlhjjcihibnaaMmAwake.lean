/-
  MmAwake
-/
import Derived.Test.YthmlhjjcihibnaaMmCalls
import Derived.Test.YthmlhjjcihibnaaMmFlat
namespace Go.Proofs.Ythmlhjjcihibnaa.Mm
open Go.RowKit Go.Maps
set_option linter.unusedVariables false

theorem ex_wrap : (IntKind.u64.wrap (-1)).toNat = 18446744073709551615 := by rw [IntKind.wrap_u64]; decide
theorem ex_get (Z : List UInt8) (hz : Z.length = 8192) : cel (setM Z 768 (-1)) 768 = -1 := back_cel Z 768 (-1) (by omega) (by omega) (by omega) (by omega)
theorem ex_byte (Z : List UInt8) (hz : Z.length = 8192) : byteV (setM Z 768 (-1)) 775 = 255 := by
  unfold byteV
  rw [if_neg (by omega), byt_in _ _ (by omega), show ((775 : Int)).toNat = 775 from rfl]
  unfold setM
  rw [ex_wrap, putL_get' _ _ _ _ _ (by omega), if_pos (by omega)]
  decide
theorem below_false {w w' : World} (k : Keeps (fun _ => False) w w') : Below w.heap.size w w' := k.toBelow _ (Nat.le_refl _) fun _ h => h.elim

end Go.Proofs.Ythmlhjjcihibnaa.Mm
