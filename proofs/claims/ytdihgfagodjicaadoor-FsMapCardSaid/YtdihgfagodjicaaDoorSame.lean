/-
  Same
-/
import Derived.Test.YtdihgfagodjicaaDoorGB
import Derived.Test.YtdihgfagodjicaaDoorGLe
namespace Go.Proofs.YtdihgfagodjicaaDoor
open Go.RowKit

end Go.Proofs.YtdihgfagodjicaaDoor
