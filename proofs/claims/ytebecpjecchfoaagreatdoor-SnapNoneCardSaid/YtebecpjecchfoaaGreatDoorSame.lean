/-
  Same
-/
import Derived.Test.YtebecpjecchfoaaGreatDoorGB
import Derived.Test.YtebecpjecchfoaaGreatDoorGLe
namespace Go.Proofs.YtebecpjecchfoaaGreatDoor
open Go.RowKit

end Go.Proofs.YtebecpjecchfoaaGreatDoor
