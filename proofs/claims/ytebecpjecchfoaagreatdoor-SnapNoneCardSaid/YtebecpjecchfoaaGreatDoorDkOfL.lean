/-
  DkOfL
-/
import Derived.Test.YtebecpjecchfoaaGreatDoorGDo
namespace Go.Proofs.YtebecpjecchfoaaGreatDoor
open Go.RowKit Go.Maps

end Go.Proofs.YtebecpjecchfoaaGreatDoor
