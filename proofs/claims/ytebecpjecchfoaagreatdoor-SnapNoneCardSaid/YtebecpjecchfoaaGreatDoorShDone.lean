/-
  ShDone
-/
import Derived.Test.YtebecpjecchfoaaGreatDoorGShC
import Derived.Test.YtebecpjecchfoaaGreatDoorTrKeep
import Derived.Test.YtebecpjecchfoaaGreatDoorGRd
namespace Go.Proofs.YtebecpjecchfoaaGreatDoor
open Go.RowKit Go.Maps

end Go.Proofs.YtebecpjecchfoaaGreatDoor
