/- The reference's leave: what it does. -/
import Derived.Test.YtcgiicmmfleinaaGreatDoorLk7
namespace Go.Proofs.YtcgiicmmfleinaaGreatDoor
open Go.RowKit NumMath Go.ChangeShapes Go.WideShapes Go.Deep
set_option linter.unusedVariables false
set_option maxRecDepth 100000

end Go.Proofs.YtcgiicmmfleinaaGreatDoor
