/- The reference's Edges: what they are. -/
import Derived.Test.YtcgiicmmfleinaaGreatDoorLk8
import Derived.Test.YtcgiicmmfleinaaGreatDoorSgA
namespace Go.Proofs.YtcgiicmmfleinaaGreatDoor
open Go.RowKit NumMath Go.ChangeShapes Go.WideShapes Go.Deep
set_option linter.unusedVariables false
set_option maxRecDepth 100000

/-- the edges of those that wait up to k, and of the next one's first j -/
def edK (hs ws : List ML) (k : Nat) : List (Int × Int) := ddL (rawE (hs.map ML.l) [] ((ws.take k).map ML.l))

def edJ (hs ws : List ML) (k : Nat) (m : ML) (j : Nat) : List (Int × Int) := (((wayM hs (ws.take k) m).take j).map (fun h => (m.l.tx, h.l.tx))).foldl ddW (edK hs ws k)

theorem edJ_all {hs ws : List ML} {k : Nat} {m : ML} (hk : ws[k]? = some m) {j : Nat} (hj : (wayM hs (ws.take k) m).length ≤ j) : edJ hs ws k m j = edK hs ws (k + 1) := by
  unfold edJ edK ddL
  rw [List.take_of_length_le hj, List.take_add_one, hk]
  show _ = (rawE (hs.map ML.l) [] ((ws.take k ++ [m]).map ML.l)).foldl ddW []
  rw [List.map_append, List.map_singleton, rawE_snoc, List.foldl_append, List.nil_append, ← wayM_l, List.map_map]
  rfl

end Go.Proofs.YtcgiicmmfleinaaGreatDoor
