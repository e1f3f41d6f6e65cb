/- The reference's leave: what it does. -/
import Derived.Test.YtcgiicmmfleinaaDoorLk7
namespace Go.Proofs.YtcgiicmmfleinaaDoor
open Go.RowKit NumMath Go.ChangeShapes Go.WideShapes Go.Deep
set_option linter.unusedVariables false
set_option maxRecDepth 100000

def ml0 : ML := ⟨lck0, none, 0, 0, none, 0, 0⟩

theorem ml0_ok (w : World) : ml0.ok w := ⟨⟨rfl, Nat.le_refl _, Nat.zero_le _, by simp [ml0, lck0], .inl rfl⟩, ⟨rfl, Nat.le_refl _, Nat.zero_le _, by simp [ml0, lck0], .inl rfl⟩⟩

/-- whom leave keeps -/
def stayM (tx : Int) (but m : ML) : Bool := m.l.tx != tx || decide (m.l = but.l)

theorem leaveM_l (ws : List ML) (tx : Int) (but : ML) : (ws.filter (stayM tx but)).map ML.l = leaveL (ws.map ML.l) tx but.l := by
  unfold leaveL
  rw [List.filter_map]
  congr 1

/-- what leave, or another call that lays one list anew, leaves of the table: list i of the two -/
structure TxP (w : World) (q i : Nat) (l : List ML) (w' : World) (v : Value) : Prop where
  c : w'.cell? ⟨q, i, none⟩ = some v
  o : OwnY layK w' w.heap.size v l
  kp : Keeps (fun k => k = q) w w'
  oc : ∀ j, j ≠ i → w'.cell? ⟨q, j, none⟩ = w.cell? ⟨q, j, none⟩
  fz : ∀ j, w'.frozen? ⟨q, j, none⟩ = w.frozen? ⟨q, j, none⟩

theorem txP_set {w wr : World} {q i : Nat} {l : List ML} {v : Value} (hb : Below w.heap.size w wr) (hq : q < w.heap.size) (ho : OwnY layK wr w.heap.size v l) (hc : (w.cell? ⟨q, i, none⟩).isSome = true) : TxP w q i l (wr.setCell ⟨q, i, none⟩ v) v := by
  have hk := keepsY_cell (w := wr) (g := q) (i := i) v
  refine ⟨World.cell?_setCell_same' _ _ _ ((by rw [hb.cell (p := ⟨q, i, none⟩) hq]; exact hc)), ho.lies (fun g hg => hk.block g (ho.lt g hg).2 (by have := (ho.lt g hg).1; omega)), ⟨hk.os.trans hb.os, hk.tape.trans hb.tape, hk.output.trans hb.output, Nat.le_trans hb.size hk.size, fun k hk1 hn => (hk.block k (Nat.lt_of_lt_of_le hk1 hb.size) hn).trans (hb.block k hk1)⟩, fun j hj => ?_, fun j => ?_⟩
  · rw [World.cell?_setCell_other _ _ _ _ (by intro e; cases e; exact hj rfl)]
    exact hb.cell (p := ⟨q, j, none⟩) hq
  · rw [World.frozen?_setCell]
    exact hb.frozen (p := ⟨q, j, none⟩) hq

end Go.Proofs.YtcgiicmmfleinaaDoor
