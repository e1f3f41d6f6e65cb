/- Maps, whatever their values are: what stands at which key. -/
import Derived.Test.YtcgiicmmfleinaaGreatDoorBtA
import Derived.Maps.OwnSet
import Derived.Maps.OwnOps
import Derived.DeepKeys4
import Derived.WideKeyPair
namespace Go.Proofs.YtcgiicmmfleinaaGreatDoor
open Go.RowKit NumMath Go.ChangeShapes Go.WideShapes Go.Deep
set_option linter.unusedVariables false
set_option maxRecDepth 100000

def heldE (v : Value) : Option (DataW Value × List MemPlace) := some (.held v, [])

open Classical in
/-- another value at one key -/
noncomputable def setF (f : Lit → Option Value) (l : Lit) (v : Option Value) : Lit → Option Value := fun x => if x = l then v else f x

theorem setF_same (f : Lit → Option Value) (l : Lit) (v : Option Value) : setF f l v l = v := by simp [setF]

theorem setF_other (f : Lit → Option Value) {l x : Lit} (v : Option Value) (h : x ≠ l) : setF f l v x = f x := by simp [setF, h]

/-- block b is a map of at most z entries; at a key l stands f l -/
def MapV (w : World) (k : TypeId) (b z : Nat) (f : Lit → Option Value) : Prop :=
  ∃ D, w.ownsMap (H := Value) Tryz.prog k heldE b z D ∧ ∀ l, Maps.has D l = (f l).isSome ∧ ∀ d, D.atKey l d = (match f l with | some v => .held v | none => d)

theorem MapV.same {w w' : World} {k : TypeId} {b z : Nat} {f : Lit → Option Value} (h : MapV w k b z f) (e : w'.heap[b]? = w.heap[b]?) : MapV w' k b z f := by
  obtain ⟨D, ⟨es, clock, hb, F, hs, hD⟩, hC⟩ := h
  exact ⟨D, ⟨es, clock, e.trans hb, F, hs, hD⟩, hC⟩

theorem MapV.lt {w : World} {k : TypeId} {b z : Nat} {f : Lit → Option Value} (h : MapV w k b z f) : b < w.heap.size := by
  obtain ⟨D, h, _⟩ := h
  exact h.lt

theorem MapV.more {w : World} {k : TypeId} {b z z' : Nat} {f : Lit → Option Value} (h : MapV w k b z f) (hz : z ≤ z') : MapV w k b z' f := by
  obtain ⟨D, h, hC⟩ := h
  exact ⟨D, h.mono hz, hC⟩

theorem MapV.keep {w w' : World} {k : TypeId} {b z : Nat} {f : Lit → Option Value} (h : MapV w k b z f) (hb : Below w.heap.size w w') : MapV w' k b z f := h.same (hb.block b h.lt)

theorem mapV_new (w : World) (k : TypeId) (o : Obj) (ho : o = .map #[] 0) (g : Nat) (hg : w.heap.size = g) : MapV (w.alloc o) k g 0 (fun _ => none) := by
  subst hg ho
  exact ⟨.map [], World.ownsMap_made w _ _ _, fun l => ⟨rfl, fun d => rfl⟩⟩

theorem heldE_inv {v : Value} {d : DataW Value} {ps : List MemPlace} (h : heldE v = some (d, ps)) : d = .held v := by
  simp [heldE] at h
  exact h.1.symm

theorem at_held {f : Option Value} {z v : Value} (h : (match f with | some v => DataW.held v | none => .held z) = .held v) : v = f.getD z := by
  cases f with
  | none => simpa using h.symm
  | some u => simpa using h.symm

theorem MapV.look {w : World} {k : TypeId} {b z : Nat} {f : Lit → Option Value} (h : MapV w k b z f) (K : Maps.Keyed Tryz.prog k) {t e : TypeId} (ht : Tryz.prog.underlying t = some (.map k e)) {zv : Value} (hz : ∀ W, (zeroValue e).run Tryz.prog W = .ok zv W) {key : Value} {l : Lit} (hk : keyOf Tryz.prog k key = some l) :
    ∀ W : World, W.heap[b]? = w.heap[b]? → (Instr.lookup t (.map (some b)) key false).run Tryz.prog W = .ok ((f l).getD zv) W := by
  intro W hW
  obtain ⟨D, hD, hC⟩ := h.same hW
  obtain ⟨v, ps, h1, h2⟩ := hD.lookup K ht (hz W) (show heldE zv = some (.held zv, []) from rfl) hk
  have h3 := heldE_inv h2
  rw [(hC l).2] at h3
  rw [h1, at_held h3]

theorem MapV.lookOk {w : World} {k : TypeId} {b z : Nat} {f : Lit → Option Value} (h : MapV w k b z f) (K : Maps.Keyed Tryz.prog k) {t e : TypeId} (ht : Tryz.prog.underlying t = some (.map k e)) {zv : Value} (hz : ∀ W, (zeroValue e).run Tryz.prog W = .ok zv W) {key : Value} {l : Lit} (hk : keyOf Tryz.prog k key = some l) :
    ∀ W : World, W.heap[b]? = w.heap[b]? → (Instr.lookup t (.map (some b)) key true).run Tryz.prog W = .ok (.tuple #[(f l).getD zv, .bool (f l).isSome]) W := by
  intro W hW
  obtain ⟨D, hD, hC⟩ := h.same hW
  obtain ⟨v, ps, h1, h2⟩ := hD.look_ok K ht (hz W) (show heldE zv = some (.held zv, []) from rfl) hk
  have h3 := heldE_inv h2
  rw [(hC l).2] at h3
  rw [h1, at_held h3, (hC l).1]

theorem MapV.put {w : World} {k : TypeId} {b z : Nat} {f : Lit → Option Value} (h : MapV w k b z f) (hz : z ≤ 1000000) (K : Maps.Keyed Tryz.prog k) {t e : TypeId} (ht : Tryz.prog.underlying t = some (.map k e)) {key : Value} {l : Lit} (hk : keyOf Tryz.prog k key = some l) (v : Value) :
    ∃ w', (Instr.mapUpdate t (.map (some b)) key v).run Tryz.prog w = .ok () w' ∧ MapV w' k b (z + 1) (setF f l (some v)) ∧ w.grownBy w' (some b) := by
  obtain ⟨D, hD, hC⟩ := h
  obtain ⟨w', h1, h2, h3⟩ := hD.store K ht (by unfold maxLen; omega) hk (show heldE v = some (.held v, []) from rfl)
  refine ⟨w', h1, ⟨_, h2, fun x => ?_⟩, h3.grown⟩
  by_cases e : x = l
  · subst e
    rw [Maps.has_put_same hD.isMap (K.key hk)]
    rw [setF_same]
    refine ⟨rfl, fun d => ?_⟩
    rw [Maps.atKey_put_same hD.isMap (K.key hk)]
  · rw [Maps.has_put_other e]
    rw [setF_other _ _ e]
    refine ⟨(hC x).1, fun d => ?_⟩
    rw [Maps.atKey_put_other e]
    exact (hC x).2 d

/-- a uint64 -/
abbrev U64 (x : Int) : Prop := 0 ≤ x ∧ x ≤ 18446744073709551615

theorem wf_u64 {x : Int} (h : U64 x) : (Lit.int .u64 x).wf = true := by
  simp [Lit.wf, IntKind.min, IntKind.max, IntKind.signed, IntKind.bits]
  exact ⟨h.1, by have := h.2; omega⟩

theorem u64_wf {x : Int} (h : (Lit.int .u64 x).wf = true) : U64 x := by
  simp [Lit.wf, IntKind.min, IntKind.max, IntKind.signed, IntKind.bits] at h
  exact ⟨h.1, by omega⟩

theorem keyedU : Maps.Keyed Tryz.prog 31 := Maps.int_keyed Tryz.underlying31

theorem keyU {x : Int} (h : U64 x) : keyOf Tryz.prog 31 (.int .u64 x) = some (.int .u64 x) := Maps.keyOf_int_mk Tryz.underlying31 (wf_u64 h)

theorem laidV : laidOutB Tryz.prog = true := by kernel_rfl

end Go.Proofs.YtcgiicmmfleinaaGreatDoor
