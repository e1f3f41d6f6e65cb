/- Copies of lists of any kind of parts: what they are. Printed by part/gen_twg.py. -/
import Derived.Test.YtcgiicmmfleinaaGreatDoorRwY
import Derived.Test.YtcgiicmmfleinaaGreatDoorFtA
import Derived.Test.YtcgiicmmfleinaaGreatDoorTxE
namespace Go.Proofs.YtcgiicmmfleinaaGreatDoor
open Go.RowKit NumMath Go.ChangeShapes Go.WideShapes Go.Deep
set_option linter.unusedVariables false
set_option linter.unusedSimpArgs false
set_option maxRecDepth 100000

theorem undT {w W : World} (h : Below w.drew.heap.size w.drew W) : Below w.heap.size w W := (Below.refl _ w).drew.trans h

/-- copies of a list's parts: the list, and what they hang on -/
structure TwinPost {α β : Type} (L : Lay α) (f : α → β) (ok : World → α → Prop) (w : World) (ms : List α) (w' : World) (v : Value) (ms' : List α) : Prop where
  eq : ms'.map f = ms.map f
  own : OwnY L w' w.heap.size v ms'
  ok : ∀ m ∈ ms', Foot (fun k => k < w.heap.size ∨ v.ownBlock = some k) w' (fun V => ok V m)
  b : Below w.heap.size w w'

/-- what a twin of one part is -/
def TwinOne {α β : Type} (val : α → Value) (f : α → β) (ok : World → α → Prop) (w : World) (m : α) (e : Ending) (w' : World) : Prop :=
  ∃ m' : α, e = .returned (val m') ∧ f m' = f m ∧ Foot (fun k => k < w.heap.size) w' (fun V => ok V m') ∧ Below w.heap.size w w'

theorem map_set_sameT {α β : Type} {f : α → β} {l : List α} {i : Nat} {x y : α} (h : l[i]? = some x) (e : f y = f x) : (l.set i y).map f = l.map f := by
  rw [List.map_set]
  apply List.ext_getElem?
  intro j
  by_cases hj : j = i
  · subst hj
    rw [List.getElem?_set_self (by rw [List.length_map]; exact (List.getElem?_eq_some_iff.1 h).1), List.getElem?_map, h, e]; rfl
  · rw [List.getElem?_set_ne (fun e => hj e.symm)]

theorem box_setT {V : World} {b : Nat} {old new : List Value} (h : V.rangeAt b 0 old) (hl : new.length ≤ old.length) (hf : ∀ j, V.frozen? ⟨b, j, none⟩ = false) : (V.setCells b 0 new).rangeAt b 0 new := by
  refine World.rangeAt_setCells_same V b 0 _ (fun j hj => ⟨?_, hf _⟩)
  rw [h j _ (List.getElem?_eq_getElem (by omega))]
  rfl

/-- a list that the call owns, seen from what lies ahead of it -/
theorem foot_ownT {α : Type} {L : Lay α} {w : World} {base : Nat} {a : Option Addr} {n c : Nat} {xs : List α} {X : Nat → Prop} (h : OwnY L w base (.slice a n c) xs) (hX : ∀ k, X k → k < base) : Foot X w (fun V => IsY L V a n c xs) := by
  rcases h.form with ⟨e, e2⟩ | ⟨g, cap, e, hg1, hg2, hlen, hcap, hC, -⟩
  · cases e
    subst e2
    exact foot_pure (fun V => isY_nil V)
  · cases e
    exact ⟨fun k => k = g, fun k hk => by subst hk; exact ⟨hg2, fun h2 => by have := hX _ h2; omega⟩, fun V hs hb => ⟨rfl, hlen, hcap, .inr ⟨g, 0, rfl, Nat.lt_of_lt_of_le hg2 hs, hC.same (hb g rfl)⟩⟩⟩

end Go.Proofs.YtcgiicmmfleinaaGreatDoor
