/- A region of a round, or of a fenced call, that draws its order, held by a condition on the world. -/
import Derived.Test.YtcgiicmmfleinaaGreatDoorTx
import Derived.RangeFuncNested
import Derived.RangeFuncCalls
import Derived.RangeFuncLeaves
import Derived.Shelf.RegionOpen
import Derived.OwnWalkIn
namespace Go.Proofs.YtcgiicmmfleinaaGreatDoor
open Go.RowKit NumMath
set_option linter.unusedVariables false
set_option maxRecDepth 100000

/-- a piece of code that ends as it should -/
def calmV (Q : Exit → Act → World → Prop) : Exit → Act → World → Prop
  | .normal, a, w => Q .normal a w
  | _, _, _ => False

theorem wpIn_calmV {F : Fence} {n : Nat} {P : Program} {c : Code} {Q : Exit → Act → World → Prop} {a : Act} {w : World} (h : c.wpIn F n P (calmV Q) a w) : c.wpIn F n P Q a w :=
  wpIn_mono h (fun e a w h => by cases e <;> first | exact h | exact h.elim)

/-- nobody defers -/
def calmOps (l : List Oper) : Bool := l.all fun o => match o.op with | .defer _ => false | _ => true

theorem calmOps_get {l : List Oper} (h : calmOps l = true) {i : Nat} {o : Oper} (hi : l.toArray[i]? = some o) (c) : o.op ≠ .defer c := by
  intro e
  have h1 : l[i]? = some o := by simpa using hi
  have h2 := List.all_eq_true.1 h o (List.mem_of_getElem? h1)
  rw [e] at h2
  cases h2

theorem calm_lets (Q : Exit → Act → World → Prop) : ¬ LetsOut (calmV Q) := fun ⟨_, _, h⟩ => h

/-- one is taken first -/
theorem takeR {P : Program} {l : List Oper} {md : Region.Mode} {Q : Exit → Act → World → Prop} {S : World → Prop} {w : World} {E i : Nat} {oi : Oper} {v : Value} {fuel : Nat} {listed : Array Bool} {a : Act} (hi : l[i]? = some oi) (hs : Region.noSelect l.toArray = true) (hf : Region.free md l.toArray listed i = true) (hr : (Region.ready md l.toArray listed).contains i = true) (hE : (i != E && waitsX md l E i) = true)
    (hwt : Region.wanted oi (yielded l.toArray a.tmps) = true) (hS : S w) (hy : ∀ W, S W → (execOp a.eval oi).run P W = .ok (.value v) W)
    (h : wpAnyX P md l.toArray (calmV Q) S E fuel (listed.setIfInBounds i true) (a.put oi.dst v) w) : wpAnyX P md l.toArray (calmV Q) S E (fuel + 1) listed a w := by
  rw [Bool.and_eq_true] at hE
  refine wpAnyX_first (by simpa using hi) (Region.noSelect_spec hs) (fun _ _ _ h => h) (by simpa using hE.1) ?_ fuel listed a w (Region.free_spec (by simpa using hi) hf) (by simpa using hr) (Or.inl ⟨hwt, hy⟩) hS h
  intro o ho
  have h2 := hE.2
  unfold waitsX at h2
  rw [List.getElem?_toArray] at ho
  rw [ho] at h2
  dsimp only at h2
  rw [Array.any_eq_true'] at h2
  obtain ⟨e, he, h3⟩ := h2
  rw [Bool.and_eq_true] at h3
  exact ⟨e, he, h3.1, by simpa using h3.2⟩

/-! ### .. outside of a round -/

theorem operIn_ofW {P : Program} {n : Nat} {o : Oper} {a : Act} {w : World} {K K' : Act → World → Prop} {Q : Exit → Act → World → Prop} (hd : ∀ c, o.op ≠ .defer c) (hK : ∀ a w, K a w → K' a w) (h : o.wp P a w K Q) : o.wpIn Fence.wide n P a w K' Q := by
  refine ⟨fun _ _ => trivial, ?_⟩
  rw [Oper.semAt_plain _ _ _ hd]
  unfold Oper.wp at h
  generalize (execOp a.eval o).run P w = x at *
  cases x with
  | ok x w' =>
    cases x <;> simp only [Oper.upon, Oper.uponIn] at h ⊢
    case value => exact hK _ _ h
    case skip => exact hK _ _ h
    case defer => exact hK _ _ h
    case enter => exact ⟨fun e => (by cases e), callsIn_wide.2 (Calls.mono (R' := fun | .returned v, w'' => K' (a.put o.dst v) w'' | .panicked chain, w'' => Q (.panic chain) a w'' | .outgrown, _ => LetsOut Q) h (fun e w'' he => by cases e <;> first | exact hK _ _ he | exact he))⟩
    case row => exact ⟨fun e => (by cases e), fun c cs _ => (by
      obtain ⟨v, w'', hr, hs⟩ := h c cs
      exact ⟨v, w'', hK _ _ hr, stepsIn_wide.2 hs⟩)⟩
  | halt x w' => cases x <;> simp only [Oper.upon, Oper.uponIn] at h ⊢ <;> exact h

theorem anyIn_of_XW {P : Program} {n : Nat} {l : List Oper} {md : Region.Mode} {Q : Exit → Act → World → Prop} {S : World → Prop} {E : Nat} (hd : calmOps l = true) (hlo : ¬ LetsOut Q) : ∀ (fuel : Nat) (listed : Array Bool) (a : Act) (w : World), wpAnyX P md l.toArray Q S E fuel listed a w → wpAnyIn Fence.wide n P md l.toArray Q fuel listed a w
  | 0, _, _, _, h => h
  | fuel + 1, listed, a, w, h => ⟨h.1, fun i hi => by
      have h1 := h.2 i hi
      unfold wpOp at h1
      unfold wpOpIn
      split
      · rename_i e
        rw [e] at h1
        exact anyIn_of_XW hd hlo fuel _ a w h1.2
      · rename_i o e
        rw [e] at h1
        dsimp only at h1
        split
        · rename_i hw
          rw [if_pos hw] at h1
          rcases h1 with h1 | h1
          · exact operIn_ofW (calmOps_get hd e) (fun a' w' h' => anyIn_of_XW hd hlo fuel _ a' w' h'.2) h1
          · exact absurd h1.2 hlo
        · rename_i hw
          rw [if_neg hw] at h1
          exact ⟨fun _ _ => trivial, anyIn_of_XW hd hlo fuel _ _ w h1.2⟩⟩

theorem startRW {P : Program} {n : Nat} {l : List Oper} {Q : Exit → Act → World → Prop} {id : Nat} {a : Act} {w : World} (S : World → Prop) (E : Nat) (hm : P.follows .mixedOrders = true) (hd : calmOps l = true) (h : wpAnyX P .any l.toArray (calmV Q) S E l.toArray.size (Array.replicate l.toArray.size false) a w.drew) : (Code.region id l.toArray true).wpIn Fence.wide n P Q a w :=
  wpIn_calmV (wpIn_region_any hm (anyIn_of_XW hd (calm_lets Q) _ _ _ _ h))

end Go.Proofs.YtcgiicmmfleinaaGreatDoor
