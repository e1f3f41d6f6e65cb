/- A region that draws its order, walked by hand: one row an operation; what stood is kept, and more is kept behind each call. -/
import Derived.Test.YtodmieehdleohaaByt
import Derived.Deep.RegionHeld
namespace Go.Proofs.Ytodmieehdleohaa
open Go.RowKit NumMath
set_option linter.unusedVariables false
set_option maxRecDepth 100000

theorem anyT_mono {P : Program} {md : Region.Mode} {ops : Array Oper} {Q : Exit → Act → World → Prop} {S S' : World → Prop} (h : ∀ W, S' W → S W) : ∀ (fuel : Nat) (listed : Array Bool) (a : Act) (w : World), wpAnyH P md ops Q S' fuel listed a w → wpAnyH P md ops Q S fuel listed a w
  | 0, _, _, _, h0 => h0
  | fuel + 1, _, _, _, h0 => ⟨h0.1, fun i hi => wpOp_mono (fun a' w' h' => ⟨h _ h'.1, anyT_mono h fuel _ a' w' h'.2⟩) (h0.2 i hi)⟩

/-- one that may come up now is taken first -/
theorem takeT {P : Program} {l : List Oper} {md : Region.Mode} {Q : Exit → Act → World → Prop} {X w : World} {i : Nat} {oi : Oper} {v : Value} {fuel : Nat} {listed : Array Bool} {a : Act} (hi : l[i]? = some oi) (hs : Region.noSelect l.toArray = true) (hf : Region.free md l.toArray listed i = true) (hr : (Region.ready md l.toArray listed).contains i = true)
    (hQ : ∀ c a w, Q (.panic c) (a.put oi.dst v) w → Q (.panic c) a w) (hwt : Region.wanted oi (yielded l.toArray a.tmps) = true) (hX : Below X.heap.size X w) (hy : ∀ W, Below X.heap.size X W → (execOp a.eval oi).run P W = .ok (.value v) W)
    (h : wpAnyH P md l.toArray Q (fun W => Below X.heap.size X W) fuel (listed.setIfInBounds i true) (a.put oi.dst v) w) : wpAnyH P md l.toArray Q (fun W => Below X.heap.size X W) (fuel + 1) listed a w :=
  wpAnyH_take (by simpa using hi) hs hf hr hQ (Or.inl ⟨hwt, hy⟩) hX h

/-- one that its guard passes over -/
theorem skipT {P : Program} {l : List Oper} {md : Region.Mode} {Q : Exit → Act → World → Prop} {X w : World} {i : Nat} {oi : Oper} {fuel : Nat} {listed : Array Bool} {a : Act} (hi : l[i]? = some oi) (hs : Region.noSelect l.toArray = true) (hf : Region.free md l.toArray listed i = true) (hr : (Region.ready md l.toArray listed).contains i = true)
    (hQ : ∀ c a w, Q (.panic c) (a.put oi.dst undef) w → Q (.panic c) a w) (hwt : Region.wanted oi (yielded l.toArray a.tmps) = false) (hX : Below X.heap.size X w)
    (h : wpAnyH P md l.toArray Q (fun W => Below X.heap.size X W) fuel (listed.setIfInBounds i true) (a.put oi.dst undef) w) : wpAnyH P md l.toArray Q (fun W => Below X.heap.size X W) (fuel + 1) listed a w :=
  wpAnyH_take (by simpa using hi) hs hf hr hQ (Or.inr ⟨hwt, rfl⟩) hX h

/-- the one that may come up is a call; behind it all that stands is kept -/
theorem callT {P : Program} {l : List Oper} {md : Region.Mode} {Q : Exit → Act → World → Prop} {X w : World} {i : Nat} {o : Oper} {fuel : Nat} {listed : Array Bool} {a : Act} (hi : l[i]? = some o) (hr : Region.ready md l.toArray listed = [i])
    (h : ∀ K : Act → World → Prop, Shut (∀ a w', Below X.heap.size X w' → wpAnyH P md l.toArray Q (fun W => Below w'.heap.size w' W) fuel (listed.setIfInBounds i true) a w' → K a w') → if Region.wanted o (yielded l.toArray a.tmps) = true then Oper.wp P o a w K Q else K (a.put o.dst undef) w) :
    wpAnyH P md l.toArray Q (fun W => Below X.heap.size X W) (fuel + 1) listed a w :=
  wpAnyH_ready hr (by simp) (AllReadyH.cons (by simpa using hi) (fun K hK => h K (fun a w' hb hw => hK a w' hb (fun _ => anyT_mono (fun W hW => hb.trans (hW.mono hb.size)) _ _ _ _ hw))) AllReadyH.nil)

/-- either of two may come up -/
theorem bothT {P : Program} {l : List Oper} {md : Region.Mode} {Q : Exit → Act → World → Prop} {X w : World} {i j : Nat} {o o' : Oper} {fuel : Nat} {listed : Array Bool} {a : Act} (hi : l[i]? = some o) (hj : l[j]? = some o') (hr : Region.ready md l.toArray listed = [i, j])
    (h : ∀ K : Act → World → Prop, Shut (∀ a w', Below X.heap.size X w' → wpAnyH P md l.toArray Q (fun W => Below w'.heap.size w' W) fuel (listed.setIfInBounds i true) a w' → K a w') → if Region.wanted o (yielded l.toArray a.tmps) = true then Oper.wp P o a w K Q else K (a.put o.dst undef) w)
    (h' : ∀ K : Act → World → Prop, Shut (∀ a w', Below X.heap.size X w' → wpAnyH P md l.toArray Q (fun W => Below w'.heap.size w' W) fuel (listed.setIfInBounds j true) a w' → K a w') → if Region.wanted o' (yielded l.toArray a.tmps) = true then Oper.wp P o' a w K Q else K (a.put o'.dst undef) w) :
    wpAnyH P md l.toArray Q (fun W => Below X.heap.size X W) (fuel + 1) listed a w :=
  wpAnyH_ready hr (by simp) (AllReadyH.cons (by simpa using hi) (fun K hK => h K (fun a w' hb hw => hK a w' hb (fun _ => anyT_mono (fun W hW => hb.trans (hW.mono hb.size)) _ _ _ _ hw))) (AllReadyH.cons (by simpa using hj) (fun K hK => h' K (fun a w' hb hw => hK a w' hb (fun _ => anyT_mono (fun W hW => hb.trans (hW.mono hb.size)) _ _ _ _ hw))) AllReadyH.nil))

theorem startT {P : Program} {l : List Oper} {Q : Exit → Act → World → Prop} {id : Nat} {a : Act} {w : World} (hm : P.follows .mixedOrders = true) (h : wpAnyH P .any l.toArray Q (fun W => Below w.drew.heap.size w.drew W) l.toArray.size (Array.replicate l.toArray.size false) a w.drew) : (Code.region id l.toArray true).wp P Q a w :=
  wp_region_held_drew hm (Below.refl _ _) (fun _ => h)

end Go.Proofs.Ytodmieehdleohaa
