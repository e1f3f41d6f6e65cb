/- A range over an iterator whose own memory is new: what the loop's body does, round by round; it may return. -/
import Derived.Test.YtbnojmaknlfphaaDoorBtA
import Derived.RangeFuncNested
import Derived.RangeFuncBox
import Derived.RangeFuncBound
import Derived.RangeFuncCalls
import Derived.RangeFuncLeaves
import Derived.OwnWalkIn
import Derived.TacticsInMore
import Derived.LoopNIn
import Derived.LoopIn
namespace Go.Proofs.YtbnojmaknlfphaaDoor
open Go.RowKit NumMath Go.ChangeShapes Go.WideShapes Go.Deep
set_option linter.unusedVariables false
set_option maxRecDepth 100000

attribute [local go_sem] Oper.semAt_some

/-- an iterator: it tells xs one by one; what it reads is R; what it makes lies from B on -/
def SeqI {α : Type} (k : Nat) (g : Nat) (lb : Array Value) (Enc : α → Array Value → World → Prop) (xs : List α) (R : World → Prop) : Prop :=
  ∀ (n : Nat), k ≤ n → ∀ (l B : Nat) (I : Nat → World → Prop) (Ix : World → Prop) (W : World),
    (∀ j W W', I j W → Below B W W' → I j W') → (∀ W W', Ix W → Below B W W' → Ix W') → (∀ j W, I j W → R W) →
    (∀ j x v W, xs[j]? = some x → I j W → Enc x v W → B ≤ W.heap.size → YieldAt Fence.wide (n - 1) Tryd.prog l v W (fun e W' => Keeps (fun k => k < B) W W' ∧ (e = .returned (.bool true) ∧ I (j + 1) W' ∨ e = .returned (.bool false) ∧ Ix W'))) →
    I 0 W → W.heap.size = B →
    CallsIn Fence.wide n Tryd.prog g (#[.func (.yield l) #[] #[]] ++ lb) W (fun e W' => (∃ v, e = .returned v) ∧ Keeps (fun k => k < B) W W' ∧ (I xs.length W' ∨ Ix W'))

/-- how a body is left -/
def leftI (N : Nat) (W : World) (J : World → Prop) (Jx : World → Prop) : Exit → Act → World → Prop
  | .normal, _, W' => Keeps (fun k => k < N) W W' ∧ J W'
  | .ret, _, W' => Keeps (fun k => k < N) W W' ∧ Jx W'
  | _, _, _ => False

theorem kp_put (W : World) (l : Nat) (o : Obj) : Keeps (fun k => k = l) W (W.putObj l o) := ⟨rfl, rfl, rfl, by simp [World.putObj], fun k _ hn => World.putObj_heap_other hn⟩

theorem kp_bel {B : Nat} {w w' : World} (h : Below B w w') (hB : B ≤ w.heap.size) : Keeps (fun k => B ≤ k) w w' := ⟨h.os, h.tape, h.output, h.size, fun k hk hn => h.block k (by omega)⟩

theorem kp_then {X : Nat → Prop} {w w1 w2 : World} (h : Keeps X w w1) {X' : Nat → Prop} (hx : ∀ k, X' k → k < w.heap.size → X k) (k : Keeps X' w1 w2) : Keeps X w w2 :=
  ⟨k.os.trans h.os, k.tape.trans h.tape, k.output.trans h.output, Nat.le_trans h.size k.size, fun i hi hn => (k.block i (Nat.lt_of_lt_of_le hi h.size) (fun hX => hn (hx i hX hi))).trans (h.block i hi hn)⟩

theorem below_put {W : World} {l N : Nat} (o : Obj) (hl : N ≤ l) (hN : N ≤ W.heap.size) : Below N W (W.putObj l o) := (kp_put W l o).below hN (fun k (e : k = l) => by omega)

set_option maxHeartbeats 2000000 in
theorem loopI {α : Type} {g : Operand} {ps : Array Tmp} {assign body : Code} {Q : Exit → Act → World → Prop} {a : Act} {w : World} {n : Nat} {k : Nat} {gf : Nat} {lb : Array Value} {Enc : α → Array Value → World → Prop} {xs : List α} {R : World → Prop}
    (hseq : SeqI k gf lb Enc xs R) (hk : k + 1 ≤ n) (hg : a.eval g = .func (.func gf) #[] lb) (eg : ∀ args w, (callFunc gf args).run Tryd.prog w = .ok (.enter gf args) w) (hps : ∀ x v W, Enc x v W → v.size = ps.size)
    (J : Nat → World → Prop) (Jx : World → Prop) (hJ : ∀ j W W', J j W → Below w.heap.size W W' → J j W') (hJx : ∀ W W', Jx W → Below w.heap.size W W' → Jx W') (hR : ∀ j W, J j W → R W) (h0 : J 0 w)
    (Ax : α → Act → World → Prop) (hAx : ∀ x a' W o, Ax x a' W → Ax x a' (W.putObj (w.heap.size + 1) o))
    (hasg : ∀ j x v W (K : Act → World → Prop), xs[j]? = some x → J j W → Enc x v W → (∃ r, W.heap[w.heap.size + 1]? = some (.loop r)) → w.heap.size + 1 < W.heap.size → (∀ a' W', Below W.heap.size W W' → Ax x a' W' → K a' W') → assign.wpIn (Fence.wide.inRound (w.heap.size + 1)) (n - 1 - 1) Tryd.prog (Exit.then K (fun _ _ _ => False)) { tmps := (ps.zip v).foldl (fun t (p, v) => t.setIfInBounds p v) a.tmps, defers := [] } W)
    (hbody : ∀ j x a' W, xs[j]? = some x → J j W → Ax x a' W → w.heap.size + 1 < W.heap.size → body.wpIn (Fence.wide.inRound (w.heap.size + 1)) (n - 1 - 1) Tryd.prog (leftI w.heap.size W (J (j + 1)) Jx) a' W)
    (hdone : ∀ W, J xs.length W → W.heap[w.heap.size]? = some (.deferred (some [])) → w.heap.size < W.heap.size → Q .normal { a with defers := { target := .collected w.heap.size, args := #[] } :: a.defers } W)
    (hstop : ∀ W, Jx W → W.heap[w.heap.size]? = some (.deferred (some [])) → w.heap.size < W.heap.size → Code.ret.wpIn Fence.wide n Tryd.prog Q { a with defers := { target := .collected w.heap.size, args := #[] } :: a.defers } W) :
    (Code.rangeFunc g ps assign body).wpIn Fence.wide n Tryd.prog Q a w := by
  refine wpIn_rangeFunc (fun fn hfn => ?_)
  obtain ⟨rec, hrec⟩ : ∃ rec : LoopState → Option Code → Loop, rec = fun st pe => { state := st, pending := pe, fn := fn, tmps := a.tmps, params := ps, assign := assign, body := body, defers := w.heap.size } := ⟨_, rfl⟩
  obtain ⟨W1, hW1⟩ : ∃ W1, W1 = (w.alloc (.deferred (some []))).alloc (.loop (rec .ready none)) := ⟨_, rfl⟩
  have hs1 : W1.heap.size = w.heap.size + 2 := by rw [hW1]; simp
  have hb1 : Below w.heap.size w W1 := by rw [hW1]; exact ((Below.refl _ w).alloc (Nat.le_refl _) _).alloc (by simp) _
  have hl1 : W1.heap[w.heap.size + 1]? = some (.loop (rec .ready none)) := by
    rw [hW1]; have := heap_alloc_new (w.alloc (.deferred (some []))) (.loop (rec .ready none)); rwa [World.size_alloc] at this
  have hd1 : W1.heap[w.heap.size]? = some (.deferred (some [])) := by
    rw [hW1]; exact ((new_below (w.alloc (.deferred (some []))) (.loop (rec .ready none))).block _ (by simp)).trans (heap_alloc_new w _)
  have hent : (Instr.enterLoop fn a.tmps ps assign body none).run Tryd.prog w = .ok (w.heap.size + 1, [{ target := .collected w.heap.size, args := #[] }]) W1 := by
    rw [hW1, hrec]; exact run_enterLoop_outer fn a.tmps ps assign body
  refine ⟨w.heap.size + 1, [{ target := .collected w.heap.size, args := #[] }], W1, { target := .fn (.func gf) lb, args := #[.func (.yield (w.heap.size + 1)) #[] #[]] }, W1, gf, #[.func (.yield (w.heap.size + 1)) #[] #[]] ++ lb, W1, hent, ?_, fun _ _ => trivial, ?_, fun _ => by omega, ?_⟩
  · simp only [resolve, hg]
    simp [go_sem]
  · simp [invoke, go_sem, eg]
  · refine (hseq (n - 1) (by omega) (w.heap.size + 1) (w.heap.size + 2)
      (fun j W => J j W ∧ W.heap[w.heap.size + 1]? = some (.loop (rec .ready none)) ∧ W.heap[w.heap.size]? = some (.deferred (some [])))
      (fun W => Jx W ∧ W.heap[w.heap.size + 1]? = some (.loop (rec .done (some .ret))) ∧ W.heap[w.heap.size]? = some (.deferred (some []))) W1
      (fun j W W' h hb => ⟨hJ j W W' h.1 (hb.mono (by omega)), (hb.block _ (by omega)).trans h.2.1, (hb.block _ (by omega)).trans h.2.2⟩)
      (fun W W' h hb => ⟨hJx W W' h.1 (hb.mono (by omega)), (hb.block _ (by omega)).trans h.2.1, (hb.block _ (by omega)).trans h.2.2⟩)
      (fun j W h => hR j W h.1) ?_ ⟨hJ 0 w W1 h0 hb1, hl1, hd1⟩ hs1).mono ?_
    · rintro j x v W hx ⟨hi, hl, hd⟩ hv hB
      have hlt : w.heap.size + 1 < W.heap.size := by omega
      have hy := run_yield (P := Tryd.prog) (args := v) hl (by rw [hrec]; exact hps x v W hv)
      rw [hrec] at hy
      refine ⟨fn, _, assign, body, hy, roundIn_of_wpIn hfn (hasg j x v W _ hx hi hv ⟨_, hl⟩ hlt ?_)⟩
      intro a' Wa hba hax
      have hla := (hba.block _ (by omega)).trans hl
      have hda := (hba.block _ (by omega)).trans hd
      have hlta : w.heap.size + 1 < Wa.heap.size := Nat.lt_of_lt_of_le hlt hba.size
      refine ⟨_, run_beginRound hla (by rw [hrec]), ?_⟩
      have hpb := below_put (W := Wa) (l := w.heap.size + 1) (N := w.heap.size) (.loop { rec .ready none with state := .busy }) (by omega) (by omega)
      have hl2 := World.putObj_heap_same (o := .loop { rec .ready none with state := .busy }) hlta
      have hd2 := (World.putObj_heap_other (w := Wa) (o := .loop { rec .ready none with state := .busy }) (show w.heap.size ≠ w.heap.size + 1 by omega)).trans hda
      refine wpIn_mono (hbody j x a' _ hx (hJ j _ _ (hJ j _ _ hi (hba.mono (by omega))) hpb) (hAx x a' Wa _ hax) (Nat.lt_of_lt_of_le hlta hpb.size)) ?_
      have fin : ∀ (jump : Option Code) (W3 : World), Keeps (fun k => k < w.heap.size) (Wa.putObj (w.heap.size + 1) (.loop { rec .ready none with state := .busy })) W3 →
          (Instr.endRound (w.heap.size + 1) jump).run Tryd.prog W3 = .ok (.bool jump.isNone) (W3.putObj (w.heap.size + 1) (.loop (rec (if jump.isNone then .ready else .done) jump))) ∧
          (W3.putObj (w.heap.size + 1) (.loop (rec (if jump.isNone then .ready else .done) jump))).heap[w.heap.size + 1]? = some (.loop (rec (if jump.isNone then .ready else .done) jump)) ∧
          (W3.putObj (w.heap.size + 1) (.loop (rec (if jump.isNone then .ready else .done) jump))).heap[w.heap.size]? = some (.deferred (some [])) ∧
          Below w.heap.size W3 (W3.putObj (w.heap.size + 1) (.loop (rec (if jump.isNone then .ready else .done) jump))) ∧
          Keeps (fun k => k < w.heap.size + 2) W (W3.putObj (w.heap.size + 1) (.loop (rec (if jump.isNone then .ready else .done) jump))) := fun jump W3 hk3 => by
        have hl3 := (hk3.block _ (Nat.lt_of_lt_of_le hlta hpb.size) (by omega)).trans hl2
        have hlt3 : w.heap.size + 1 < W3.heap.size := (Array.getElem?_eq_some_iff.1 hl3).1
        have h9 := run_endRound (P := Tryd.prog) jump hl3
        refine ⟨?_, World.putObj_heap_same hlt3, (World.putObj_heap_other (by omega)).trans ((hk3.block _ (by have := hpb.size; omega) (by omega)).trans hd2), below_put _ (by omega) (by omega), ?_⟩
        · rw [h9, hrec]
        · exact kp_then (kp_then (kp_then (Below.keeps hba _) (X' := fun k => k = w.heap.size + 1) (fun k e _ => by omega) (kp_put _ _ _)) (X' := fun k => k < w.heap.size) (fun k e _ => by omega) hk3) (X' := fun k => k = w.heap.size + 1) (fun k e _ => by omega) (kp_put _ _ _)
      intro e a3 W3 hp
      cases e with
      | normal =>
        obtain ⟨hk3, hj3⟩ := hp
        obtain ⟨h1, h2, h3, h4, h5⟩ := fin none W3 hk3
        exact ⟨_, _, h1, h5, .inl ⟨rfl, hJ _ _ _ hj3 h4, h2, h3⟩⟩
      | ret =>
        obtain ⟨hk3, hj3⟩ := hp
        obtain ⟨h1, h2, h3, h4, h5⟩ := fin (some .ret) W3 hk3
        exact ⟨_, _, h1, h5, .inr ⟨rfl, hJx _ _ hj3 h4, h2, h3⟩⟩
      | exit id => exact hp.elim
      | goto t => exact hp.elim
      | panic ch => exact hp.elim
      | outgrown => exact hp.elim
    · rintro e W2 ⟨⟨v, rfl⟩, -, (⟨hi, hl, hd⟩ | ⟨hi, hl, hd⟩)⟩
      · have hlt2 : w.heap.size + 1 < W2.heap.size := (Array.getElem?_eq_some_iff.1 hl).1
        have hend := run_endLoop (P := Tryd.prog) hl (by rw [hrec]; simp)
        rw [hrec] at hend
        exact ⟨none, _, hend, hdone _ (hJ _ _ _ hi (below_put _ (by omega) (by omega))) ((World.putObj_heap_other (by omega)).trans hd) (by simp [World.putObj]; omega)⟩
      · have hlt2 : w.heap.size + 1 < W2.heap.size := (Array.getElem?_eq_some_iff.1 hl).1
        have hend := run_endLoop (P := Tryd.prog) hl (by rw [hrec]; simp)
        rw [hrec] at hend
        exact ⟨some .ret, _, hend, hstop _ (hJx _ _ hi (below_put _ (by omega) (by omega))) ((World.putObj_heap_other (by omega)).trans hd) (by simp [World.putObj]; omega)⟩

/-- .. where the loop's variable is no box -/
theorem loopI1 {α : Type} {g : Operand} {ps : Array Tmp} {assign body : Code} {Q : Exit → Act → World → Prop} {a : Act} {w : World} {n : Nat} {k : Nat} {gf : Nat} {lb : Array Value} {Enc : α → Array Value → World → Prop} {xs : List α} {R : World → Prop}
    (hseq : SeqI k gf lb Enc xs R) (hk : k + 1 ≤ n) (hg : a.eval g = .func (.func gf) #[] lb) (eg : ∀ args w, (callFunc gf args).run Tryd.prog w = .ok (.enter gf args) w) (hps : ∀ x v W, Enc x v W → v.size = ps.size)
    (J : Nat → World → Prop) (Jx : World → Prop) (hJ : ∀ j W W', J j W → Below w.heap.size W W' → J j W') (hJx : ∀ W W', Jx W → Below w.heap.size W W' → Jx W') (hR : ∀ j W, J j W → R W) (h0 : J 0 w) (a₁ : α → Act)
    (hasg : ∀ x v W (K : Act → World → Prop), Enc x v W → K (a₁ x) W → assign.wpIn (Fence.wide.inRound (w.heap.size + 1)) (n - 1 - 1) Tryd.prog (Exit.then K (fun _ _ _ => False)) { tmps := (ps.zip v).foldl (fun t (p, v) => t.setIfInBounds p v) a.tmps, defers := [] } W)
    (hbody : ∀ j x W, xs[j]? = some x → J j W → w.heap.size + 1 < W.heap.size → body.wpIn (Fence.wide.inRound (w.heap.size + 1)) (n - 1 - 1) Tryd.prog (leftI w.heap.size W (J (j + 1)) Jx) (a₁ x) W)
    (hdone : ∀ W, J xs.length W → W.heap[w.heap.size]? = some (.deferred (some [])) → w.heap.size < W.heap.size → Q .normal { a with defers := { target := .collected w.heap.size, args := #[] } :: a.defers } W)
    (hstop : ∀ W, Jx W → W.heap[w.heap.size]? = some (.deferred (some [])) → w.heap.size < W.heap.size → Code.ret.wpIn Fence.wide n Tryd.prog Q { a with defers := { target := .collected w.heap.size, args := #[] } :: a.defers } W) :
    (Code.rangeFunc g ps assign body).wpIn Fence.wide n Tryd.prog Q a w :=
  loopI hseq hk hg eg hps J Jx hJ hJx hR h0 (fun x a' _ => a' = a₁ x) (fun _ _ _ _ h => h) (fun j x v W K hx hj hv _ hl hK => hasg x v W _ hv (hK _ _ (Below.refl _ _) rfl)) (fun j x a' W hx hj ha hl => by subst ha; exact hbody j x W hx hj hl) hdone hstop

end Go.Proofs.YtbnojmaknlfphaaDoor
