/- A range over an iterator whose own memory is new: what the loop's body does, round by round; it may return. A range over an iterator whose own memory is new, round by round; what the loop's body makes stays (S: the blocks that are not the iterator's own). -/
import Derived.Test.YtcgiicmmfleinaaGreatDoorBtA
import Derived.RangeFuncNested
import Derived.RangeFuncBox
import Derived.RangeFuncBound
import Derived.RangeFuncCalls
import Derived.RangeFuncLeaves
import Derived.OwnWalkIn
import Derived.TacticsInMore
import Derived.LoopNIn
import Derived.LoopIn
namespace Go.Proofs.YtcgiicmmfleinaaGreatDoor
open Go.RowKit NumMath Go.ChangeShapes Go.WideShapes Go.Deep
set_option linter.unusedVariables false
set_option maxRecDepth 100000

attribute [local go_sem] Oper.semAt_some

theorem kp_put (W : World) (l : Nat) (o : Obj) : Keeps (fun k => k = l) W (W.putObj l o) := ⟨rfl, rfl, rfl, by simp [World.putObj], fun k _ hn => World.putObj_heap_other hn⟩

theorem kp_then {X : Nat → Prop} {w w1 w2 : World} (h : Keeps X w w1) {X' : Nat → Prop} (hx : ∀ k, X' k → k < w.heap.size → X k) (k : Keeps X' w1 w2) : Keeps X w w2 :=
  ⟨k.os.trans h.os, k.tape.trans h.tape, k.output.trans h.output, Nat.le_trans h.size k.size, fun i hi hn => (k.block i (Nat.lt_of_lt_of_le hi h.size) (fun hX => hn (hx i hX hi))).trans (h.block i hi hn)⟩

end Go.Proofs.YtcgiicmmfleinaaGreatDoor

namespace Go.Proofs.YtcgiicmmfleinaaGreatDoor
open Go.RowKit NumMath Go.ChangeShapes Go.WideShapes Go.Deep
set_option linter.unusedVariables false
set_option maxRecDepth 100000

attribute [local go_sem] Oper.semAt_some

/-- an iterator: it tells xs one by one; what it reads is R; it changes no block of S: those that were there, and those that are made where it tells -/
def SeqJ {α : Type} (k : Nat) (g : Nat) (lb : Array Value) (Enc : α → Array Value → World → Prop) (xs : List α) (R : World → Prop) : Prop :=
  ∀ (n : Nat), k ≤ n → ∀ (l : Nat) (I : Nat → (Nat → Prop) → World → Prop) (Ix : (Nat → Prop) → World → Prop) (W : World),
    (∀ j S W W', I j S W → Keeps (fun k => ¬ S k) W W' → I j S W') → (∀ S W W', Ix S W → Keeps (fun k => ¬ S k) W W' → Ix S W') → (∀ j S W, I j S W → R W) →
    (∀ j x v S W, xs[j]? = some x → I j S W → Enc x v W → (∀ k, S k → k < W.heap.size) → YieldAt Fence.wide (n - 1) Tryz.prog l v W (fun e W' => Keeps S W W' ∧ ∃ S', (∀ k, S' k → S k ∨ W.heap.size ≤ k) ∧ (∀ k, S' k → k < W'.heap.size) ∧ (e = .returned (.bool true) ∧ I (j + 1) S' W' ∨ e = .returned (.bool false) ∧ Ix S' W'))) →
    I 0 (fun k => k < W.heap.size) W →
    CallsIn Fence.wide n Tryz.prog g (#[.func (.yield l) #[] #[]] ++ lb) W (fun e W' => (∃ v, e = .returned v) ∧ Keeps (fun k => k < W.heap.size) W W' ∧ ∃ S', (∀ k, S' k → k < W'.heap.size) ∧ (I xs.length S' W' ∨ Ix S' W'))

/-- how a body is left -/
def leftJ (S : Nat → Prop) (W : World) (J : (Nat → Prop) → World → Prop) (Jx : (Nat → Prop) → World → Prop) : Exit → Act → World → Prop
  | .normal, _, W' => Keeps S W W' ∧ ∃ S', (∀ k, S' k → S k ∨ W.heap.size ≤ k) ∧ (∀ k, S' k → k < W'.heap.size) ∧ J S' W'
  | .ret, _, W' => Keeps S W W' ∧ ∃ S', (∀ k, S' k → S k ∨ W.heap.size ≤ k) ∧ (∀ k, S' k → k < W'.heap.size) ∧ Jx S' W'
  | _, _, _ => False

theorem kp_sub {X X' : Nat → Prop} {w w' : World} (h : Keeps X w w') (hx : ∀ k, X k → k < w.heap.size → X' k) : Keeps X' w w' := ⟨h.os, h.tape, h.output, h.size, fun k hk hn => h.block k hk (fun e => hn (hx k e hk))⟩

set_option maxHeartbeats 2000000 in
theorem loopJ {α : Type} {g : Operand} {ps : Array Tmp} {assign body : Code} {Q : Exit → Act → World → Prop} {a : Act} {w : World} {n : Nat} {k : Nat} {gf : Nat} {lb : Array Value} {Enc : α → Array Value → World → Prop} {xs : List α} {R : World → Prop}
    (hseq : SeqJ k gf lb Enc xs R) (hk : k + 1 ≤ n) (hg : a.eval g = .func (.func gf) #[] lb) (eg : ∀ args w, (callFunc gf args).run Tryz.prog w = .ok (.enter gf args) w) (hps : ∀ x v W, Enc x v W → v.size = ps.size)
    (J : Nat → (Nat → Prop) → World → Prop) (Jx : (Nat → Prop) → World → Prop) (hJ : ∀ j S W W', J j S W → Keeps (fun k => ¬ S k) W W' → J j S W') (hJx : ∀ S W W', Jx S W → Keeps (fun k => ¬ S k) W W' → Jx S W') (hR : ∀ j S W, J j S W → R W) (h0 : J 0 (fun k => k < w.heap.size) w)
    (Ax : α → Act → World → Prop) (hAx : ∀ x a' W o, Ax x a' W → Ax x a' (W.putObj (w.heap.size + 1) o))
    (hasg : ∀ j x v S W (K : Act → World → Prop), xs[j]? = some x → J j S W → Enc x v W → (∃ r, W.heap[w.heap.size + 1]? = some (.loop r)) → w.heap.size + 1 < W.heap.size → (∀ a' W', Below W.heap.size W W' → Ax x a' W' → K a' W') → assign.wpIn (Fence.wide.inRound (w.heap.size + 1)) (n - 1 - 1) Tryz.prog (Exit.then K (fun _ _ _ => False)) { tmps := (ps.zip v).foldl (fun t (p, v) => t.setIfInBounds p v) a.tmps, defers := [] } W)
    (hbody : ∀ j x a' S W, xs[j]? = some x → J j S W → Ax x a' W → (∀ k, S k → k < W.heap.size) → w.heap.size + 1 < W.heap.size → ¬ S w.heap.size → ¬ S (w.heap.size + 1) → body.wpIn (Fence.wide.inRound (w.heap.size + 1)) (n - 1 - 1) Tryz.prog (leftJ S W (J (j + 1)) Jx) a' W)
    (hdone : ∀ S W, J xs.length S W → (∀ k, S k → k < W.heap.size) → ¬ S w.heap.size → W.heap[w.heap.size]? = some (.deferred (some [])) → w.heap.size < W.heap.size → Q .normal { a with defers := { target := .collected w.heap.size, args := #[] } :: a.defers } W)
    (hstop : ∀ S W, Jx S W → (∀ k, S k → k < W.heap.size) → ¬ S w.heap.size → W.heap[w.heap.size]? = some (.deferred (some [])) → w.heap.size < W.heap.size → Code.ret.wpIn Fence.wide n Tryz.prog Q { a with defers := { target := .collected w.heap.size, args := #[] } :: a.defers } W) :
    (Code.rangeFunc g ps assign body).wpIn Fence.wide n Tryz.prog Q a w := by
  refine wpIn_rangeFunc (fun fn hfn => ?_)
  obtain ⟨rec, hrec⟩ : ∃ rec : LoopState → Option Code → Loop, rec = fun st pe => { state := st, pending := pe, fn := fn, tmps := a.tmps, params := ps, assign := assign, body := body, defers := w.heap.size } := ⟨_, rfl⟩
  obtain ⟨W1, hW1⟩ : ∃ W1, W1 = (w.alloc (.deferred (some []))).alloc (.loop (rec .ready none)) := ⟨_, rfl⟩
  have hs1 : W1.heap.size = w.heap.size + 2 := by rw [hW1]; simp
  have hb1 : Below w.heap.size w W1 := by rw [hW1]; exact ((Below.refl _ w).alloc (Nat.le_refl _) _).alloc (by simp) _
  have hl1 : W1.heap[w.heap.size + 1]? = some (.loop (rec .ready none)) := by
    rw [hW1]; have := heap_alloc_new (w.alloc (.deferred (some []))) (.loop (rec .ready none)); rwa [World.size_alloc] at this
  have hd1 : W1.heap[w.heap.size]? = some (.deferred (some [])) := by
    rw [hW1]; exact ((new_below (w.alloc (.deferred (some []))) (.loop (rec .ready none))).block _ (by simp)).trans (heap_alloc_new w _)
  have hent : (Instr.enterLoop fn a.tmps ps assign body none).run Tryz.prog w = .ok (w.heap.size + 1, [{ target := .collected w.heap.size, args := #[] }]) W1 := by
    rw [hW1, hrec]; exact run_enterLoop_outer fn a.tmps ps assign body
  refine ⟨w.heap.size + 1, [{ target := .collected w.heap.size, args := #[] }], W1, { target := .fn (.func gf) lb, args := #[.func (.yield (w.heap.size + 1)) #[] #[]] }, W1, gf, #[.func (.yield (w.heap.size + 1)) #[] #[]] ++ lb, W1, hent, ?_, fun _ _ => trivial, ?_, fun _ => by omega, ?_⟩
  · simp only [resolve, hg]
    simp [go_sem]
  · simp [invoke, go_sem, eg]
  · refine (hseq (n - 1) (by omega) (w.heap.size + 1)
      (fun j T W => ∃ S, (∀ k, S k → T k) ∧ T w.heap.size ∧ T (w.heap.size + 1) ∧ ¬ S w.heap.size ∧ ¬ S (w.heap.size + 1) ∧ J j S W ∧ W.heap[w.heap.size + 1]? = some (.loop (rec .ready none)) ∧ W.heap[w.heap.size]? = some (.deferred (some [])))
      (fun T W => ∃ S, (∀ k, S k → T k) ∧ T w.heap.size ∧ T (w.heap.size + 1) ∧ ¬ S w.heap.size ∧ ¬ S (w.heap.size + 1) ∧ Jx S W ∧ W.heap[w.heap.size + 1]? = some (.loop (rec .done (some .ret))) ∧ W.heap[w.heap.size]? = some (.deferred (some []))) W1
      ?_ ?_ (fun j T W ⟨S, h⟩ => hR j S W h.2.2.2.2.2.1) ?_ ⟨fun k => k < w.heap.size, fun k hk => by omega, by omega, by omega, by omega, by omega, hJ 0 _ w W1 h0 (Below.keeps (hb1) _), hl1, hd1⟩).mono ?_
    · rintro j T W W' ⟨S, h1, h2, h3, h4, h5, h6, h7, h8⟩ hkp
      exact ⟨S, h1, h2, h3, h4, h5, hJ j S W W' h6 (kp_sub hkp (fun k hk _ hS => hk (h1 k hS))), (hkp.block _ (Array.getElem?_eq_some_iff.1 h7).1 (fun e => e h3)).trans h7, (hkp.block _ (Array.getElem?_eq_some_iff.1 h8).1 (fun e => e h2)).trans h8⟩
    · rintro T W W' ⟨S, h1, h2, h3, h4, h5, h6, h7, h8⟩ hkp
      exact ⟨S, h1, h2, h3, h4, h5, hJx S W W' h6 (kp_sub hkp (fun k hk _ hS => hk (h1 k hS))), (hkp.block _ (Array.getElem?_eq_some_iff.1 h7).1 (fun e => e h3)).trans h7, (hkp.block _ (Array.getElem?_eq_some_iff.1 h8).1 (fun e => e h2)).trans h8⟩
    · rintro j x v T W hx ⟨S, hST, hT0, hT1, hS0, hS1, hi, hl, hd⟩ hv hTs
      have hlt : w.heap.size + 1 < W.heap.size := (Array.getElem?_eq_some_iff.1 hl).1
      have hy := run_yield (P := Tryz.prog) (args := v) hl (by rw [hrec]; exact hps x v W hv)
      rw [hrec] at hy
      refine ⟨fn, _, assign, body, hy, roundIn_of_wpIn hfn (hasg j x v S W _ hx hi hv ⟨_, hl⟩ hlt ?_)⟩
      intro a' Wa hba hax
      have hla := (hba.block _ (by omega)).trans hl
      have hda := (hba.block _ (by omega)).trans hd
      have hlta : w.heap.size + 1 < Wa.heap.size := Nat.lt_of_lt_of_le hlt hba.size
      refine ⟨_, run_beginRound hla (by rw [hrec]), ?_⟩
      have hkb := kp_put Wa (w.heap.size + 1) (.loop { rec .ready none with state := .busy })
      have hl2 := World.putObj_heap_same (o := .loop { rec .ready none with state := .busy }) hlta
      have hd2 := (World.putObj_heap_other (w := Wa) (o := .loop { rec .ready none with state := .busy }) (show w.heap.size ≠ w.heap.size + 1 by omega)).trans hda
      have hWb : W.heap.size ≤ (Wa.putObj (w.heap.size + 1) (.loop { rec .ready none with state := .busy })).heap.size := Nat.le_trans hba.size hkb.size
      refine wpIn_mono (hbody j x a' S _ hx (hJ j S _ _ (hJ j S _ _ hi (Below.keeps hba _)) (kp_sub hkb (fun k (e : k = w.heap.size + 1) _ => e ▸ hS1))) (hAx x a' Wa _ hax) (fun k hk => Nat.lt_of_lt_of_le (hTs k (hST k hk)) hWb) (Nat.lt_of_lt_of_le hlta hkb.size) hS0 hS1) ?_
      generalize hWB : Wa.putObj (w.heap.size + 1) (.loop { rec .ready none with state := .busy }) = Wb at *
      have hkWb : Keeps T W Wb := kp_then (Below.keeps hba _) (X' := fun k => k = w.heap.size + 1) (fun k (e : k = w.heap.size + 1) _ => e ▸ hT1) hkb
      have fin : ∀ (jump : Option Code) (W3 : World) (S' : Nat → Prop), Keeps S Wb W3 → (∀ k, S' k → S k ∨ Wb.heap.size ≤ k) →
          (Instr.endRound (w.heap.size + 1) jump).run Tryz.prog W3 = .ok (.bool jump.isNone) (W3.putObj (w.heap.size + 1) (.loop (rec (if jump.isNone then .ready else .done) jump))) ∧
          (W3.putObj (w.heap.size + 1) (.loop (rec (if jump.isNone then .ready else .done) jump))).heap[w.heap.size + 1]? = some (.loop (rec (if jump.isNone then .ready else .done) jump)) ∧
          (W3.putObj (w.heap.size + 1) (.loop (rec (if jump.isNone then .ready else .done) jump))).heap[w.heap.size]? = some (.deferred (some [])) ∧
          Keeps (fun k => ¬ S' k) W3 (W3.putObj (w.heap.size + 1) (.loop (rec (if jump.isNone then .ready else .done) jump))) ∧
          Keeps T W (W3.putObj (w.heap.size + 1) (.loop (rec (if jump.isNone then .ready else .done) jump))) ∧ ¬ S' w.heap.size ∧ ¬ S' (w.heap.size + 1) ∧ w.heap.size + 1 < W3.heap.size := fun jump W3 S' hk3 hS' => by
        have hn0 : ¬ S' w.heap.size := fun h => by rcases hS' _ h with h | h; exact hS0 h; omega
        have hn1 : ¬ S' (w.heap.size + 1) := fun h => by rcases hS' _ h with h | h; exact hS1 h; omega
        have hl3 := (hk3.block _ (by omega) hS1).trans hl2
        have hlt3 : w.heap.size + 1 < W3.heap.size := (Array.getElem?_eq_some_iff.1 hl3).1
        have h9 := run_endRound (P := Tryz.prog) jump hl3
        refine ⟨?_, World.putObj_heap_same hlt3, (World.putObj_heap_other (by omega)).trans ((hk3.block _ (by omega) hS0).trans hd2), kp_sub (kp_put _ _ _) (fun k (e : k = w.heap.size + 1) _ => e ▸ hn1), ?_, hn0, hn1, hlt3⟩
        · rw [h9, hrec]
        · exact kp_then (kp_then hkWb (fun k hk _ => hST k hk) hk3) (X' := fun k => k = w.heap.size + 1) (fun k (e : k = w.heap.size + 1) _ => e ▸ hT1) (kp_put _ _ _)
      intro e a3 W3 hp
      cases e with
      | normal =>
        obtain ⟨hk3, S', hS', hSs, hj3⟩ := hp
        obtain ⟨h1, h2, h3, h4, h5, h6, h7, h8⟩ := fin none W3 S' hk3 hS'
        refine ⟨_, _, h1, h5, fun k => S' k ∨ k = w.heap.size ∨ k = w.heap.size + 1, fun k hk => ?_, fun k hk => ?_, .inl ⟨rfl, S', fun k hk => .inl hk, .inr (.inl rfl), .inr (.inr rfl), h6, h7, hJ _ S' _ _ hj3 h4, h2, h3⟩⟩
        · rcases hk with hk | rfl | rfl
          · rcases hS' k hk with h | h
            · exact .inl (hST k h)
            · exact .inr (by omega)
          · exact .inl hT0
          · exact .inl hT1
        · have := h4.size
          rcases hk with hk | rfl | rfl
          · have := hSs k hk; omega
          · omega
          · omega
      | ret =>
        obtain ⟨hk3, S', hS', hSs, hj3⟩ := hp
        obtain ⟨h1, h2, h3, h4, h5, h6, h7, h8⟩ := fin (some .ret) W3 S' hk3 hS'
        refine ⟨_, _, h1, h5, fun k => S' k ∨ k = w.heap.size ∨ k = w.heap.size + 1, fun k hk => ?_, fun k hk => ?_, .inr ⟨rfl, S', fun k hk => .inl hk, .inr (.inl rfl), .inr (.inr rfl), h6, h7, hJx S' _ _ hj3 h4, h2, h3⟩⟩
        · rcases hk with hk | rfl | rfl
          · rcases hS' k hk with h | h
            · exact .inl (hST k h)
            · exact .inr (by omega)
          · exact .inl hT0
          · exact .inl hT1
        · have := h4.size
          rcases hk with hk | rfl | rfl
          · have := hSs k hk; omega
          · omega
          · omega
      | exit id => exact hp.elim
      | goto t => exact hp.elim
      | panic ch => exact hp.elim
      | outgrown => exact hp.elim
    · rintro e W2 ⟨⟨v, rfl⟩, -, T, hTs, (⟨S, hST, hT0, hT1, hS0, hS1, hi, hl, hd⟩ | ⟨S, hST, hT0, hT1, hS0, hS1, hi, hl, hd⟩)⟩
      · have hlt2 : w.heap.size + 1 < W2.heap.size := (Array.getElem?_eq_some_iff.1 hl).1
        have hend := run_endLoop (P := Tryz.prog) hl (by rw [hrec]; simp)
        rw [hrec] at hend
        exact ⟨none, _, hend, hdone S _ (hJ _ _ _ _ hi (kp_sub (kp_put _ _ _) (fun k (e : k = w.heap.size + 1) _ => e ▸ hS1))) (fun k hk => by have := hTs k (hST k hk); simpa [World.putObj] using this) hS0 ((World.putObj_heap_other (by omega)).trans hd) (by simp [World.putObj]; omega)⟩
      · have hlt2 : w.heap.size + 1 < W2.heap.size := (Array.getElem?_eq_some_iff.1 hl).1
        have hend := run_endLoop (P := Tryz.prog) hl (by rw [hrec]; simp)
        rw [hrec] at hend
        exact ⟨some .ret, _, hend, hstop S _ (hJx _ _ _ hi (kp_sub (kp_put _ _ _) (fun k (e : k = w.heap.size + 1) _ => e ▸ hS1))) (fun k hk => by have := hTs k (hST k hk); simpa [World.putObj] using this) hS0 ((World.putObj_heap_other (by omega)).trans hd) (by simp [World.putObj]; omega)⟩

end Go.Proofs.YtcgiicmmfleinaaGreatDoor
