/- The program's steps and After: the iterators that they answer. -/
import Derived.Test.YtepaflofbcokaaaDoorWp4
namespace Go.Proofs.YtepaflofbcokaaaDoor
open Go.RowKit NumMath Go.ChangeShapes Go.WideShapes Go.Deep
set_option linter.unusedVariables false
set_option maxRecDepth 100000

attribute [local go_sem] Oper.semAt_some

theorem roundIn_wide {m m' r : Nat} {P : Program} {l : Nat} {f : FuncId} {tmps : Array Value} {assign body : Code} {w : World} {R : Ending → World → Prop} (h : RoundIn Fence.wide m P l f tmps assign body w R) : RoundIn (Fence.wide.inRound r) m' P l f tmps assign body w R := ⟨trivial, fun c cs _ => h.2 c cs (by simp [Fence.room, Fence.wide])⟩

theorem RowsW.lies {w w' : World} {base mb z : Nat} {f : Lit → Option Value} {d : List (Int × Int)} {X : Nat → Prop} (h : RowsW w base mb z f d) (hk : Keeps X w w') (hX : ∀ k, mb ≤ k → k < w.heap.size → ¬ X k) : RowsW w' base mb z f d :=
  ⟨h.map.same (hk.block mb h.map.lt (hX mb (Nat.le_refl _) h.map.lt)), fun q hq => (h.row q hq).lies (fun g hv => by
    have := (h.row q hq).lt g hv
    have hm := h.mb
    exact hk.block g this.2 (hX g (by omega) this.2)), h.off, h.mb⟩

theorem steps_any (mb : Nat) (fr : Int) (w : World) :
    Calls Tryd.prog 83 #[.map (some mb), .int .u64 fr] w fun e w' => e = .returned (.func (.func 94) #[] #[.pointer (some ⟨w.heap.size + 1, 0, none⟩), .pointer (some ⟨w.heap.size, 0, none⟩)]) ∧ w' = (w.alloc (.cells #[.map (some mb)] 133)).alloc (.cells #[.int .u64 fr] 28) := by
  go_enter Tryd.func83, Tryd.ntmps83
  go_wp2
  go_ret
  exact ⟨rfl, rfl⟩

/-- a range over steps: each edge lies in a box -/
theorem loopE {g : Operand} {ps : Array Tmp} {assign body : Code} {Q : Exit → Act → World → Prop} {a : Act} {w : World} {n : Nat} {k : Nat} {gf : Nat} {lb : Array Value} {xs : List (Int × Int)} {R : World → Prop}
    (hseq : SeqJ k gf lb (fun x v _ => v = #[.agg #[.int .u64 x.2, .int .u64 x.1]]) xs R) (hk : k + 1 ≤ n) (hg : a.eval g = .func (.func gf) #[] lb) (eg : ∀ args w, (callFunc gf args).run Tryd.prog w = .ok (.enter gf args) w) (hps : ps.size = 1)
    (J : Nat → (Nat → Prop) → World → Prop) (Jx : (Nat → Prop) → World → Prop) (hJ : ∀ j S W W', J j S W → Keeps (fun k => ¬ S k) W W' → J j S W') (hJx : ∀ S W W', Jx S W → Keeps (fun k => ¬ S k) W W' → Jx S W') (hR : ∀ j S W, J j S W → R W) (h0 : J 0 (fun k => k < w.heap.size) w) (a₁ : Int → Int → Nat → Act)
    (hasg : ∀ x y W N (K : Act → World → Prop), W.heap.size = N → K (a₁ x y N) (W.alloc (.cells #[.int .u64 y, .int .u64 x] 137)) → assign.wpIn (Fence.wide.inRound (w.heap.size + 1)) (n - 1 - 1) Tryd.prog (Exit.then K (fun _ _ _ => False)) { tmps := (ps.zip #[.agg #[.int .u64 y, .int .u64 x]]).foldl (fun t (p, v) => t.setIfInBounds p v) a.tmps, defers := [] } W)
    (hbody : ∀ j x y N S W, xs[j]? = some (x, y) → J j S W → W.rangeAt N 0 [.int .u64 y, .int .u64 x] → w.heap.size + 1 < N → N < W.heap.size → (∀ k, S k → k < W.heap.size) → body.wpIn (Fence.wide.inRound (w.heap.size + 1)) (n - 1 - 1) Tryd.prog (leftJ S W (J (j + 1)) Jx) (a₁ x y N) W)
    (hdone : ∀ S W, J xs.length S W → (∀ k, S k → k < W.heap.size) → ¬ S w.heap.size → W.heap[w.heap.size]? = some (.deferred (some [])) → w.heap.size < W.heap.size → Q .normal { a with defers := { target := .collected w.heap.size, args := #[] } :: a.defers } W)
    (hstop : ∀ S W, Jx S W → (∀ k, S k → k < W.heap.size) → ¬ S w.heap.size → W.heap[w.heap.size]? = some (.deferred (some [])) → w.heap.size < W.heap.size → Code.ret.wpIn Fence.wide n Tryd.prog Q { a with defers := { target := .collected w.heap.size, args := #[] } :: a.defers } W) :
    (Code.rangeFunc g ps assign body).wpIn Fence.wide n Tryd.prog Q a w :=
  loopJ hseq hk hg eg (fun x v W h => by rw [h, hps]; rfl) J Jx hJ hJx hR h0 (fun x a' W' => ∃ N, a' = a₁ x.1 x.2 N ∧ W'.rangeAt N 0 [.int .u64 x.2, .int .u64 x.1] ∧ w.heap.size + 1 < N ∧ N < W'.heap.size)
    (fun x a' W o h => by
      obtain ⟨N, h1, h2, h3, h4⟩ := h
      exact ⟨N, h1, rangeY_same h2 (World.putObj_heap_other (by omega)), h3, by simpa [World.putObj] using h4⟩)
    (fun j x v S W K hx hj hv hl hlt hK => by
      subst hv
      exact hasg x.1 x.2 W _ _ rfl (hK _ _ (new_below _ _) ⟨W.heap.size, rfl, rangeY_new W W.heap.size #[.int .u64 x.2, .int .u64 x.1] _ rfl, hlt, by simp⟩))
    (fun j x a' S W hx hj ha hs hl _ _ => by
      obtain ⟨N, rfl, h2, h3, h4⟩ := ha
      exact hbody j x.1 x.2 N S W hx hj h2 h3 h4 hs) hdone hstop

/-- After's iterator at work: its consumer's blocks S, its own three behind those of W -/
structure AftAt (I : (Nat → Prop) → World → Prop) (W : World) (y mb : Nat) (fr : Int) (T S : Nat → Prop) (V : World) : Prop where
  sub : ∀ k, S k → T k
  own : ∀ k, W.heap.size ≤ k → k < W.heap.size + 3 → T k ∧ ¬ S k
  inv : I S V
  f : V.cell? ⟨W.heap.size + 1 + 1, 0, none⟩ = some (.int .u64 fr)
  w : V.cell? ⟨W.heap.size + 1, 0, none⟩ = some (.map (some mb))
  y : V.cell? ⟨W.heap.size, 0, none⟩ = some (.func (.yield y) #[] #[])
  ss : ∀ k, S k → k < V.heap.size
  kp : Keeps (fun k => k < W.heap.size) W V
  sz : W.heap.size + 3 ≤ V.heap.size

theorem AftAt.move {I I' : (Nat → Prop) → World → Prop} {W : World} {y mb : Nat} {fr : Int} {T T' S S' : Nat → Prop} {V V' : World} (h : AftAt I W y mb fr T S V) {X : Nat → Prop} (hk : Keeps X V V') (hX : ∀ k, W.heap.size ≤ k → k < W.heap.size + 3 → ¬ X k) (hi : I' S' V') (hs : ∀ k, S' k → S k ∨ V.heap.size ≤ k) (hss : ∀ k, S' k → k < V'.heap.size) (h1 : ∀ k, S' k → T' k) (h2 : ∀ k, W.heap.size ≤ k → k < W.heap.size + 3 → T' k) : AftAt I' W y mb fr T' S' V' := by
  have hz := h.sz
  exact ⟨h1, fun k a b => ⟨h2 k a b, fun hn => by
      rcases hs k hn with e | e
      · exact (h.own k a b).2 e
      · omega⟩, hi, (hk.cell (g := W.heap.size + 1 + 1) (i := 0) (by omega) (hX _ (by omega) (by omega))).trans h.f, (hk.cell (g := W.heap.size + 1) (i := 0) (by omega) (hX _ (by omega) (by omega))).trans h.w, (hk.cell (g := W.heap.size) (i := 0) (by omega) (hX _ (by omega) (by omega))).trans h.y, hss, kp_then h.kp (fun k _ hk => hk) hk, Nat.le_trans hz hk.size⟩

end Go.Proofs.YtepaflofbcokaaaDoor
