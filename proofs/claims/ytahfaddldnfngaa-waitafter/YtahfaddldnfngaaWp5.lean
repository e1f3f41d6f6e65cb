/- The program's steps and After: the iterators that they answer. -/
import Derived.Test.YtahfaddldnfngaaWp4
namespace Go.Proofs.Ytahfaddldnfngaa
open Go.RowKit NumMath Go.ChangeShapes Go.WideShapes Go.Deep
set_option linter.unusedVariables false
set_option maxRecDepth 100000

attribute [local go_sem] Oper.semAt_some

theorem roundIn_wide {m m' r : Nat} {P : Program} {l : Nat} {f : FuncId} {tmps : Array Value} {assign body : Code} {w : World} {R : Ending → World → Prop} (h : RoundIn Fence.wide m P l f tmps assign body w R) : RoundIn (Fence.wide.inRound r) m' P l f tmps assign body w R := ⟨trivial, fun c cs _ => h.2 c cs (by simp [Fence.room, Fence.wide])⟩

theorem RowsW.lies {w w' : World} {base mb z : Nat} {f : Lit → Option Value} {d : List (Int × Int)} {X : Nat → Prop} (h : RowsW w base mb z f d) (hk : Keeps X w w') (hX : ∀ k, mb ≤ k → k < w.heap.size → ¬ X k) : RowsW w' base mb z f d :=
  ⟨h.map.same (hk.block mb h.map.lt (hX mb (Nat.le_refl _) h.map.lt)), fun q hq => (h.row q hq).lies (fun g hv => by
    have := (h.row q hq).lt g hv
    have hm := h.mb
    exact hk.block g this.2 (hX g (by omega) this.2)), h.off, h.mb⟩

theorem steps_any (mb : Nat) (fr : Int) (w : World) :
    Calls Try.prog 17 #[.map (some mb), .int .u64 fr] w fun e w' => e = .returned (.func (.func 19) #[] #[.pointer (some ⟨w.heap.size + 1, 0, none⟩), .pointer (some ⟨w.heap.size, 0, none⟩)]) ∧ w' = (w.alloc (.cells #[.map (some mb)] 41)).alloc (.cells #[.int .u64 fr] 23) := by
  go_enter Try.func17, Try.ntmps17
  go_wp2
  go_ret
  exact ⟨rfl, rfl⟩

set_option maxHeartbeats 4000000 in
theorem pafter_any (a : Option Addr) (len cap : Nat) (l : List (Int × Int)) (fr : Int) (w : World) (h : IsEdges w a len cap l) (hl : len ≤ 100000) :
    Calls Try.prog 10 #[.slice a len cap, .int .u64 fr] w fun e w' => ∃ (Bw : Nat) (f : Lit → Option Value), e = .returned (.func (.func 16) #[] #[.pointer (some ⟨Bw, 0, none⟩), .pointer (some ⟨w.heap.size, 0, none⟩)]) ∧ w'.cell? ⟨Bw, 0, none⟩ = some (.map (some (w.heap.size + 1))) ∧ w'.cell? ⟨w.heap.size, 0, none⟩ = some (.int .u64 fr) ∧ RowsW w' (w.heap.size + 3) (w.heap.size + 1) len f (ddL l) ∧ Below w.heap.size w w' ∧ w.heap.size < Bw ∧ Bw < w'.heap.size := by
  have H := hide h
  clear h
  have hb0 := new_below w (.cells #[.int .u64 fr] 23)
  have HW := hide (waitsOf_any a len cap l _ (H.out.keep hb0) hl)
  have HB0 := hide hb0
  clear hb0
  go_enter Try.func10, Try.ntmps10
  go_wp2_with (first
    | (go_at_call 15; go_must (refine HW.out.mono ?_); rintro e w1 ⟨f, rfl, hr, hb⟩; have HRw := hide hr; have HB1 := hide hb; clear hr hb))
  go_ret
  have hs1 := HB1.out.size
  simp only [World.size_alloc] at hs1
  have hb2 := new_below w1 (.cells #[.map (some (w.heap.size + 1))] 41)
  refine ⟨w1.heap.size, f, rfl, rangeY_new _ _ _ _ rfl 0 _ rfl, ?_, ?_, ?_, by omega, by simp⟩
  · refine (hb2.cell (p := ⟨w.heap.size, 0, none⟩) (by show w.heap.size < w1.heap.size; omega)).trans ((HB1.out.cell (p := ⟨w.heap.size, 0, none⟩) (by simp)).trans (rangeY_new w w.heap.size _ _ rfl 0 _ rfl))
  · have := HRw.out.keep hb2
    simp only [World.size_alloc] at this
    exact this
  · exact (HB0.out.trans (HB1.out.mono (by simp))).trans (hb2.mono (by omega))

/-- a range over steps: each edge lies in a box -/
theorem loopE {g : Operand} {ps : Array Tmp} {assign body : Code} {Q : Exit → Act → World → Prop} {a : Act} {w : World} {n : Nat} {k : Nat} {gf : Nat} {lb : Array Value} {xs : List (Int × Int)} {R : World → Prop}
    (hseq : SeqJ k gf lb (fun x v _ => v = #[.agg #[.int .u64 x.2, .int .u64 x.1]]) xs R) (hk : k + 1 ≤ n) (hg : a.eval g = .func (.func gf) #[] lb) (eg : ∀ args w, (callFunc gf args).run Try.prog w = .ok (.enter gf args) w) (hps : ps.size = 1)
    (J : Nat → (Nat → Prop) → World → Prop) (Jx : (Nat → Prop) → World → Prop) (hJ : ∀ j S W W', J j S W → Keeps (fun k => ¬ S k) W W' → J j S W') (hJx : ∀ S W W', Jx S W → Keeps (fun k => ¬ S k) W W' → Jx S W') (hR : ∀ j S W, J j S W → R W) (h0 : J 0 (fun k => k < w.heap.size) w) (a₁ : Int → Int → Nat → Act)
    (hasg : ∀ x y W N (K : Act → World → Prop), W.heap.size = N → K (a₁ x y N) (W.alloc (.cells #[.int .u64 y, .int .u64 x] 35)) → assign.wpIn (Fence.wide.inRound (w.heap.size + 1)) (n - 1 - 1) Try.prog (Exit.then K (fun _ _ _ => False)) { tmps := (ps.zip #[.agg #[.int .u64 y, .int .u64 x]]).foldl (fun t (p, v) => t.setIfInBounds p v) a.tmps, defers := [] } W)
    (hbody : ∀ j x y N S W, xs[j]? = some (x, y) → J j S W → W.rangeAt N 0 [.int .u64 y, .int .u64 x] → w.heap.size + 1 < N → N < W.heap.size → (∀ k, S k → k < W.heap.size) → body.wpIn (Fence.wide.inRound (w.heap.size + 1)) (n - 1 - 1) Try.prog (leftJ S W (J (j + 1)) Jx) (a₁ x y N) W)
    (hdone : ∀ S W, J xs.length S W → (∀ k, S k → k < W.heap.size) → ¬ S w.heap.size → W.heap[w.heap.size]? = some (.deferred (some [])) → w.heap.size < W.heap.size → Q .normal { a with defers := { target := .collected w.heap.size, args := #[] } :: a.defers } W)
    (hstop : ∀ S W, Jx S W → (∀ k, S k → k < W.heap.size) → ¬ S w.heap.size → W.heap[w.heap.size]? = some (.deferred (some [])) → w.heap.size < W.heap.size → Code.ret.wpIn Fence.wide n Try.prog Q { a with defers := { target := .collected w.heap.size, args := #[] } :: a.defers } W) :
    (Code.rangeFunc g ps assign body).wpIn Fence.wide n Try.prog Q a w :=
  loopJ hseq hk hg eg (fun x v W h => by rw [h, hps]; rfl) J Jx hJ hJx hR h0 (fun x a' W' => ∃ N, a' = a₁ x.1 x.2 N ∧ W'.rangeAt N 0 [.int .u64 x.2, .int .u64 x.1] ∧ w.heap.size + 1 < N ∧ N < W'.heap.size)
    (fun x a' W o h => by
      obtain ⟨N, h1, h2, h3, h4⟩ := h
      exact ⟨N, h1, rangeY_same h2 (World.putObj_heap_other (by omega)), h3, by simpa [World.putObj] using h4⟩)
    (fun j x v S W K hx hj hv hl hlt hK => by
      subst hv
      exact hasg x.1 x.2 W _ _ rfl (hK _ _ (new_below _ _) ⟨W.heap.size, rfl, rangeY_new W W.heap.size #[.int .u64 x.2, .int .u64 x.1] _ rfl, hlt, by simp⟩))
    (fun j x a' S W hx hj ha hs hl _ _ => by
      obtain ⟨N, rfl, h2, h3, h4⟩ := ha
      exact hbody j x.1 x.2 N S W hx hj h2 h3 h4 hs) hdone hstop

/-- After's iterator at work: its consumer's blocks S, its own three behind those of W -/
structure AftAt (I : (Nat → Prop) → World → Prop) (W : World) (y mb : Nat) (fr : Int) (T S : Nat → Prop) (V : World) : Prop where
  sub : ∀ k, S k → T k
  own : ∀ k, W.heap.size ≤ k → k < W.heap.size + 3 → T k ∧ ¬ S k
  inv : I S V
  f : V.cell? ⟨W.heap.size + 1 + 1, 0, none⟩ = some (.int .u64 fr)
  w : V.cell? ⟨W.heap.size + 1, 0, none⟩ = some (.map (some mb))
  y : V.cell? ⟨W.heap.size, 0, none⟩ = some (.func (.yield y) #[] #[])
  ss : ∀ k, S k → k < V.heap.size
  kp : Keeps (fun k => k < W.heap.size) W V
  sz : W.heap.size + 3 ≤ V.heap.size

theorem AftAt.move {I I' : (Nat → Prop) → World → Prop} {W : World} {y mb : Nat} {fr : Int} {T T' S S' : Nat → Prop} {V V' : World} (h : AftAt I W y mb fr T S V) {X : Nat → Prop} (hk : Keeps X V V') (hX : ∀ k, W.heap.size ≤ k → k < W.heap.size + 3 → ¬ X k) (hi : I' S' V') (hs : ∀ k, S' k → S k ∨ V.heap.size ≤ k) (hss : ∀ k, S' k → k < V'.heap.size) (h1 : ∀ k, S' k → T' k) (h2 : ∀ k, W.heap.size ≤ k → k < W.heap.size + 3 → T' k) : AftAt I' W y mb fr T' S' V' := by
  have hz := h.sz
  exact ⟨h1, fun k a b => ⟨h2 k a b, fun hn => by
      rcases hs k hn with e | e
      · exact (h.own k a b).2 e
      · omega⟩, hi, (hk.cell (g := W.heap.size + 1 + 1) (i := 0) (by omega) (hX _ (by omega) (by omega))).trans h.f, (hk.cell (g := W.heap.size + 1) (i := 0) (by omega) (hX _ (by omega) (by omega))).trans h.w, (hk.cell (g := W.heap.size) (i := 0) (by omega) (hX _ (by omega) (by omega))).trans h.y, hss, kp_then h.kp (fun k _ hk => hk) hk, Nat.le_trans hz hk.size⟩

set_option maxHeartbeats 4000000 in
theorem afterJ (Bf Bw base mb z : Nat) (f : Lit → Option Value) (l : List (Int × Int)) (fr : Int) (hfr : U64 fr) (hU : ∀ e ∈ l, U64 e.1 ∧ U64 e.2) (hl : l.length ≤ 100000) :
    SeqJ 6 16 #[.pointer (some ⟨Bw, 0, none⟩), .pointer (some ⟨Bf, 0, none⟩)] (fun x v _ => v = #[.int .u64 x]) (afterW l fr) (fun W => W.cell? ⟨Bf, 0, none⟩ = some (.int .u64 fr) ∧ W.cell? ⟨Bw, 0, none⟩ = some (.map (some mb)) ∧ RowsW W base mb z f (ddL l)) := by
  intro n hn y I Ix W hI hIx hR hY h0
  refine callsIn_of_wp_marks Try.func16 rfl trivial ?_ rfl
  simp only [Try.ntmps16, List.size_toArray, List.length_cons, List.length_nil, Nat.reduceAdd, Nat.reduceSub, Array.replicate_succ, Array.replicate_zero, List.push_toArray, List.append_toArray, List.nil_append, List.cons_append]
  obtain ⟨W0, hW0⟩ : ∃ W0, W0 = W.alloc (.cells #[.func (.yield y) #[] #[]] 43) := ⟨_, rfl⟩
  have hb0 : Below W.heap.size W W0 := by rw [hW0]; exact new_below _ _
  have hs0 : W0.heap.size = W.heap.size + 1 := by rw [hW0]; simp
  have hY0 : W0.cell? ⟨W.heap.size, 0, none⟩ = some (.func (.yield y) #[] #[]) := by rw [hW0]; exact rangeY_new _ _ _ _ rfl 0 _ rfl
  have hI0 : I 0 (fun k => k < W.heap.size) W0 := hI 0 _ W W0 h0 (Below.keeps hb0 _)
  obtain ⟨hc0, hc1, -⟩ := hR 0 _ W0 hI0
  have HI := hide hI
  have HIx := hide hIx
  have HR := hide hR
  have HY := hide hY
  have HI0 := hide hI0
  have HY0 := hide hY0
  have HB0 := hide hb0
  clear hI hIx hR hY h0 hI0 hY0
  have hc0' := hc0
  have hc1' := hc1
  rw [hW0] at hc0' hc1'
  clear hc0 hc1
  gi_wp2_with (first
    | (refine ⟨trivial, fun _ => by omega, ?_⟩; gi_at_call 17; refine (callsIn_wide.2 (steps_any mb fr _)).mono ?_; rintro e W1 ⟨rfl, hW1⟩; rw [← hW0] at hW1; have HW1 := hide hW1; clear hW1))
  have hb1 : Below W0.heap.size W0 W1 := by rw [HW1.out]; exact ((Below.refl _ W0).alloc (Nat.le_refl _) _).alloc (by simp) _
  have hs1 : W1.heap.size = W.heap.size + 3 := by rw [HW1.out, World.size_alloc, World.size_alloc, hs0]
  have hf1 : W1.cell? ⟨W.heap.size + 1 + 1, 0, none⟩ = some (.int .u64 fr) := by rw [HW1.out]; exact rangeY_new _ _ _ _ (by rw [World.size_alloc, hs0]) 0 _ rfl
  have hw1 : W1.cell? ⟨W.heap.size + 1, 0, none⟩ = some (.map (some mb)) := by rw [HW1.out]; exact ((new_below _ _).cell (p := ⟨W.heap.size + 1, 0, none⟩) (by rw [World.size_alloc, hs0]; exact Nat.lt_succ_self _)).trans (rangeY_new _ _ _ _ hs0 0 _ rfl)
  have hy1 : W1.cell? ⟨W.heap.size, 0, none⟩ = some (.func (.yield y) #[] #[]) := (hb1.cell (p := ⟨W.heap.size, 0, none⟩) (by show W.heap.size < _; omega)).trans HY0.out
  have hb01 : Below W.heap.size W W1 := HB0.out.trans (hb1.mono HB0.out.size)
  have HAt : Hid (AftAt (I 0) W y mb fr (fun k => k < W1.heap.size) (fun k => k < W.heap.size) W1) := ⟨fun k hk => by omega, fun k a b => ⟨by omega, by omega⟩, HI.out 0 _ W0 W1 HI0.out (Below.keeps hb1 _), hf1, hw1, hy1, fun k hk => by omega, Below.keeps hb01 _, by omega⟩
  clear hf1 hw1 hy1 hc0' hc1' HY0 HI0
  refine' loopE (a₁ := _) (stepsJ (W.heap.size + 1 + 1) (W.heap.size + 1) base mb z f l fr hfr hU hl) (by omega) rfl (fun args w => rfl) rfl
    (fun j T V => ∃ S, AftAt (I j) W y mb fr T S V) (fun T V => ∃ S, AftAt Ix W y mb fr T S V) _ _ _ _ _ _ _ _
  case refine'_1 =>
    rintro j T V V' ⟨S, h⟩ hk
    exact ⟨S, h.move hk (fun k a b e => e (h.own k a b).1) (HI.out j S V V' h.inv (kpWide hk (fun k e hS => e (h.sub k hS)))) (fun k e => .inl e) (fun k e => Nat.lt_of_lt_of_le (h.ss k e) hk.size) h.sub (fun k a b => (h.own k a b).1)⟩
  case refine'_2 =>
    rintro T V V' ⟨S, h⟩ hk
    exact ⟨S, h.move hk (fun k a b e => e (h.own k a b).1) (HIx.out S V V' h.inv (kpWide hk (fun k e hS => e (h.sub k hS)))) (fun k e => .inl e) (fun k e => Nat.lt_of_lt_of_le (h.ss k e) hk.size) h.sub (fun k a b => (h.own k a b).1)⟩
  case refine'_3 =>
    rintro j T V ⟨S, h⟩
    exact ⟨h.f, h.w, (HR.out j S V h.inv).2.2⟩
  case refine'_4 => exact ⟨_, HAt.out⟩
  case refine'_6 =>
    intro x x2 V N K hN hK
    gi_wp2
    exact hK
  case refine'_7 =>
    rintro j x x2 N T V hx ⟨S, h⟩ hr hN1 hN2 hT
    have hxa : (afterW l fr)[j]? = some x := by unfold afterW; rw [List.getElem?_map, hx]; rfl
    have c2 := h.y
    obtain ⟨fn, tmps, assign, body, hy, hRd⟩ := HY.out j x #[.int .u64 x] S V hxa h.inv rfl h.ss
    have r1 : V.cell? ⟨N, 1, none⟩ = some (.int .u64 x) := hr 1 _ rfl
    have H := hide h
    clear hr h hx hxa
    gi_wp2
    refine ⟨fun _ => by omega, (roundIn_wide hRd).mono ?_⟩
    have fin : ∀ (I' : (Nat → Prop) → World → Prop) (V3 : World) (S' : Nat → Prop), Keeps S V V3 → (∀ k, S' k → S k ∨ V.heap.size ≤ k) → (∀ k, S' k → k < V3.heap.size) → I' S' V3 → Keeps T V V3 ∧ ∃ T', (∀ k, T' k → T k ∨ V.heap.size ≤ k) ∧ (∀ k, T' k → k < V3.heap.size) ∧ ∃ S, AftAt I' W y mb fr T' S V3 := by
      intro I' V3 S' hk3 hS' hSs hI3
      refine ⟨kpWide hk3 H.out.sub, fun k => S' k ∨ (W.heap.size ≤ k ∧ k < W.heap.size + 3), fun k hk => ?_, fun k hk => ?_, S', H.out.move hk3 (fun k a b => (H.out.own k a b).2) hI3 hS' hSs (fun k e => .inl e) (fun k a b => .inr ⟨a, b⟩)⟩
      · rcases hk with hk | hk
        · rcases hS' k hk with h | h
          · exact .inl (H.out.sub k h)
          · exact .inr h
        · exact .inl (H.out.own k hk.1 hk.2).1
      · rcases hk with hk | hk
        · exact hSs k hk
        · have := H.out.sz; have := hk3.size; omega
    have HFin := hide fin
    clear fin
    rintro e V3 ⟨hk3, S', hS', hSs, (⟨rfl, h5⟩ | ⟨rfl, h5⟩)⟩
    · have HE := hide (HFin.out (I (j + 1)) V3 S' hk3 hS' hSs h5)
      clear hk3 hS' hSs h5
      gi_wp2
      exact HE.out
    · have HE := hide (HFin.out Ix V3 S' hk3 hS' hSs h5)
      clear hk3 hS' hSs h5
      gi_wp2
      exact HE.out
  case refine'_8 =>
    rintro T V ⟨S, h⟩ hT hTn hD hlt
    have HD := hide hD
    have hal : (afterW l fr).length = (walkW l fr).length := by unfold afterW; rw [List.length_map]
    have H := hide h
    have HTn := hide hTn
    clear hD h hTn
    gi_wp2
    refine ⟨by simp, .inl ⟨_, _, rfl, run_takeDeferred HD.out, ?_⟩⟩
    refine ⟨_, results_none rfl _ _ _, ⟨_, rfl⟩, kp_then H.out.kp (fun k _ h => h) (kp_put _ _ _), S, fun k hk => by have := H.out.ss k hk; simpa [World.putObj] using this, .inl ?_⟩
    rw [hal]
    exact HI.out _ _ _ _ H.out.inv (kpWide (kp_put _ _ _) (fun k (e : k = W1.heap.size) hS => HTn.out (e ▸ H.out.sub k hS)))
  case refine'_9 =>
    rintro T V ⟨S, h⟩ hT hTn hD hlt
    have HD := hide hD
    have H := hide h
    have HTn := hide hTn
    clear hD h hTn
    gi_wp2
    refine ⟨by simp, .inl ⟨_, _, rfl, run_takeDeferred HD.out, ?_⟩⟩
    refine ⟨_, results_none rfl _ _ _, ⟨_, rfl⟩, kp_then H.out.kp (fun k _ h => h) (kp_put _ _ _), S, fun k hk => by have := H.out.ss k hk; simpa [World.putObj] using this, .inr ?_⟩
    exact HIx.out _ _ _ H.out.inv (kpWide (kp_put _ _ _) (fun k (e : k = W1.heap.size) hS => HTn.out (e ▸ H.out.sub k hS)))

end Go.Proofs.Ytahfaddldnfngaa
