/- The program's Cycle and Reaches: what they answer. -/
import Derived.Test.YtepaflofbcokaaaDoorWp6
import Derived.Test.YtepaflofbcokaaaDoorTxR
namespace Go.Proofs.YtepaflofbcokaaaDoor
open Go.RowKit NumMath Go.ChangeShapes Go.WideShapes Go.Deep
set_option linter.unusedVariables false
set_option maxRecDepth 100000

attribute [local go_sem] Oper.semAt_some

theorem res_cellC {tmps : Array Value} {N : Nat} {v : Value} {W : World} (hp : tmps.getD 4 undef = .pointer (some ⟨N, 0, none⟩)) (c : W.cell? ⟨N, 0, none⟩ = some v) : (results Tryd.f62 tmps).run Tryd.prog W = .ok v W := by
  have hp' : tmps[4]?.getD undef = .pointer (some ⟨N, 0, none⟩) := by simpa using hp
  simp [results, Tryd.results62, hp', go_sem, c]

theorem fz_new (w : World) (cs : Array Value) (ty : TypeId) (i : Nat) : (w.alloc (.cells cs ty)).frozen? ⟨w.heap.size, i, none⟩ = false := by
  simp

set_option maxHeartbeats 4000000 in
theorem pcycleN_any (a : Option Addr) (len cap : Nat) (l : List (Int × Int)) (fr : Int) (w : World) (h : IsEdges w a len cap l) (hl : len ≤ 100000) (hfr : U64 fr) :
    Calls Tryd.prog 62 #[.slice a len cap, .int .u64 fr] w fun e w' => ∃ v, e = .returned v ∧ OwnY layU w' w.heap.size v (cycleW l fr) ∧ Below w.heap.size w w' ∧ (cycleW l fr = [] → v = .slice none 0 0) := by
  refine (callsIn_wide (n := 12)).1 ?_
  refine callsIn_of_wp_marks Tryd.func62 rfl trivial ?_ rfl
  simp only [Tryd.ntmps62, List.size_toArray, List.length_cons, List.length_nil, Nat.reduceAdd, Nat.reduceSub, Array.replicate_succ, Array.replicate_zero, List.push_toArray, List.append_toArray, List.nil_append, List.cons_append]
  obtain ⟨W0, hW0⟩ : ∃ W0, W0 = (((w.alloc (.cells #[.int .u64 fr] 28)).alloc (.cells #[.slice none 0 0] 27)).alloc (.map #[] 0)).alloc (.cells #[.map (some (w.heap.size + 1 + 1))] 129) := ⟨_, rfl⟩
  have hb0 : Below w.heap.size w W0 := by rw [hW0]; exact ((((Below.refl _ w).alloc (Nat.le_refl _) _).alloc (by simp) _).alloc (by simp; omega) _).alloc (by simp; omega) _
  have hs0 : W0.heap.size = w.heap.size + 4 := by rw [hW0]; simp
  have hN0 : W0.cell? ⟨w.heap.size, 0, none⟩ = some (.int .u64 fr) := by rw [hW0]; exact ((((new_below _ _).trans ((new_below _ _).mono (by simp))).trans ((new_below _ _).mono (by simp))).cell (p := ⟨w.heap.size, 0, none⟩) (by simp)).trans (rangeY_new w w.heap.size _ _ rfl 0 _ rfl)
  have hN3 : W0.cell? ⟨w.heap.size + 1 + 1 + 1, 0, none⟩ = some (.map (some (w.heap.size + 1 + 1))) := by rw [hW0]; exact rangeY_new _ _ _ _ (by simp) 0 _ rfl
  have hmm := @run_makeMap Tryd.prog
  have HE := hide h
  clear h
  have HS0 := hide hs0
  have HB0 := hide hb0
  have HN0 := hide hN0
  have HN3 := hide hN3
  have HN1 : Hid (W0.cell? ⟨w.heap.size + 1, 0, none⟩ = some (.slice none 0 0) ∧ W0.frozen? ⟨w.heap.size + 1, 0, none⟩ = false) := by
    have hbb : Below (w.heap.size + 2) ((w.alloc (.cells #[.int .u64 fr] 28)).alloc (.cells #[.slice none 0 0] 27)) W0 := by rw [hW0]; exact ((Below.refl _ _).alloc (by simp) _).alloc (by simp) _
    refine ⟨(hbb.cell (p := ⟨w.heap.size + 1, 0, none⟩) (Nat.lt_succ_self (w.heap.size + 1))).trans (rangeY_new _ _ _ _ (by simp) 0 _ rfl), (hbb.frozen (p := ⟨w.heap.size + 1, 0, none⟩) (Nat.lt_succ_self (w.heap.size + 1))).trans ?_⟩
    have := fz_new (w.alloc (.cells #[.int .u64 fr] 28)) #[.slice none 0 0] 27 0
    rwa [World.size_alloc] at this
  have HM2 : Hid (CameAt W0 (w.heap.size + 1 + 1) 0 []) := by
    rw [hW0]
    exact (came_new _ _ rfl _ (by simp)).same ((new_below _ _).block _ (by simp))
  clear hs0 hb0 hN3 hN0
  gi_wp2_with fail
  rw [← hW0]
  clear hmm hW0
  refine startRW (fun V => V.cell? ⟨w.heap.size, 0, none⟩ = some (.int .u64 fr)) 99 (by kernel_rfl) (by kernel_rfl) ?_
  refine' takeR (E := 99) (i := 0) (v := _) rfl (by kernel_rfl) (by kernel_rfl) (by kernel_rfl) (by kernel_rfl) (by rfl) HN0.out ?_ ?_; rotate_left
  · (intro V' hSw; have y0 : V'.cell? ⟨w.heap.size, 0, none⟩ = some (.int .u64 fr) := hSw; go_simp; all_goals (with_reducible rfl))
  (try simp only [Act.put, List.setIfInBounds_toArray, List.set_cons_zero, List.set_cons_succ])
  refine' takeR (E := 99) (i := 2) (v := _) rfl (by kernel_rfl) (by kernel_rfl) (by kernel_rfl) (by kernel_rfl) (by rfl) HN0.out ?_ ?_; rotate_left
  · (intro V' hSw; have y0 : V'.cell? ⟨w.heap.size, 0, none⟩ = some (.int .u64 fr) := hSw; go_simp; all_goals (with_reducible rfl))
  (try simp only [Act.put, List.setIfInBounds_toArray, List.set_cons_zero, List.set_cons_succ])
  refine callX (i := 1) rfl (by kernel_rfl) (fun K hK => ?_)
  go_simp
  refine (waitsOf_any a len cap l W0.drew (HE.out.keep HB0.out.drew) hl).mono ?_
  rintro e w4 ⟨f, rfl, hr4, hb4⟩
  have hs4 : w.heap.size + 4 ≤ w4.heap.size := by have h1 := hb4.size; have h2 : W0.drew.heap.size = w.heap.size + 4 := HS0.out; omega
  have hmb : W0.drew.heap.size = w.heap.size + 4 := HS0.out
  rw [hmb] at hr4 hb4
  refine hK.out _ _ (fun _ => (hb4.cell (p := ⟨w.heap.size, 0, none⟩) (by show w.heap.size < _; omega)).trans HN0.out) ?_
  have HR4 := hide hr4
  have HB4 := hide hb4
  clear hK K hr4 hb4
  rw [hmb]
  (try simp only [Act.put, List.setIfInBounds_toArray, List.set_cons_zero, List.set_cons_succ])
  refine callX (i := 3) rfl (by kernel_rfl) (fun K hK => ?_)
  go_simp
  refine (steps_any (w.heap.size + 4) fr w4).mono ?_
  rintro e w5 ⟨rfl, hw5⟩
  have hb5 : Below w4.heap.size w4 w5 := by rw [hw5]; exact ((Below.refl _ w4).alloc (Nat.le_refl _) _).alloc (by simp) _
  refine hK.out _ _ (fun _ => (hb5.cell (p := ⟨w.heap.size, 0, none⟩) (by show w.heap.size < _; omega)).trans ((HB4.out.cell (p := ⟨w.heap.size, 0, none⟩) (by show w.heap.size < _; omega)).trans HN0.out)) ?_
  clear hK K
  (try simp only [Act.put, List.setIfInBounds_toArray, List.set_cons_zero, List.set_cons_succ])
  refine doneX (by kernel_rfl) ?_ _
  simp only [calmV]
  gi_wp2_with fail
  have hs5 : w5.heap.size = w4.heap.size + 2 := by rw [hw5]; simp
  have hsf : w5.cell? ⟨w4.heap.size + 1, 0, none⟩ = some (.int .u64 fr) := by rw [hw5]; exact rangeY_new _ _ _ _ (by simp) 0 _ rfl
  have hsw : w5.cell? ⟨w4.heap.size, 0, none⟩ = some (.map (some (w.heap.size + 4))) := by rw [hw5]; exact ((new_below _ _).cell (p := ⟨w4.heap.size, 0, none⟩) (by simp)).trans (rangeY_new _ _ _ _ rfl 0 _ rfl)
  have hd05 := HB4.out.trans (hb5.mono hs4)
  have hb05 : Below (w.heap.size + 4) W0 w5 := ⟨hd05.os, hd05.tape, hd05.output, hd05.size, hd05.block⟩
  clear hd05
  have HR5 := hide (HR4.out.keep hb5)
  obtain ⟨hN1c, hN1f⟩ := HN1.out
  have hc0 := (hb05.cell (p := ⟨w.heap.size, 0, none⟩) (by show w.heap.size < _; omega)).trans HN0.out
  have hc1 := (hb05.cell (p := ⟨w.heap.size + 1, 0, none⟩) (by show w.heap.size + 1 < _; omega)).trans hN1c
  have hf1 := (hb05.frozen (p := ⟨w.heap.size + 1, 0, none⟩) (by show w.heap.size + 1 < _; omega)).trans hN1f
  have hc3 := (hb05.cell (p := ⟨w.heap.size + 1 + 1 + 1, 0, none⟩) (by show w.heap.size + 1 + 1 + 1 < _; omega)).trans HN3.out
  have HM5 := hide (HM2.out.same (hb05.block (w.heap.size + 1 + 1) (by omega)))
  have HBw : Hid (Below w.heap.size w w5) := HB0.out.trans (hb05.mono (by omega))
  have hcell : ∀ V, Keeps (fun k => k = w.heap.size + 1 + 1) w5 V → V.cell? ⟨w.heap.size, 0, none⟩ = some (.int .u64 fr) ∧ V.cell? ⟨w.heap.size + 1, 0, none⟩ = some (.slice none 0 0) ∧ V.frozen? ⟨w.heap.size + 1, 0, none⟩ = false ∧ V.cell? ⟨w.heap.size + 1 + 1 + 1, 0, none⟩ = some (.map (some (w.heap.size + 1 + 1))) ∧ V.cell? ⟨w4.heap.size + 1, 0, none⟩ = some (.int .u64 fr) ∧ V.cell? ⟨w4.heap.size, 0, none⟩ = some (.map (some (w.heap.size + 4))) := fun V hV => ⟨(hV.cell (g := w.heap.size) (i := 0) (by omega) (by omega)).trans hc0, (hV.cell (g := w.heap.size + 1) (i := 0) (by omega) (by omega)).trans hc1, (World.frozen?_of_block (a := ⟨w.heap.size + 1, 0, none⟩) (hV.block (w.heap.size + 1) (by omega) (by omega))).trans hf1, (hV.cell (g := w.heap.size + 1 + 1 + 1) (i := 0) (by omega) (by omega)).trans hc3, (hV.cell (g := w4.heap.size + 1) (i := 0) (by omega) (by omega)).trans hsf, (hV.cell (g := w4.heap.size) (i := 0) (by omega) (by omega)).trans hsw⟩
  have HCell := hide hcell
  obtain ⟨ws, hws⟩ : ∃ ws, ws = walkW l fr := ⟨_, rfl⟩
  have HU := hide HE.out.2
  have hll : l.length ≤ 100000 := by have := HE.out.1.1; omega
  clear hcell hc0 hc1 hf1 hc3 hsf hsw hb05 hN1c hN1f HM2 HN0 HN1 HN3 HR4 hw5 hb5
  refine' loopE (a₁ := _) (stepsJ (w4.heap.size + 1) w4.heap.size (w.heap.size + 4 + 2) (w.heap.size + 4) len f l fr hfr HU.out hll) (by omega) rfl (fun args w => rfl) rfl
    (fun j S V => (∀ k, k < w5.heap.size → S k) ∧ CameAt V (w.heap.size + 1 + 1) j ((walkW l fr).take j) ∧ Keeps (fun k => k = w.heap.size + 1 + 1) w5 V ∧ ∀ i s, i < j → (walkW l fr)[i]? = some s → s.1 ≠ fr)
    (fun S V => (∀ k, k < w5.heap.size → S k) ∧ Keeps (fun k => k = w.heap.size + 1 + 1 ∨ k = w.heap.size + 1) w5 V ∧ ∃ v, V.cell? ⟨w.heap.size + 1, 0, none⟩ = some v ∧ OwnY layU V w.heap.size v (cycleW l fr) ∧ (∀ g, v.ownBlock = some g → S g) ∧ cycleW l fr ≠ []) _ _ _ _ _ _ _ _
  case refine'_1 =>
    rintro j S V V' ⟨h1, h2, h3, h4⟩ hk
    exact ⟨h1, h2.same (hk.block _ h2.lt (fun e => e (h1 _ (by omega)))), kp_then h3 (fun k hn hlt => absurd (h1 k hlt) hn) hk, h4⟩
  case refine'_2 =>
    rintro S V V' ⟨h1, h2, v, h3, h4, h5, h6⟩ hk
    exact ⟨h1, kp_then h2 (fun k hn hlt => absurd (h1 k hlt) hn) hk, v, (hk.cell (g := w.heap.size + 1) (i := 0) (by have := h2.size; omega) (fun e => e (h1 _ (by omega)))).trans h3, h4.lies (fun g hg => hk.block g (h4.lt g hg).2 (fun e => e (h5 g hg))), h5, h6⟩
  case refine'_3 =>
    rintro j S V ⟨h1, h2, h3, h4⟩
    obtain ⟨-, -, -, -, c4, c5⟩ := HCell.out V h3
    exact ⟨c4, c5, HR5.out.lies h3 (fun k hk1 hk2 e => by omega)⟩
  case refine'_4 => exact ⟨fun k hk => hk, HM5.out, Below.keeps (Below.refl _ _) _, fun i s hi => by omega⟩
  case refine'_6 =>
    intro x x2 V N K hN hK
    gi_wp2
    exact hK
  case refine'_7 =>
    rintro j x x2 N S V hx ⟨h1, h2, h3, h4⟩ hr hN1 hN2 hS
    have hjl := (List.getElem?_eq_some_iff.1 hx).1
    have hgd := walkW_good l fr
    have hUx : U64 x := (HU.out _ (hgd.2.1 _ (List.mem_of_getElem? hx))).2
    have hnot : ∀ y, (x, y) ∉ (walkW l fr).take j := fun y hm => by
      obtain ⟨i, hi, hiy⟩ := List.mem_iff_getElem.1 hm
      rw [List.length_take] at hi
      have h9 : (walkW l fr)[i]? = some (x, y) := by
        rw [List.getElem_take] at hiy
        rw [List.getElem?_eq_getElem (by omega), hiy]
      have := nd_at hgd.1 h9 hx
      omega
    obtain ⟨w6, hup, hm6, hg6⟩ := h2.put (y := x2) (by have := hgd.2.2; omega) hUx hnot
    have htk : (walkW l fr).take (j + 1) = (walkW l fr).take j ++ [(x, x2)] := by rw [List.take_add_one, hx]; rfl
    rw [← htk] at hm6
    obtain ⟨c0, c1, f1, c3, -, -⟩ := HCell.out V h3
    have hk6 : Keeps (fun k => k = w.heap.size + 1 + 1) V w6 := ⟨hg6.os, hg6.tape, hg6.output, hg6.size, fun k hk hn => hg6.block k hk (fun e => hn (Option.some.inj e))⟩
    have hk56 := kp_then h3 (fun k hk _ => hk) hk6
    obtain ⟨d0, d1, g1, d3, -, -⟩ := HCell.out w6 hk56
    have r0 : V.cell? ⟨N, 0, none⟩ = some (.int .u64 x2) := hr 0 _ rfl
    have r1 : V.cell? ⟨N, 1, none⟩ = some (.int .u64 x) := hr 1 _ rfl
    have r6 : w6.cell? ⟨N, 1, none⟩ = some (.int .u64 x) := (hk6.cell (g := N) (i := 1) hN2 (by omega)).trans r1
    have H1 := hide h1
    have H4 := hide h4
    have HSs := hide hS
    have HM6 := hide hm6
    have HK6 := hide hk6
    have HK56 := hide hk56
    have hsV := h3.size
    have hs6 := hg6.size
    clear h1 h2 h3 h4 hm6 hk6 hk56 hg6 hnot hr htk hgd hS
    by_cases hxf : x = fr
    · subst hxf
      have HNe : Hid (cycleW l x ≠ []) := fun e => by
        have hm : x ∈ afterW l x := List.mem_map.2 ⟨_, List.mem_of_getElem? hx, rfl⟩
        have := (cycleW_some l x hm).1
        rw [e] at this
        cases this
      have HRing := hide (ring_any l x hfr HU.out hll j x2 hx (w.heap.size + 1 + 1) (j + 1) w6 HM6.out)
      clear hx
      gi_wp2_with (first
        | (refine ⟨trivial, ?_⟩; gi_at_call 84; refine (CallsIn.inRound _ (callsIn_wide.2 HRing.out)).mono ?_; rintro e w7 ⟨v7, rfl, ho7, hb7⟩; have HO7 := hide ho7; have HB7 := hide hb7; obtain ⟨va, vn, vc, rfl⟩ := ho7.any3; have e1 := (hb7.cell (p := ⟨w.heap.size + 1, 0, none⟩) (by show w.heap.size + 1 < _; omega)).trans d1; have e2 := (hb7.frozen (p := ⟨w.heap.size + 1, 0, none⟩) (by show w.heap.size + 1 < _; omega)).trans g1; clear ho7 hb7))
      have hk7 : Keeps (fun k => k = w.heap.size + 1 + 1) V w7 := kp_then HK6.out (X' := fun _ => False) (fun k e _ => e.elim) (Below.keeps HB7.out _)
      have hk8 := kp_then (kpWide hk7 (X' := fun k => k = w.heap.size + 1 + 1 ∨ k = w.heap.size + 1) (fun k e => .inl e)) (X' := fun k => k = w.heap.size + 1) (fun k e _ => .inr e) (keepsY_cell (w := w7) (g := w.heap.size + 1) (i := 0) (.slice va vn vc))
      have hk58 := kp_then (kpWide (kp_then HK56.out (X' := fun _ => False) (fun k e _ => e.elim) (Below.keeps HB7.out _)) (X' := fun k => k = w.heap.size + 1 + 1 ∨ k = w.heap.size + 1) (fun k e => .inl e)) (X' := fun k => k = w.heap.size + 1) (fun k e _ => .inr e) (keepsY_cell (w := w7) (g := w.heap.size + 1) (i := 0) (.slice va vn vc))
      have hs7 := HB7.out.size
      have hlt := fun g hg => HO7.out.lt g hg
      refine ⟨kpWide hk8 (fun k e => H1.out k (by omega)), fun k => S k ∨ (Value.slice va vn vc).ownBlock = some k, fun k hk => ?_, fun k hk => ?_, fun k hk => .inl (H1.out k hk), hk58, _, World.cell?_setCell_same' _ _ _ (by rw [e1]; rfl), ?_, fun g hg => .inr hg, HNe.out⟩
      · rcases hk with hk | hk
        · exact .inl hk
        · exact .inr (by have := (hlt k hk).1; omega)
      · have hs8 := (keepsY_cell (w := w7) (g := w.heap.size + 1) (i := 0) (.slice va vn vc)).size
        rcases hk with hk | hk
        · have := HSs.out k hk; omega
        · have := (hlt k hk).2; omega
      · exact (HO7.out.mono (by omega)).lies (fun g hg => (keepsY_cell (w := w7) (g := w.heap.size + 1) (i := 0) (.slice va vn vc)).block g (hlt g hg).2 (by have := (hlt g hg).1; omega))
    · have hxf' : (x == fr) = false := by simp [hxf]
      have HXf := hide hxf
      have HX := hide hx
      clear hxf hx
      gi_wp2
      refine ⟨kpWide HK6.out (fun k e => H1.out k (by omega)), S, fun k hk => .inl hk, fun k hk => by have := HSs.out k hk; omega, H1.out, HM6.out, HK56.out, fun i s hi hs => ?_⟩
      by_cases e : i = j
      · subst e
        rw [HX.out] at hs
        cases hs
        exact HXf.out
      · exact H4.out i s (by omega) hs
  case refine'_8 =>
    rintro S V ⟨h1, h2, h3, h4⟩ hS hSn hD hlt
    obtain ⟨c0, c1, f1, c3, -, -⟩ := HCell.out V h3
    have HNo : Hid (cycleW l fr = []) := cycleW_none l fr (fun hm => by
      unfold afterW at hm
      obtain ⟨s, hs, e⟩ := List.mem_map.1 hm
      obtain ⟨i, hi, his⟩ := List.mem_iff_getElem.1 hs
      exact h4 i s hi (by rw [List.getElem?_eq_getElem hi, his]) e)
    have hset := keepsY_cell (w := V) (g := w.heap.size + 1) (i := 0) (.slice none 0 0)
    have HD := hide ((hset.block w5.heap.size hlt (by omega)).trans hD)
    have HC := hide (World.cell?_setCell_same' V ⟨w.heap.size + 1, 0, none⟩ (.slice none 0 0) (by rw [c1]; rfl))
    have HK := hide (kp_then (kp_then (kpWide h3 (X' := fun k => k = w.heap.size + 1 + 1 ∨ k = w.heap.size + 1) (fun k e => .inl e)) (X' := fun k => k = w.heap.size + 1) (fun k e _ => .inr e) hset) (X' := fun k => k = w5.heap.size) (fun k e h => by omega) (kp_put (V.setCell ⟨w.heap.size + 1, 0, none⟩ (.slice none 0 0)) w5.heap.size (.deferred none)))
    clear hD hset h1 h2 h3 h4 hS hSn
    gi_wp2
    refine ⟨by simp, .inl ⟨_, _, rfl, run_takeDeferred HD.out, ?_⟩⟩
    refine ⟨_, res_cellC rfl ?_, _, rfl, by rw [HNo.out]; exact ownY_nil _ _, HBw.out.trans (HK.out.below (by have := HBw.out.size; omega) (fun k e => by omega)), fun _ => rfl⟩
    exact (World.cell?_of_block (a := ⟨w.heap.size + 1, 0, none⟩) (World.putObj_heap_other (by show w.heap.size + 1 ≠ w5.heap.size; omega))).trans HC.out
  case refine'_9 =>
    rintro S V ⟨h1, h2, v, h3, h4, h5, h6⟩ hS hSn hD hlt
    have HD := hide hD
    have HK := hide (kp_then h2 (X' := fun k => k = w5.heap.size) (fun k e h => by omega) (kp_put V w5.heap.size (.deferred none)))
    have HO := hide (h4.lies (w' := V.putObj w5.heap.size (.deferred none)) (fun g hg => World.putObj_heap_other (fun e => hSn (e ▸ h5 g hg))))
    have HC := hide h3
    have HNe := hide h6
    clear hD h1 h2 h3 h4 h5 h6 hS hSn
    gi_wp2
    refine ⟨by simp, .inl ⟨_, _, rfl, run_takeDeferred HD.out, ?_⟩⟩
    refine ⟨_, res_cellC rfl ?_, _, rfl, HO.out, HBw.out.trans (HK.out.below (by have := HBw.out.size; omega) (fun k e => by omega)), fun e => absurd e HNe.out⟩
    exact (World.cell?_of_block (a := ⟨w.heap.size + 1, 0, none⟩) (World.putObj_heap_other (by show w.heap.size + 1 ≠ w5.heap.size; omega))).trans HC.out

theorem pcycle_any (a : Option Addr) (len cap : Nat) (l : List (Int × Int)) (fr : Int) (w : World) (h : IsEdges w a len cap l) (hl : len ≤ 100000) (hfr : U64 fr) :
    Calls Tryd.prog 62 #[.slice a len cap, .int .u64 fr] w fun e w' => ∃ v, e = .returned v ∧ OwnY layU w' w.heap.size v (cycleW l fr) ∧ Below w.heap.size w w' :=
  (pcycleN_any a len cap l fr w h hl hfr).mono (fun e w' ⟨v, h1, h2, h3, _⟩ => ⟨v, h1, h2, h3⟩)

end Go.Proofs.YtepaflofbcokaaaDoor
