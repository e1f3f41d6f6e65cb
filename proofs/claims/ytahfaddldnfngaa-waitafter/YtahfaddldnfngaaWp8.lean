/- The program's Reaches: what it answers. The laws' awake; SameNumbers. -/
import Derived.Test.YtahfaddldnfngaaWp7
namespace Go.Proofs.Ytahfaddldnfngaa
open Go.RowKit NumMath Go.ChangeShapes Go.WideShapes Go.Deep
set_option linter.unusedVariables false
set_option maxRecDepth 100000

attribute [local go_sem] Oper.semAt_some

set_option maxHeartbeats 4000000 in
theorem preach_any (a : Option Addr) (len cap : Nat) (l : List (Int × Int)) (fr t : Int) (w : World) (h : IsEdges w a len cap l) (hl : len ≤ 100000) (hfr : U64 fr) :
    Calls Try.prog 9 #[.slice a len cap, .int .u64 fr, .int .u64 t] w fun e w' => e = .returned (.bool (decide (t ∈ afterW l fr))) ∧ Below w.heap.size w w' := by
  refine (callsIn_wide (n := 12)).1 ?_
  refine callsIn_of_wp_marks Try.func9 rfl trivial ?_ rfl
  simp only [Try.ntmps9, List.size_toArray, List.length_cons, List.length_nil, Nat.reduceAdd, Nat.reduceSub, Array.replicate_succ, Array.replicate_zero, List.push_toArray, List.append_toArray, List.nil_append, List.cons_append]
  obtain ⟨W0, hW0⟩ : ∃ W0, W0 = (w.alloc (.cells #[.int .u64 t] 23)).alloc (.cells #[.bool false] 4) := ⟨_, rfl⟩
  have hb0 : Below w.heap.size w W0 := by rw [hW0]; exact ((Below.refl _ w).alloc (Nat.le_refl _) _).alloc (by simp) _
  have hs0 : W0.heap.size = w.heap.size + 2 := by rw [hW0]; simp
  have hN0 : W0.cell? ⟨w.heap.size, 0, none⟩ = some (.int .u64 t) := by rw [hW0]; exact ((new_below _ _).cell (p := ⟨w.heap.size, 0, none⟩) (by simp)).trans (rangeY_new w w.heap.size _ _ rfl 0 _ rfl)
  have hN1 : W0.cell? ⟨w.heap.size + 1, 0, none⟩ = some (.bool false) := by rw [hW0]; exact rangeY_new _ _ _ _ (by simp) 0 _ rfl
  have hF1 : W0.frozen? ⟨w.heap.size + 1, 0, none⟩ = false := by
    rw [hW0]
    have := fz_new (w.alloc (.cells #[.int .u64 t] 23)) #[.bool false] 4 0
    rwa [World.size_alloc] at this
  have HE := hide h
  have HS0 := hide hs0
  have HB0 := hide hb0
  have HN := hide (And.intro hN0 (And.intro hN1 hF1))
  have HAf := hide (pafter_any a len cap l fr W0 (h.keep hb0) hl)
  clear h hs0 hb0 hN0 hN1 hF1
  rw [hW0] at HAf
  gi_wp2_with (first
    | (refine ⟨trivial, ?_⟩; gi_at_call 10; refine (callsIn_wide.2 HAf.out).mono ?_; rintro e w5 ⟨Bw, f, rfl, hcw, hcf, hr5, hb5, hB1, hB2⟩; rw [← hW0] at hcw hcf hr5 hb5 hB1; have HX5 := hide (And.intro hcw (And.intro hcf (And.intro hr5 (And.intro hb5 (And.intro hB1 hB2))))); clear hcw hcf hr5 hb5 hB1 hB2))
  obtain ⟨hcw, hcf, hr5, hb5, hB1, hB2⟩ := HX5.out
  rw [HS0.out] at hcw hcf hr5 hb5 hB1
  have hs5 : w.heap.size + 2 ≤ w5.heap.size := by have := hb5.size; rw [HS0.out] at this; exact this
  obtain ⟨n0, n1, n2⟩ := HN.out
  have hc0 := (hb5.cell (p := ⟨w.heap.size, 0, none⟩) (by show w.heap.size < _; omega)).trans n0
  have hc1 := (hb5.cell (p := ⟨w.heap.size + 1, 0, none⟩) (by show w.heap.size + 1 < _; omega)).trans n1
  have hf1 := (hb5.frozen (p := ⟨w.heap.size + 1, 0, none⟩) (by show w.heap.size + 1 < _; omega)).trans n2
  have hsz := hr5.map.lt
  have HBw : Hid (Below w.heap.size w w5) := HB0.out.trans (hb5.mono (by omega))
  have hcell : ∀ V, Keeps (fun _ => False) w5 V → V.cell? ⟨w.heap.size, 0, none⟩ = some (.int .u64 t) ∧ V.cell? ⟨w.heap.size + 1, 0, none⟩ = some (.bool false) ∧ V.frozen? ⟨w.heap.size + 1, 0, none⟩ = false ∧ V.cell? ⟨w.heap.size + 1 + 1, 0, none⟩ = some (.int .u64 fr) ∧ V.cell? ⟨Bw, 0, none⟩ = some (.map (some (w.heap.size + 2 + 1))) ∧ RowsW V (w.heap.size + 2 + 3) (w.heap.size + 2 + 1) len f (ddL l) := fun V hV => ⟨(hV.cell (g := w.heap.size) (i := 0) (by omega) id).trans hc0, (hV.cell (g := w.heap.size + 1) (i := 0) (by omega) id).trans hc1, (World.frozen?_of_block (a := ⟨w.heap.size + 1, 0, none⟩) (hV.block (w.heap.size + 1) (by omega) id)).trans hf1, (hV.cell (g := w.heap.size + 1 + 1) (i := 0) (by omega) id).trans hcf, (hV.cell (g := Bw) (i := 0) hB2 id).trans hcw, hr5.lies hV (fun k _ _ e => e)⟩
  have HCell := hide hcell
  have HU := hide HE.out.2
  have hll : l.length ≤ 100000 := by have := HE.out.1.1; omega
  clear hcell hc0 hc1 hf1 hcw hcf hr5 hb5 hB1 hB2 n0 n1 n2 HX5 hsz hW0
  refine' loopJ1 (a₁ := _) (afterJ (w.heap.size + 1 + 1) Bw (w.heap.size + 2 + 3) (w.heap.size + 2 + 1) len f l fr hfr HU.out hll) (by omega) rfl (fun args w => rfl) (fun x v W h => by rw [h]; rfl)
    (fun j S V => (∀ k, k < w5.heap.size → S k) ∧ Keeps (fun _ => False) w5 V ∧ ∀ i x, i < j → (afterW l fr)[i]? = some x → x ≠ t)
    (fun S V => (∀ k, k < w5.heap.size → S k) ∧ Keeps (fun k => k = w.heap.size + 1) w5 V ∧ V.cell? ⟨w.heap.size + 1, 0, none⟩ = some (.bool true) ∧ t ∈ afterW l fr) _ _ _ _ _ _ _ _
  case refine'_1 =>
    rintro j S V V' ⟨h1, h2, h3⟩ hk
    exact ⟨h1, kp_then h2 (fun k hn hlt => absurd (h1 k hlt) hn) hk, h3⟩
  case refine'_2 =>
    rintro S V V' ⟨h1, h2, h3, h4⟩ hk
    exact ⟨h1, kp_then h2 (fun k hn hlt => absurd (h1 k hlt) hn) hk, (hk.cell (g := w.heap.size + 1) (i := 0) (by have := h2.size; omega) (fun e => e (h1 _ (by omega)))).trans h3, h4⟩
  case refine'_3 =>
    rintro j S V ⟨h1, h2, h3⟩
    obtain ⟨-, -, -, c3, c4, c5⟩ := HCell.out V h2
    exact ⟨c3, c4, c5⟩
  case refine'_4 => exact ⟨fun k hk => hk, Below.keeps (Below.refl _ _) _, fun i s hi => by omega⟩
  case refine'_6 =>
    rintro x v V K rfl hK
    gi_wp2
    exact hK
  case refine'_7 =>
    rintro j x S V hx ⟨h1, h2, h3⟩ hS hlt
    obtain ⟨c0, c1, f1, -, -, -⟩ := HCell.out V h2
    have H1 := hide h1
    have H2 := hide h2
    have H3 := hide h3
    have HSs := hide hS
    have HX := hide hx
    clear h1 h2 h3 hS hx
    by_cases hxt : x = t
    · subst hxt
      gi_wp2
      have hset := keepsY_cell (w := V) (g := w.heap.size + 1) (i := 0) (.bool true)
      exact ⟨kpWide hset (fun k (e : k = w.heap.size + 1) => H1.out k (by omega)), S, fun k hk => .inl hk, fun k hk => Nat.lt_of_lt_of_le (HSs.out k hk) hset.size, H1.out, kp_then (kpWide H2.out (fun k e => e.elim)) (X' := fun k => k = w.heap.size + 1) (fun k e _ => e) hset, World.cell?_setCell_same' _ _ _ (by rw [c1]; rfl), List.mem_of_getElem? HX.out⟩
    · have hxt' : (x == t) = false := by simp [hxt]
      have HXt := hide hxt
      clear hxt
      gi_wp2
      refine ⟨Below.keeps (Below.refl _ _) _, S, fun k hk => .inl hk, HSs.out, H1.out, H2.out, fun i y hi hy => ?_⟩
      by_cases e : i = j
      · subst e
        rw [HX.out] at hy
        cases hy
        exact HXt.out
      · exact H3.out i y (by omega) hy
  case refine'_8 =>
    rintro S V ⟨h1, h2, h3⟩ hS hSn hD hlt
    obtain ⟨c0, c1, f1, -, -, -⟩ := HCell.out V h2
    have HNo : Hid (decide (t ∈ afterW l fr) = false) := decide_eq_false (fun hm => by
      obtain ⟨i, hi, his⟩ := List.mem_iff_getElem.1 hm
      exact h3 i t hi (by rw [List.getElem?_eq_getElem hi, his]) rfl)
    have hset := keepsY_cell (w := V) (g := w.heap.size + 1) (i := 0) (.bool false)
    have HD := hide ((hset.block w5.heap.size hlt (by omega)).trans hD)
    have HC := hide (World.cell?_setCell_same' V ⟨w.heap.size + 1, 0, none⟩ (.bool false) (by rw [c1]; rfl))
    have HK := hide (kp_then (kp_then (kpWide h2 (X' := fun k => k = w.heap.size + 1) (fun k e => e.elim)) (X' := fun k => k = w.heap.size + 1) (fun k e _ => e) hset) (X' := fun k => k = w5.heap.size) (fun k e h => by omega) (kp_put (V.setCell ⟨w.heap.size + 1, 0, none⟩ (.bool false)) w5.heap.size (.deferred none)))
    clear hD hset h1 h2 h3 hS hSn
    gi_wp2
    refine ⟨by simp, .inl ⟨_, _, rfl, run_takeDeferred HD.out, ?_⟩⟩
    refine ⟨_, res_cellR rfl ?_, by rw [HNo.out], HBw.out.trans (HK.out.below (by have := HBw.out.size; omega) (fun k e => by omega))⟩
    exact (World.cell?_of_block (a := ⟨w.heap.size + 1, 0, none⟩) (World.putObj_heap_other (by show w.heap.size + 1 ≠ w5.heap.size; omega))).trans HC.out
  case refine'_9 =>
    rintro S V ⟨h1, h2, h3, h4⟩ hS hSn hD hlt
    have HD := hide hD
    have HK := hide (kp_then h2 (X' := fun k => k = w5.heap.size) (fun k e h => by omega) (kp_put V w5.heap.size (.deferred none)))
    have HC := hide h3
    have HM : Hid (decide (t ∈ afterW l fr) = true) := decide_eq_true h4
    clear hD h1 h2 h3 h4 hS hSn
    gi_wp2
    refine ⟨by simp, .inl ⟨_, _, rfl, run_takeDeferred HD.out, ?_⟩⟩
    refine ⟨_, res_cellR rfl ?_, by rw [HM.out], HBw.out.trans (HK.out.below (by have := HBw.out.size; omega) (fun k e => by omega))⟩
    exact (World.cell?_of_block (a := ⟨w.heap.size + 1, 0, none⟩) (World.putObj_heap_other (by show w.heap.size + 1 ≠ w5.heap.size; omega))).trans HC.out

theorem cyc_awake : cycleW [(1, 2), (2, 1)] 1 = [1, 2] := by decide

set_option maxHeartbeats 2000000 in
theorem awake13_any (w : World) : Calls Try.prog 7 #[] w fun e w' => e = .returned (.bool true) ∧ Below w.heap.size w w' := by
  obtain ⟨W0, hW0⟩ : ∃ W0, W0 = w.alloc (.cells #[.int .u64 1, .int .u64 2, .int .u64 2, .int .u64 1] 35) := ⟨_, rfl⟩
  have hb0 : Below w.heap.size w W0 := by rw [hW0]; exact new_below _ _
  have hE : IsEdges W0 (some ⟨w.heap.size, 0, none⟩) 2 2 [(1, 2), (2, 1)] := by
    have hr := rangeY_new w w.heap.size #[.int .u64 1, .int .u64 2, .int .u64 2, .int .u64 1] 35 rfl
    rw [← hW0] at hr
    refine ⟨⟨rfl, Nat.le_refl _, by unfold maxLen; omega, .inr ⟨w.heap.size, 0, rfl, by rw [hW0]; simp, fun i x hx => ?_⟩⟩, fun e he => ?_⟩
    · rcases i with _ | _ | i
      · cases hx
        intro j v hj
        rcases j with _ | _ | j
        · cases hj; exact hr 0 _ rfl
        · cases hj; exact hr 1 _ rfl
        · simp [layE] at hj
      · cases hx
        intro j v hj
        rcases j with _ | _ | j
        · cases hj; exact hr 2 _ rfl
        · cases hj; exact hr 3 _ rfl
        · simp [layE] at hj
      · simp at hx
    · simp at he
      rcases he with rfl | rfl <;> exact ⟨⟨by decide, by decide⟩, by decide, by decide⟩
  have HC := hide (pcycle_any _ 2 2 _ 1 W0 hE (by omega) ⟨by decide, by decide⟩)
  rw [cyc_awake] at HC
  have HB0 := hide hb0
  rw [hW0] at HC
  clear hE hb0
  go_enter Try.func7, Try.ntmps7
  go_wp2_with (first
    | (go_at_call 12; go_must (refine HC.out.mono ?_); rintro e w1 ⟨v, rfl, ho, hb⟩; rw [← hW0] at ho hb; have HO := hide ho; have HB := hide hb; rcases ho.form with ⟨-, e0⟩ | ⟨g, cap, rfl, -, hg, hc, hm, hC, -⟩; (exfalso; cases e0); (have y0 := cellU hC (k := 0) (n := 1) rfl); (have y1 := cellU hC (k := 1) (n := 2) rfl); clear hb hC ho))
  go_ret
  exact ⟨rfl, HB0.out.trans (HB.out.mono HB0.out.size)⟩

end Go.Proofs.Ytahfaddldnfngaa
