/- The law WaitAfter. -/
import Derived.Test.YtahfaddldnfngaaWp9
namespace Go.Proofs.Ytahfaddldnfngaa
open Go.RowKit NumMath Go.ChangeShapes Go.WideShapes Go.Deep
set_option linter.unusedVariables false
set_option maxRecDepth 100000

attribute [local go_sem] Oper.semAt_some

theorem res_cellA {tmps : Array Value} {N : Nat} {v : Value} {W : World} (hp : tmps.getD 8 undef = .pointer (some ⟨N, 0, none⟩)) (c : W.cell? ⟨N, 0, none⟩ = some v) : (results Try.f3 tmps).run Try.prog W = .ok v W := by
  have hp' : tmps[8]?.getD undef = .pointer (some ⟨N, 0, none⟩) := by simpa using hp
  simp [results, Try.results3, hp', go_sem, c]

theorem memU_more {xs : List Int} {j : Nat} {x : Int} (h : xs[j]? = some x) (t : Int) : decide (t ∈ xs.take (j + 1)) = (decide (t ∈ xs.take j) || x == t) := by
  rw [List.take_add_one, h]
  by_cases h1 : t ∈ xs.take j
  · simp [h1]
  · by_cases h2 : x = t
    · simp [h2]
    · have h3 : ¬ t = x := fun e => h2 e.symm
      simp [h1, h2, h3]

set_option maxHeartbeats 4000000 in
theorem wafter_any (a : Option Addr) (len cap : Nat) (l : List (Int × Int)) (fr t most : Int) (w : World) (h : IsEdges w a len cap l) (hfr : U64 fr) :
    Calls Try.prog 3 #[.slice a len cap, .int .u64 fr, .int .u64 t, .int .i64 most] w fun e w' => e = .returned (.bool true) ∧ Below w.heap.size w w' := by
  refine (callsIn_wide (n := 12)).1 ?_
  refine callsIn_of_wp_marks Try.func3 rfl trivial ?_ rfl
  simp only [Try.ntmps3, List.size_toArray, List.length_cons, List.length_nil, Nat.reduceAdd, Nat.reduceSub, Array.replicate_succ, Array.replicate_zero, List.push_toArray, List.append_toArray, List.nil_append, List.cons_append]
  obtain ⟨W0, hW0⟩ : ∃ W0, W0 = (w.alloc (.cells #[.int .i64 most] 3)).alloc (.cells #[.bool false] 4) := ⟨_, rfl⟩
  have hb0 : Below w.heap.size w W0 := by rw [hW0]; exact ((Below.refl _ w).alloc (Nat.le_refl _) _).alloc (by simp) _
  have hs0 : W0.heap.size = w.heap.size + 2 := by rw [hW0]; simp
  have hN0 : W0.cell? ⟨w.heap.size, 0, none⟩ = some (.int .i64 most) := by rw [hW0]; exact ((new_below _ _).cell (p := ⟨w.heap.size, 0, none⟩) (by simp)).trans (rangeY_new w w.heap.size _ _ rfl 0 _ rfl)
  have hN1 : W0.cell? ⟨w.heap.size + 1, 0, none⟩ = some (.bool false) := by rw [hW0]; exact rangeY_new _ _ _ _ (by simp) 0 _ rfl
  have hF1 : W0.frozen? ⟨w.heap.size + 1, 0, none⟩ = false := by
    rw [hW0]
    have := fz_new (w.alloc (.cells #[.int .i64 most] 3)) #[.bool false] 4 0
    rwa [World.size_alloc] at this
  have hm : (len : Int) ≤ 9223372036854775807 := by have := h.1.2.1; have := h.1.2.2.1; unfold maxLen at this; omega
  have HE0 := hide (h.keep hb0)
  have HB0 := hide hb0
  have HS0 := hide hs0
  have HN := hide (And.intro hN0 (And.intro hN1 hF1))
  have HBx : Hid (∀ V, Below W0.heap.size W0 V → V.cell? ⟨w.heap.size, 0, none⟩ = some (.int .i64 most) ∧ V.cell? ⟨w.heap.size + 1, 0, none⟩ = some (.bool false) ∧ V.frozen? ⟨w.heap.size + 1, 0, none⟩ = false) := fun V hV => ⟨(hV.cell (p := ⟨w.heap.size, 0, none⟩) (by show w.heap.size < W0.heap.size; omega)).trans HN.out.1, (hV.cell (p := ⟨w.heap.size + 1, 0, none⟩) (by show w.heap.size + 1 < W0.heap.size; omega)).trans HN.out.2.1, (hV.frozen (p := ⟨w.heap.size + 1, 0, none⟩) (by show w.heap.size + 1 < W0.heap.size; omega)).trans HN.out.2.2⟩
  have HEnd : Hid (∀ V : World, Below W0.heap.size W0 V → Below w.heap.size w (V.setCell ⟨w.heap.size + 1, 0, none⟩ (.bool true)) ∧ (V.setCell ⟨w.heap.size + 1, 0, none⟩ (.bool true)).cell? ⟨w.heap.size + 1, 0, none⟩ = some (.bool true)) := by
    intro V hV
    obtain ⟨-, c1, -⟩ := HBx.out V hV
    refine ⟨(HB0.out.trans (hV.mono (by omega))).trans ((keepsY_cell (w := V) (g := w.heap.size + 1) (i := 0) (.bool true)).below (by have := hV.size; omega) (fun k (e : k = w.heap.size + 1) => by omega)), World.cell?_setCell_same' _ _ _ (by rw [c1]; rfl)⟩
  have HLl := hide h.1.1
  clear h hb0 hs0 hN0 hN1 hF1
  gi_wp2_with fail
  rw [← hW0]
  clear hW0
  by_cases g1 : (40 : Int) < (len : Int)
  · gi_wp2_with (first
      | (refine ⟨trivial, ?_⟩; gi_at_call 7; refine (callsIn_wide.2 (awake13_any _)).mono ?_; rintro e wa ⟨rfl, hba⟩; have HB1 := hide hba; obtain ⟨b0, b1, b2⟩ := HBx.out wa hba; clear hba))
    obtain ⟨k1, k2⟩ := HEnd.out wa HB1.out
    exact ⟨_, res_cellA rfl k2, rfl, k1⟩
  by_cases g2 : most < 0
  · gi_wp2_with (first
      | (refine ⟨trivial, ?_⟩; gi_at_call 7; refine (callsIn_wide.2 (awake13_any _)).mono ?_; rintro e wa ⟨rfl, hba⟩; have HB1 := hide hba; obtain ⟨b0, b1, b2⟩ := HBx.out wa hba; clear hba))
    obtain ⟨k1, k2⟩ := HEnd.out wa HB1.out
    exact ⟨_, res_cellA rfl k2, rfl, k1⟩
  have hl1 : len ≤ 40 := by omega
  gi_wp2_with (first
    | (refine ⟨trivial, ?_⟩; gi_at_call 8; refine (callsIn_wide.2 (after_any a len cap l fr wa (HE0.out.keep HB1.out).1 (by omega))).mono ?_; rintro e wb ⟨v, rfl, ho, hb⟩; obtain ⟨va, vn, vc, rfl⟩ := ho.any3; have HO := hide ho; have HB2 := hide (HB1.out.trans (hb.mono HB1.out.size)); clear ho hb)
    | (refine ⟨trivial, ?_⟩; gi_at_call 7; refine (callsIn_wide.2 (awake13_any _)).mono ?_; rintro e wa ⟨rfl, hba⟩; have HB1 := hide hba; obtain ⟨b0, b1, b2⟩ := HBx.out wa hba; clear hba))
  clear g1 g2 b0 b1 b2
  obtain ⟨Wc, hWc⟩ : ∃ Wc, Wc = wb.alloc (.cells #[.slice va vn vc] 25) := ⟨_, rfl⟩
  rw [← hWc]
  have hbc : Below wb.heap.size wb Wc := by rw [hWc]; exact new_below _ _
  have hsc : Wc.heap.size = wb.heap.size + 1 := by rw [hWc]; simp
  have hcw : Wc.cell? ⟨wb.heap.size, 0, none⟩ = some (.slice va vn vc) := by rw [hWc]; exact rangeY_new _ _ _ _ rfl 0 _ rfl
  have HBc : Hid (Below W0.heap.size W0 Wc) := HB2.out.trans (hbc.mono HB2.out.size)
  have HUc := hide (HO.out.is.keep hbc)
  have hvl := HO.out.len
  have hvm : (vc : Int) ≤ 9223372036854775807 := by have := hvl.2.2; unfold maxLen at this; omega
  have HVl := hide hvl
  have hal : (afterW l fr).length ≤ 40 := by
    have h1 := (walkW_good l fr).2.2
    have h2 := HLl.out
    unfold afterW; rw [List.length_map]; omega
  have hvn : (vn : Int) ≤ 40 := by have := hvl.1; omega
  have HSc := hide hsc
  have hs2 := HB2.out.size
  clear hWc hbc HB1 HB2 HO hvl
  gi_loopw [10, 29] (fun b i wr => ∃ k : Nat, b = .bool (decide (t ∈ (afterW l fr).take k)) ∧ i = .int .i64 k ∧ k ≤ vn ∧ Hid (wr = Wc)) (fun _ i _ => vn - (intOf i).toNat)
  case atStart => exact ⟨0, rfl, rfl, Nat.zero_le _, hide rfl⟩
  case round =>
    obtain ⟨k, rfl, rfl, hk, hwr⟩ := hrel
    have hwr := hwr.out
    subst hwr
    by_cases hlt : k < vn
    · have hlt' : (k : Int) < (vn : Int) := by omega
      obtain ⟨g, off, x, rfl, hg, hx, hcx⟩ := isU_at HUc.out hlt
      have HMm := hide (memU_more hx t)
      clear hx
      cases hin : decide (t ∈ (afterW l fr).take k) with
      | true =>
        rw [hin] at HMm
        clear hin
        gi_wp2
        go_roundw
        case rel => exact ⟨k + 1, by rw [HMm.out]; simp, by go_num, by omega, hide trivial⟩
        case measure => simp [intOf]; omega
      | false =>
        rw [hin] at HMm
        clear hin
        obtain ⟨zx, hzx⟩ : ∃ zx, (x == t) = zx := ⟨_, rfl⟩
        rw [hzx] at HMm
        gi_wp2
        go_roundw
        case rel => exact ⟨k + 1, by rw [HMm.out]; simp, by go_num, by omega, hide trivial⟩
        case measure => simp [intOf]; omega
    · obtain rfl : k = vn := by omega
      rw [List.take_of_length_le (by have := HVl.out.1; omega)]
      have hb0c := HBc.out
      gi_wp2_with (first
        | (refine ⟨trivial, ?_⟩; gi_at_call 10; refine (callsIn_wide.2 (pafter_any a len cap l fr _ HE4.out (by omega))).mono ?_; rintro e w5 ⟨Bw, f, rfl, hcw5, hcf5, hr5, hb5, hB1, hB2⟩; have HX5 := hide (And.intro hcw5 (And.intro hcf5 (And.intro hr5 (And.intro hb5 (And.intro hB1 hB2))))); clear hcw5 hcf5 hr5 hb5 hB1 hB2)
        | (refine ⟨trivial, ?_⟩; gi_at_call 9; refine (callsIn_wide.2 (preach_any a len cap l fr t wr (HE0.out.keep HBc.out) (by omega) hfr)).mono ?_; rintro e wd ⟨rfl, hbd⟩; have HBd := hide (HBc.out.trans (hbd.mono HBc.out.size)); have HUd := hide (HUc.out.keep hbd); have hcd := (hbd.cell (p := ⟨wb.heap.size, 0, none⟩) (by show wb.heap.size < _; rw [HSc.out]; omega)).trans hcw; have HSd := hide hbd.size; have HE4 := hide ((HE0.out.keep HBd.out).keep (new_below wd (.cells #[.int .i64 0] 3))); obtain ⟨zr, hzr⟩ : ∃ zr, decide (t ∈ afterW l fr) = zr := ⟨_, rfl⟩; rw [hzr]; clear hbd))
      obtain ⟨hcw5, hcf5, hr5, hb5, hB1, hB2⟩ := HX5.out
      have hse : (wd.alloc (.cells #[.int .i64 0] 3)).heap.size = wd.heap.size + 1 := by simp
      rw [hse] at hcw5 hcf5 hr5 hb5 hB1
      have hbd5 : Below wd.heap.size wd w5 := (new_below wd _).trans (hb5.mono (by omega))
      have hsd := HSd.out
      have hs5 := hb5.size
      rw [hse] at hs5
      have hsc := HSc.out
      have HB5 : Hid (Below W0.heap.size W0 w5) := HBd.out.trans (hbd5.mono HBd.out.size)
      obtain ⟨c0, c1, f1⟩ := HBx.out w5 HB5.out
      have hn5 : w5.cell? ⟨wd.heap.size, 0, none⟩ = some (.int .i64 0) := (hb5.cell (p := ⟨wd.heap.size, 0, none⟩) (by show wd.heap.size < _; omega)).trans (rangeY_new wd wd.heap.size _ _ rfl 0 _ rfl)
      have hfn5 : w5.frozen? ⟨wd.heap.size, 0, none⟩ = false := (hb5.frozen (p := ⟨wd.heap.size, 0, none⟩) (by show wd.heap.size < _; omega)).trans (fz_new wd _ _ 0)
      have hw5 := (hbd5.cell (p := ⟨wb.heap.size, 0, none⟩) (by show wb.heap.size < _; omega)).trans hcd
      have HU5 := hide (HUd.out.keep hbd5)
      have HVw : Hid (∀ V, Keeps (fun k => k = wd.heap.size) w5 V → V.cell? ⟨w.heap.size, 0, none⟩ = some (.int .i64 most) ∧ V.cell? ⟨w.heap.size + 1, 0, none⟩ = some (.bool false) ∧ V.frozen? ⟨w.heap.size + 1, 0, none⟩ = false ∧ V.cell? ⟨wb.heap.size, 0, none⟩ = some (.slice va k vc) ∧ V.cell? ⟨wd.heap.size + 1, 0, none⟩ = some (.int .u64 fr) ∧ V.cell? ⟨Bw, 0, none⟩ = some (.map (some (wd.heap.size + 1 + 1))) ∧ RowsW V (wd.heap.size + 1 + 3) (wd.heap.size + 1 + 1) len f (ddL l) ∧ IsY layU V va k vc (afterW l fr)) := by
        intro V hV
        have hs0 := HS0.out
        refine ⟨(hV.cell (g := w.heap.size) (i := 0) (by omega) (by omega)).trans c0, (hV.cell (g := w.heap.size + 1) (i := 0) (by omega) (by omega)).trans c1, (World.frozen?_of_block (a := ⟨w.heap.size + 1, 0, none⟩) (hV.block (w.heap.size + 1) (by omega) (by omega))).trans f1, (hV.cell (g := wb.heap.size) (i := 0) (by omega) (by omega)).trans hw5, (hV.cell (g := wd.heap.size + 1) (i := 0) (by omega) (by omega)).trans hcf5, (hV.cell (g := Bw) (i := 0) hB2 (by omega)).trans hcw5, hr5.lies hV (fun k hk1 hk2 e => by omega), ?_⟩
        have hUc := HUc.out
        obtain ⟨e1, e2, e3, e4⟩ := HU5.out
        refine ⟨e1, e2, e3, ?_⟩
        rcases hUc.2.2.2 with e5 | ⟨g, off, rfl, hg, -⟩
        · exact .inl e5
        · rcases e4 with e4 | ⟨g', off', e6, hg', hC'⟩
          · exact .inl e4
          · cases e6
            exact .inr ⟨g, off, rfl, Nat.lt_of_lt_of_le hg' hV.size, hC'.same (hV.block g hg' (by omega))⟩
      have hll : l.length ≤ 100000 := by have := HLl.out; omega
      have HEl := hide HE0.out.2
      have hs0 := HS0.out
      have hkl := HVl.out.1
      have HN5 := hide (And.intro hn5 hfn5)
      clear hcw5 hcf5 hr5 hb5 hB1 hB2 c0 c1 f1 hn5 hfn5 hw5 hbd5 HX5 hzr HE4 hcd HUd HBd
      refine' loopJ1 (a₁ := _) (afterJ (wd.heap.size + 1) Bw (wd.heap.size + 1 + 3) (wd.heap.size + 1 + 1) len f l fr hfr HEl.out hll) (by omega) rfl (fun args w => rfl) (fun x v W h => by rw [h]; rfl)
        (fun j S V => (∀ k, k < w5.heap.size → S k) ∧ Keeps (fun k => k = wd.heap.size) w5 V ∧ V.cell? ⟨wd.heap.size, 0, none⟩ = some (.int .i64 (j : Nat)) ∧ V.frozen? ⟨wd.heap.size, 0, none⟩ = false)
        (fun S V => (∀ k, k < w5.heap.size → S k) ∧ Keeps (fun k => k = wd.heap.size ∨ k = w.heap.size + 1) w5 V ∧ V.cell? ⟨w.heap.size + 1, 0, none⟩ = some (.bool true)) _ _ _ _ _ _ _ _
      case refine'_1 =>
        rintro j S V V' ⟨h1, h2, h3, h4⟩ hk
        exact ⟨h1, kp_then h2 (fun k hn hlt => absurd (h1 k hlt) hn) hk, (hk.cell (g := wd.heap.size) (i := 0) (by have := h2.size; omega) (fun e => e (h1 _ (by omega)))).trans h3, (World.frozen?_of_block (a := ⟨wd.heap.size, 0, none⟩) (hk.block wd.heap.size (by have := h2.size; omega) (fun e => e (h1 _ (by omega))))).trans h4⟩
      case refine'_2 =>
        rintro S V V' ⟨h1, h2, h3⟩ hk
        exact ⟨h1, kp_then h2 (fun k hn hlt => absurd (h1 k hlt) hn) hk, (hk.cell (g := w.heap.size + 1) (i := 0) (by have := h2.size; omega) (fun e => e (h1 _ (by omega)))).trans h3⟩
      case refine'_3 =>
        rintro j S V ⟨h1, h2, h3, h4⟩
        obtain ⟨-, -, -, -, c4, c5, c6, -⟩ := HVw.out V h2
        exact ⟨c4, c5, c6⟩
      case refine'_4 => exact ⟨fun k hk => hk, Below.keeps (Below.refl _ _) _, HN5.out.1, HN5.out.2⟩
      case refine'_6 =>
        rintro x v V K rfl hK
        gi_wp2
        exact hK
      case refine'_7 =>
        rintro j x S V hx ⟨h1, h2, h3, h4⟩ hS hlt5
        obtain ⟨c0, c1, f1, c3, -, -, -, hIs⟩ := HVw.out V h2
        have hjl : j < k := by rw [← hkl]; exact (List.getElem?_eq_some_iff.1 hx).1
        obtain ⟨g, off, y, rfl, hg, hy, hcy⟩ := isU_at hIs hjl
        obtain rfl : x = y := by rw [hx] at hy; exact Option.some.inj hy
        have H1 := hide h1
        have H2 := hide h2
        have HSs := hide hS
        have hs5V := h2.size
        clear h1 h2 hS hIs hx hy
        by_cases hja : (j : Int) = most
        · have hja' : ((j : Int) == most) = true := by simp [hja]
          clear hja
          gi_wp2
          have hset := keepsY_cell (w := V) (g := w.heap.size + 1) (i := 0) (.bool true)
          exact ⟨kpWide hset (fun k (e : k = w.heap.size + 1) => H1.out k (by omega)), S, fun k hk => .inl hk, fun k hk => Nat.lt_of_lt_of_le (HSs.out k hk) hset.size, H1.out, kp_then (kpWide H2.out (fun k e => .inl e)) (X' := fun k => k = w.heap.size + 1) (fun k e _ => .inr e) hset, World.cell?_setCell_same' _ _ _ (by rw [c1]; rfl)⟩
        · have hja' : ((j : Int) == most) = false := by simp [hja]
          have hge : ((k : Int) ≤ (j : Int)) = False := by simp; omega
          have hge2 : (k ≤ j) = False := by simp; omega
          have hjl' : (j : Int) < (k : Int) := by omega
          clear hja
          gi_wp2
          have hset := keepsY_cell (w := V) (g := wd.heap.size) (i := 0) (.int .i64 ((j : Int) + 1))
          refine ⟨kpWide hset (fun k (e : k = wd.heap.size) => H1.out k (by omega)), S, fun k hk => .inl hk, fun k hk => Nat.lt_of_lt_of_le (HSs.out k hk) hset.size, H1.out, kp_then H2.out (fun k e _ => e) hset, ?_, ?_⟩
          · rw [show ((j + 1 : Nat) : Int) = (j : Int) + 1 by omega]
            exact World.cell?_setCell_same' V _ _ (by rw [h3]; rfl)
          · rw [World.frozen?_setCell]; exact h4
      case refine'_8 =>
        rintro S V ⟨h1, h2, h3, h4⟩ hS hSn hD hlt5
        rw [hkl] at h3
        obtain ⟨c0, c1, f1, c3, -, -, -, -⟩ := HVw.out V h2
        have hset := keepsY_cell (w := V) (g := w.heap.size + 1) (i := 0) (.bool true)
        have HD := hide ((hset.block w5.heap.size hlt5 (by omega)).trans hD)
        have HC := hide (World.cell?_setCell_same' V ⟨w.heap.size + 1, 0, none⟩ (.bool true) (by rw [c1]; rfl))
        have HK := hide (kp_then (kp_then (kpWide h2 (X' := fun k => k = wd.heap.size ∨ k = w.heap.size + 1) (fun k e => .inl e)) (X' := fun k => k = w.heap.size + 1) (fun k e _ => .inr e) hset) (X' := fun k => k = w5.heap.size) (fun k e h => by omega) (kp_put (V.setCell ⟨w.heap.size + 1, 0, none⟩ (.bool true)) w5.heap.size (.deferred none)))
        clear hD hset h1 h2 hS hSn
        gi_wp2
        refine ⟨by simp, .inl ⟨_, _, rfl, run_takeDeferred HD.out, ?_⟩⟩
        refine ⟨_, res_cellA rfl ?_, rfl, (HB0.out.trans (HB5.out.mono (by omega))).trans (HK.out.below (by omega) (fun k e => by omega))⟩
        exact (World.cell?_of_block (a := ⟨w.heap.size + 1, 0, none⟩) (World.putObj_heap_other (by show w.heap.size + 1 ≠ w5.heap.size; omega))).trans HC.out
      case refine'_9 =>
        rintro S V ⟨h1, h2, h3⟩ hS hSn hD hlt5
        have HD := hide hD
        have HK := hide (kp_then h2 (X' := fun k => k = w5.heap.size) (fun k e h => by omega) (kp_put V w5.heap.size (.deferred none)))
        have HC := hide h3
        clear hD h1 h2 h3 hS hSn
        gi_wp2
        refine ⟨by simp, .inl ⟨_, _, rfl, run_takeDeferred HD.out, ?_⟩⟩
        refine ⟨_, res_cellA rfl ?_, rfl, (HB0.out.trans (HB5.out.mono (by omega))).trans (HK.out.below (by omega) (fun k e => by omega))⟩
        exact (World.cell?_of_block (a := ⟨w.heap.size + 1, 0, none⟩) (World.putObj_heap_other (by show w.heap.size + 1 ≠ w5.heap.size; omega))).trans HC.out

end Go.Proofs.Ytahfaddldnfngaa
