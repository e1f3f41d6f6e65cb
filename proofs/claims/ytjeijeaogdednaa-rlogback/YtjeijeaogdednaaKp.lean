/- What Append leaves is a log again; the law RlogKeeps, walked. -/
import Derived.Test.YtjeijeaogdednaaRl5
import Derived.Test.YtjeijeaogdednaaOpen8
import Derived.BigQuiet
namespace Go.Proofs.Ytjeijeaogdednaa
open Go.RowKit NumMath
set_option linter.unusedVariables false
set_option maxRecDepth 100000

theorem getD_append_l (xs ys : List Ent) (j : Nat) (h : j < xs.length) : (xs ++ ys).getD j ent0 = xs.getD j ent0 := by simp [List.getD, List.getElem?_append_left h]
theorem getD_append_r (xs ys : List Ent) (j : Nat) (h : xs.length ≤ j) : (xs ++ ys).getD j ent0 = ys.getD (j - xs.length) ent0 := by simp [List.getD, List.getElem?_append_right h]
theorem getD_take_e (xs : List Ent) (k j : Nat) (h : j < k) : (xs.take k).getD j ent0 = xs.getD j ent0 := by simp [List.getD, h]
theorem ent_mem (es : List Ent) (k : Nat) (h : k < es.length) : es.getD k ent0 ∈ es := by
  have : es.getD k ent0 = es[k] := by simp [List.getD, List.getElem?_eq_getElem h]
  rw [this]; exact List.getElem_mem h

theorem good_app {L : LogS} {es : List Ent} (hG : L.Good) (hes : ∀ e ∈ es, e.ok ∧ e.d.length ≤ 100000) (hn : L.es.length + es.length ≤ 100000) : (appL L es).2.Good := by
  by_cases h0 : es = []
  · subst h0; rw [appL_nil]; exact hG
  · by_cases hF : Fits L es
    · rw [appL_yes h0 hF]
      obtain ⟨f1, f2, f3⟩ := hF
      have hpos : 0 < es.length := List.length_pos_iff.2 h0
      have ok0 := (hes _ (ent_mem es 0 hpos)).1.1
      obtain ⟨k0, hk0⟩ : ∃ k0 : Nat, (es.getD 0 ent0).i = L.s.i + 1 + k0 := ⟨((es.getD 0 ent0).i - (L.s.i + 1)).toNat, by omega⟩
      have hkn : ((es.getD 0 ent0).i - (L.s.i + 1)).toNat = k0 := by omega
      rw [hkn]
      have hke : k0 ≤ L.es.length := by omega
      have htl : (L.es.take k0).length = k0 := by rw [List.length_take]; omega
      refine ⟨hG.i0, hG.i1, hG.t0, hG.t1, hG.m0, hG.m1, hG.d1, ?_, ?_, ?_, ?_, ?_⟩
      · show (L.es.take k0 ++ es).length ≤ _
        rw [List.length_append, htl]; omega
      · show ∀ j, j < (L.es.take k0 ++ es).length → ((L.es.take k0 ++ es).getD j ent0).i = L.s.i + 1 + j
        intro j hj
        rw [List.length_append, htl] at hj
        by_cases hjk : j < k0
        · rw [getD_append_l _ _ _ (by omega), getD_take_e _ _ _ hjk]
          exact hG.at_ j (by omega)
        · rw [getD_append_r _ _ _ (by omega), htl, f3 (j - k0) (by omega), hk0]
          omega
      · show ∀ e ∈ L.es.take k0 ++ es, _
        intro e he
        rcases List.mem_append.1 he with he | he
        · exact hG.ok e (List.mem_of_mem_take he)
        · exact hes e he
      · dsimp only
        split
        · omega
        · exact hG.y0
      · dsimp only
        split
        · omega
        · exact hG.y1
    · rw [appL_no h0 hF]; exact hG

theorem entsL_all {L : LogS} {most : Int} (h : (L.es.length : Int) ≤ most) (h1 : 1 ≤ most) : entsL L (L.s.i + 1) most = L.es := by
  by_cases h0 : L.es.length = 0
  · rw [entsL_no (.inr (.inl (by omega))), List.length_eq_zero_iff.1 h0]
  · rw [entsL_yes (by omega), Int.sub_self]
    show (L.es.drop 0).take most.toNat = _
    rw [List.drop_zero, List.take_of_length_le (by omega)]

theorem appL_s (L : LogS) (es : List Ent) : (appL L es).2.s = L.s := by
  by_cases h0 : es = []
  · subst h0; rw [appL_nil]
  · by_cases hF : Fits L es
    · rw [appL_yes h0 hF]
    · rw [appL_no h0 hF]

theorem appL_len (L : LogS) (es : List Ent) : (appL L es).2.es.length ≤ L.es.length + es.length := by
  by_cases h0 : es = []
  · subst h0; rw [appL_nil]; simp
  · by_cases hF : Fits L es
    · rw [appL_yes h0 hF]
      show (L.es.take _ ++ es).length ≤ _
      rw [List.length_append, List.length_take]
      omega
    · rw [appL_no h0 hF]
      simp

/-- entries that are small -/
theorem ents_small {X : Nat → Prop} {w : World} {a : Option Addr} {len cap : Nat} {ms : List MEnt} (h : IsMs X w a len cap ms) (hS : SmallM len ms) : ∀ e ∈ ms.map MEnt.e, e.ok ∧ e.d.length ≤ 100000 := by
  intro e he
  obtain ⟨m, hm, rfl⟩ := List.mem_map.1 he
  have h1 := h.2.2.2.1 m hm
  have h2 := hS.2 m hm
  have h3 := h1.2.1.1
  exact ⟨h1.1, by omega⟩

/-- what a call hands out, as the walk wants it -/
theorem outE_is {w w' : World} {E : List Ent} {b : Option Addr} {n c : Nat} {ms' : List MEnt} (hE : ms'.map MEnt.e = E) (hr : RowM w' w.heap.size (.slice b n c) ms') (ho : ∀ m ∈ ms', m.ok (fun k => k < w.heap.size ∨ (Value.slice b n c).ownBlock = some k) w') : IsMs (fun _ => False) w' b n c ms' ∧ n = E.length :=
  ⟨(hr.is ho).more (fun k hk => hk.elim), by rw [← hE, List.length_map, hr.len.1]⟩

set_option maxHeartbeats 600000 in
theorem rlkeeps_any (i0 t0 : Int) (ma0 : Option Addr) (mn0 mc0 : Nat) (m0 : List Int) (da0 : Option Addr) (dn0 dc0 : Nat) (d0 : List Int) (a1 : Option Addr) (len1 cap1 : Nat) (x1 : List MEnt) (a2 : Option Addr) (len2 cap2 : Nat) (x2 : List MEnt) (w : World) (w0 : IsSnap w i0 t0 ma0 mn0 mc0 m0 da0 dn0 dc0 d0) (w1 : IsMs (fun _ => False) w a1 len1 cap1 x1) (w2 : IsMs (fun _ => False) w a2 len2 cap2 x2) :
    Calls Try.prog 7 #[.agg #[.int .u64 i0, .int .u64 t0, .slice ma0 mn0 mc0, .slice da0 dn0 dc0], .slice a1 len1 cap1, .slice a2 len2 cap2] w fun e w' => e = .returned (.bool true) ∧ Below w.heap.size w w' := by
  have H0 := hide w0
  have H1 := hide w1
  have H2 := hide w2
  have hm2 : (len2 : Int) ≤ 9223372036854775807 := by have := w2.2.1; have := w2.2.2.1; unfold maxLen at this; omega
  have HBx := hide (box4_new w (.int .u64 i0) (.int .u64 t0) (.slice ma0 mn0 mc0) (.slice da0 dn0 dc0) 26 _ rfl)
  clear w0 w1 w2
  have H0w := H0.out
  by_cases g0 : ¬ ((mn0 : Int) ≤ 9 ∧ (dn0 : Int) ≤ 200)
  · go_enter Try.func7, Try.ntmps7
    go_wp2_with (first
      | (go_at_call 8; refine (rlawake_any _).mono ?_; rintro e wa ⟨rfl, hba0⟩; obtain ⟨p0, p1, p2, p3, pf0⟩ := HBx.out.keep hba0 (by simp); have pf := hide pf0; clear pf0; have hba := (new_below _ _).trans (hba0.mono (by simp)); clear hba0)
      | (go_at_call 9; go_must (refine (smallS_no i0 t0 ma0 mn0 mc0 da0 dn0 dc0 _ g0).mono ?_); rintro e wb ⟨rfl, hbb⟩))
    go_ret
    exact ⟨rfl, hba.trans (hbb.mono hba.size)⟩
  have g0 := Classical.not_not.1 g0
  by_cases g1 : ¬ SmallM len1 x1
  · go_enter Try.func7, Try.ntmps7
    go_wp2_with (first
      | (go_at_call 8; refine (rlawake_any _).mono ?_; rintro e wa ⟨rfl, hba0⟩; obtain ⟨p0, p1, p2, p3, pf0⟩ := HBx.out.keep hba0 (by simp); have pf := hide pf0; clear pf0; have hba := (new_below _ _).trans (hba0.mono (by simp)); clear hba0)
      | (go_at_call 9; go_must (refine (smallS_yes i0 t0 ma0 mn0 mc0 da0 dn0 dc0 _ g0.1 g0.2).mono ?_); rintro e wb ⟨rfl, hbb0⟩; obtain ⟨p0b, p1b, p2b, p3b, -⟩ := (Box4.keep (w := wa) ⟨p0, p1, p2, p3, pf.out⟩ hbb0 (World.block_lt_of_cell? _ ⟨w.heap.size, 0, none⟩ p0)); have hbb := hba.trans (hbb0.mono hba.size); clear hbb0)
      | (go_at_call 12; go_must (refine (small_no _ a1 len1 cap1 x1 _ (H1.out.keep hbb) g1).mono ?_); rintro e wc ⟨rfl, hbc⟩; have hbc := hbb.trans (hbc.mono hbb.size)))
    go_ret
    exact ⟨rfl, hbc⟩
  have g1 := Classical.not_not.1 g1
  by_cases g2 : ¬ SmallM len2 x2
  · go_enter Try.func7, Try.ntmps7
    go_wp2_with (first
      | (go_at_call 8; refine (rlawake_any _).mono ?_; rintro e wa ⟨rfl, hba0⟩; obtain ⟨p0, p1, p2, p3, pf0⟩ := HBx.out.keep hba0 (by simp); have pf := hide pf0; clear pf0; have hba := (new_below _ _).trans (hba0.mono (by simp)); clear hba0)
      | (go_at_call 9; go_must (refine (smallS_yes i0 t0 ma0 mn0 mc0 da0 dn0 dc0 _ g0.1 g0.2).mono ?_); rintro e wb ⟨rfl, hbb0⟩; obtain ⟨p0b, p1b, p2b, p3b, -⟩ := (Box4.keep (w := wa) ⟨p0, p1, p2, p3, pf.out⟩ hbb0 (World.block_lt_of_cell? _ ⟨w.heap.size, 0, none⟩ p0)); have hbb := hba.trans (hbb0.mono hba.size); clear hbb0)
      | (go_at_call_of 12 cap2; refine (small_no _ a2 len2 cap2 x2 _ (H2.out.keep hbc) g2).mono ?_; rintro e wd ⟨rfl, hbd⟩; have hbd := hbc.trans (hbd.mono hbc.size))
      | (go_at_call_of 12 cap1; go_must (refine (small_yes _ a1 len1 cap1 x1 _ (H1.out.keep hbb) g1).mono ?_); rintro e wc ⟨rfl, hbc⟩; have hbc := hbb.trans (hbc.mono hbb.size)))
    go_ret
    exact ⟨rfl, hbd⟩
  have g2 := Classical.not_not.1 g2
  have HG1 := hide g1
  have HG2 := hide g2
  have HS0 := hide g0
  by_cases g3 : len2 = 0
  · subst g3
    go_enter Try.func7, Try.ntmps7
    go_wp2_with (first
      | (go_at_call 8; refine (rlawake_any _).mono ?_; rintro e wa ⟨rfl, hba0⟩; obtain ⟨p0, p1, p2, p3, pf0⟩ := HBx.out.keep hba0 (by simp); have pf := hide pf0; clear pf0; have hba := (new_below _ _).trans (hba0.mono (by simp)); clear hba0)
      | (go_at_call 9; go_must (refine (smallS_yes i0 t0 ma0 mn0 mc0 da0 dn0 dc0 _ g0.1 g0.2).mono ?_); rintro e wb ⟨rfl, hbb0⟩; obtain ⟨p0b, p1b, p2b, p3b, -⟩ := (Box4.keep (w := wa) ⟨p0, p1, p2, p3, pf.out⟩ hbb0 (World.block_lt_of_cell? _ ⟨w.heap.size, 0, none⟩ p0)); have hbb := hba.trans (hbb0.mono hba.size); clear hbb0)
      | (go_at_call_of 12 cap2; refine (small_yes _ a2 0 cap2 x2 _ (H2.out.keep hbc) HG2.out).mono ?_; rintro e wd ⟨rfl, hbd⟩; have hbd := hbc.trans (hbd.mono hbc.size))
      | (go_at_call_of 12 cap1; go_must (refine (small_yes _ a1 len1 cap1 x1 _ (H1.out.keep hbb) HG1.out).mono ?_); rintro e wc ⟨rfl, hbc⟩; have hbc := hbb.trans (hbc.mono hbb.size)))
    go_ret
    exact ⟨rfl, hbd⟩
  have hl2 : 0 < len2 := by omega
  have hl2z : ((len2 : Int) == 0) = false := by simp; omega
  have hG0 := good_new (i := i0) (t := t0) (m := m0) (d := d0) H0.out.1.1 H0.out.2.1.1 H0.out.2.1.2 H0.out.2.2.1.2.2.2.1 (by have := H0.out.2.2.1.1; omega) (by have := H0.out.2.2.2.1; omega)
  have hx1n : x1.length = len1 := H1.out.1
  have hx2n : x2.length = len2 := H2.out.1
  have hG1 := good_app hG0 (ents_small H1.out HG1.out) (by have := HG1.out.1; simp; omega)
  have hn1 := appL_len ⟨⟨capI i0, t0, m0, d0⟩, [], 0, false⟩ (x1.map MEnt.e)
  rw [List.length_map, hx1n] at hn1
  have hn1' : (appL ⟨⟨capI i0, t0, m0, d0⟩, [], 0, false⟩ (x1.map MEnt.e)).2.es.length ≤ 12 := by have := HG1.out.1; simp at hn1; omega
  have HNew := hide (fun (W : World) (hW : Below w.heap.size w W) => new_any (fun _ => False) i0 t0 ma0 mn0 mc0 m0 da0 dn0 dc0 d0 W (fun _ h => h.elim) (H0.out.2.2.1.keep hW) (H0.out.2.2.2.keep hW) (by omega) (by omega))
  have HApp1 := hide (fun (p B : Nat) (W : World) (hW : Below w.heap.size w W) (hp : w.heap.size ≤ p) (hL : IsL (fun k => False ∨ k = p) W B p ⟨⟨capI i0, t0, m0, d0⟩, [], 0, false⟩) (hB : B ≤ W.heap.size) => app_any (fun k => False ∨ k = p) B p ⟨⟨capI i0, t0, m0, d0⟩, [], 0, false⟩ a1 len1 cap1 x1 W hL hG0 ((H1.out.more (Y := fun k => k = p) (fun k hk => .inr (by omega))).keep hW) (by rcases H1.out.2.2.2.2 with h | ⟨g, off, e, hg, _⟩; (exact .inl h); exact .inr (fun y hy => by rw [e] at hy; cases hy; show g ≠ p; omega)) (by have := HG1.out.1; omega) (fun m hm => by have := HG1.out.2 m hm; omega) (by simp) (fun k hk => by have := hL.at; rcases hk with h | h; (exact h.elim); omega) hB)
  have HApp2 := hide (fun (X : Nat → Prop) (p B : Nat) (L1 : LogS) (hG1 : L1.Good) (hn : L1.es.length ≤ 12) (W : World) (hW : Below w.heap.size w W) (hp : w.heap.size ≤ p) (hL : IsL X W B p L1) (hX : ∀ k, X k → k < W.heap.size) (hB : B ≤ W.heap.size) => app_any X B p L1 a2 len2 cap2 x2 W hL hG1 ((H2.out.more (Y := fun k => k = p) (fun k hk => .inr (by omega))).keep hW) (by rcases H2.out.2.2.2.2 with h | ⟨g, off, e, hg, _⟩; (exact .inl h); exact .inr (fun y hy => by rw [e] at hy; cases hy; show g ≠ p; omega)) (by have := HG2.out.1; omega) (fun m hm => by have := HG2.out.2 m hm; omega) (by omega) hX hB)
  generalize hL1 : (appL ⟨⟨capI i0, t0, m0, d0⟩, [], 0, false⟩ (x1.map MEnt.e)).2 = L1 at *
  have HL1 := hide hL1
  have HG := hide hG1
  have HN1 := hide hn1'
  have j0 := hG1.i0
  have j1 := hG1.i1
  clear hL1 hG0 hG1 hn1 hn1' g0 g1 g2 hx1n hx2n H0w
  by_cases hF : Fits L1 (x2.map MEnt.e)
  · have HF := hide hF
    have hA2 := appL_yes (es_ne H2.out.1 hl2) hF
    have hG2 := good_app HG.out (ents_small H2.out HG2.out) (by have := HN1.out; have := HG2.out.1; rw [List.length_map, H2.out.1]; omega)
    have hn2 := appL_len L1 (x2.map MEnt.e)
    rw [List.length_map, H2.out.1] at hn2
    obtain ⟨k0, hk0⟩ : ∃ k0 : Nat, ((x2.map MEnt.e).getD 0 ent0).i = L1.s.i + 1 + k0 := ⟨(((x2.map MEnt.e).getD 0 ent0).i - (L1.s.i + 1)).toNat, by have := hF.1; omega⟩
    have hkn : (((x2.map MEnt.e).getD 0 ent0).i - (L1.s.i + 1)).toNat = k0 := by omega
    have hke : k0 ≤ L1.es.length := by have := hF.2.1; omega
    rw [hkn] at hA2
    rw [hA2] at hG2 hn2
    rw [getD_map_e] at hk0 hA2 hG2 hn2
    generalize hL2 : LogS.mk L1.s (L1.es.take k0 ++ x2.map MEnt.e) _ L1.fresh = L2 at *
    have HLs : Hid (L2.s.i = L1.s.i) := by rw [← hL2]; rfl
    have HLe : Hid (L2.es = L1.es.take k0 ++ x2.map MEnt.e) := by rw [← hL2]; rfl
    have HA2 := hide hA2
    have HEnt4 := hide (fun (B p : Nat) X (W : World) (h : IsL X W B p L2) => ents_any X B p L2 (L1.s.i + 1) 100 W h hG2 (by omega) (by omega) (by omega))
    have hal : entsL L2 (L1.s.i + 1) 100 = L2.es := by rw [← HLs.out]; exact entsL_all (by have := HG2.out.1; have := HN1.out; dsimp only at hn2; omega) (by omega)
    rw [hal] at HEnt4
    obtain ⟨g2, off2, hga, hg2, hC2⟩ := H2.out.at hl2
    have q2 := (hC2 0 (by have := H2.out.1; omega)).1
    rw [Nat.zero_mul, Nat.add_zero, hk0] at q2
    have HQ2 := hide q2
    have HGA := hide hga
    clear hF hA2 hG2 hn2 hkn hL2 hal hC2 q2 hk0 hga
    go_enter Try.func7, Try.ntmps7
    go_wp2_with (first
      | (go_at_call 8; refine (rlawake_any _).mono ?_; rintro e wa ⟨rfl, hba0⟩; obtain ⟨p0, p1, p2, p3, pf0⟩ := HBx.out.keep hba0 (by simp); have pf := hide pf0; clear pf0; have hba := (new_below _ _).trans (hba0.mono (by simp)); clear hba0)
      | (go_at_call 9; go_must (refine (smallS_yes i0 t0 ma0 mn0 mc0 da0 dn0 dc0 _ HS0.out.1 HS0.out.2).mono ?_); rintro e wb ⟨rfl, hbb0⟩; obtain ⟨p0b, p1b, p2b, p3b, -⟩ := (Box4.keep (w := wa) ⟨p0, p1, p2, p3, pf.out⟩ hbb0 (World.block_lt_of_cell? _ ⟨w.heap.size, 0, none⟩ p0)); have hbb := hba.trans (hbb0.mono hba.size); have HXb : Hid (Box4 wb w.heap.size _ _ _ _) := (Box4.keep (w := wa) ⟨p0, p1, p2, p3, pf.out⟩ hbb0 (World.block_lt_of_cell? _ ⟨w.heap.size, 0, none⟩ p0)); clear hbb0)
      | (go_at_call_of 12 cap2; refine (small_yes _ a2 len2 cap2 x2 _ (H2.out.keep hbc) HG2.out).mono ?_; rintro e wd ⟨rfl, hbd0⟩; obtain ⟨r0, r1, r2, r3, -⟩ := HXc.out.keep hbd0 (World.block_lt_of_cell? _ ⟨w.heap.size, 0, none⟩ HXc.out.1); have hbd := hbc.trans (hbd0.mono hbc.size); clear hbd0)
      | (go_at_call_of 12 cap1; go_must (refine (small_yes _ a1 len1 cap1 x1 _ (H1.out.keep hbb) HG1.out).mono ?_); rintro e wc ⟨rfl, hbc0⟩; have HXc := hide (HXb.out.keep hbc0 (World.block_lt_of_cell? _ ⟨w.heap.size, 0, none⟩ HXb.out.1)); have hbc := hbb.trans (hbc0.mono hbb.size); clear hbc0)
      | (go_at_call 10; go_must (refine (HNew.out _ hbd).mono ?_); rintro e wn ⟨p, rfl, hpn, hLn, hbn0⟩; have HLn := hide hLn; have hbn := hbd.trans (hbn0.mono hbd.size); have hwp : w.heap.size ≤ p := Nat.le_trans hbd.size hpn; have HBn := hide hbn0.size; clear hLn hbn0)
      | (go_at_call_of 13 cap2; go_must (refine (HApp2.out _ p wd.heap.size L1 HG.out HN1.out _ hb3 hwp HL3.out HX3.out HB3.out).mono ?_); rintro e w4 ⟨rfl, hL4, hP4⟩; rw [HA2.out] at hL4 ⊢; dsimp only at hL4; have hS3 : ∀ k, SB 4 w3 p k → k < w2.heap.size := (fun k hk => (HL2.out.lt (hk.same (HQ3.out.block p HL2.out.at))).1); have HI34 := hide ((HM3.out.lies hP4.1 (fun k hk => .inl (hS3 k hk)) (.inr (fun y hy hk => (by have h8 := hS3 _ hk; have h9 := HBlk3.out y hy; omega)))).more (Y := fun _ => False) (fun k hk => hk.elim)); have hb4 := hb3.trans ((HL3.out.below hP4 HB3.out).mono hbd.size); have hc4 := hL4; obtain ⟨-, -, -, -, -, -, -, -, -, -, c04, -⟩ := hc4; rw [HLs.out] at c04; have HL4 := hide hL4; have HB4 := hide (Nat.le_trans HB3.out hP4.size); clear hL4 hP4)
      | (go_at_call_of 13 cap1; go_must (refine (HApp1.out p wd.heap.size _ hbn hwp HLn.out HBn.out).mono ?_); rintro e w2 ⟨rfl, hL2, hP2⟩; have hb2 := hbn.trans ((HLn.out.below hP2 HBn.out).mono hbd.size); have hc2 := hL2; obtain ⟨-, -, -, -, -, -, -, -, -, -, c02, -⟩ := hc2; have HL2 := hide hL2; have HX2 : Hid (∀ k, ((False ∨ k = p) ∨ SB 4 w2 p k) → k < w2.heap.size) := (fun k hk => (by rcases hk with (h | h) | h; (exact h.elim); (subst h; exact hL2.at); exact (hL2.lt h).1)); have HB2 := hide (Nat.le_trans HBn.out hP2.size); clear hL2 hP2)
      | (go_at_call 33; refine (first_any p L1.s.i _ (by exact c04) j0 j1).mono ?_; rintro e w' ⟨rfl, hw⟩; have hw := hw.symm; subst hw)
      | (go_at_call 33; go_must (refine (first_any p L1.s.i _ (by exact c02) j0 j1).mono ?_); rintro e w' ⟨rfl, hw⟩; have hw := hw.symm; subst hw)
      | (go_at_call 32; refine (HEnt4.out _ _ _ _ HL4.out).mono ?_; rintro e w5 ⟨b5, n5, c5, ms5, rfl, hE5, hr5, ho5, hb50⟩; have hb5 := hb4.trans (hb50.mono hb4.size); obtain ⟨hI5, hn5⟩ := outE_is hE5 hr5 ho5; have HI5 := hide hI5; have HE5 := hide hE5; have HI35 := hide (HI34.out.keep hb50); have HN5 := hide hn5; clear hE5 hr5 ho5 hI5 hn5)
      | (go_at_call 32; go_must (refine (ents_any _ wd.heap.size p L1 (L1.s.i + 1) 100 _ HL2.out HG.out (by omega) (by omega) (by omega)).mono ?_); rintro e w3 ⟨b3, n3, c3, ms3, rfl, hE3, hr3, ho3, hb30⟩; rw [entsL_all (by have := HN1.out; omega) (by omega)] at hE3; have hb3 := hb2.trans (hb30.mono hb2.size); obtain ⟨hI3, hn3⟩ := outE_is hE3 hr3 ho3; have HQ3 := hide hb30; have HM3 := hide (hr3.is ho3); have HBlk3 : Hid (∀ y, b3 = some y → w2.heap.size ≤ y.block) := (fun y hy => (hr3.lt y.block (by rw [hy]; rfl)).1); have HE3 := hide hE3; have HL3 := hide (HL2.out.keep hb30); have HX3 : Hid (∀ k, ((False ∨ k = p) ∨ SB 4 w2 p k) → k < w3.heap.size) := (fun k hk => Nat.lt_of_lt_of_le (HX2.out k hk) hb30.size); have HB3 := hide (Nat.le_trans HB2.out hb30.size); have HN3 := hide hn3; clear hE3 hr3 ho3 hI3 hb30 hn3))
    have hga := HGA.out
    subst hga
    have q25 := (hb5.cell (p := ⟨g2, off2, none⟩) hg2).trans HQ2.out
    have hkn3 : k0 ≤ n3 := by rw [HN3.out]; exact hke
    have hn3s : n3 ≤ 12 := by rw [HN3.out]; exact HN1.out
    have HAt3 : Hid (∀ k, k < n3 → (ms3.getD k ment0).e.i = L1.s.i + 1 + k) := by
      intro k hk
      rw [← getD_map_e, HE3.out]
      exact HG.out.at_ k (by rw [← HN3.out]; exact hk)
    have HM35 := hide HI35.out.1
    have hn5v : n5 = k0 + len2 := by rw [HN5.out, HLe.out, List.length_append, List.length_take, List.length_map, H2.out.1, ← HN3.out]; omega
    obtain ⟨b6, hs6, hI6⟩ := isM_cutTo HI5.out k0 (by omega) .i64 (k0 : Int) rfl
    obtain ⟨b7, hs7, hI7⟩ := isM_cutTo HI35.out k0 hkn3 .i64 (k0 : Int) rfl
    obtain ⟨b8, hs8, hI8⟩ := isM_cutFrom HI5.out k0 len2 (c5 - k0) hn5v.symm (by have := HI5.out.2.1; omega) .i64 (k0 : Int) rfl
    have hE6 : (ms5.take k0).map MEnt.e = (ms3.take k0).map MEnt.e := by rw [List.map_take, List.map_take, HE5.out, HE3.out, HLe.out, List.take_append_of_le_length (by rw [List.length_take, ← HN3.out]; omega), List.take_take, Nat.min_self]
    have hE8 : (ms5.drop k0).map MEnt.e = x2.map MEnt.e := by rw [List.map_drop, HE5.out, HLe.out, List.drop_append_of_le_length (by rw [List.length_take, ← HN3.out]; omega), List.drop_take, Nat.sub_self, List.take_zero, List.nil_append]
    have HS6 := hide (fun (W : World) (hW : Below w5.heap.size w5 W) => sameE_any _ _ b6 b7 k0 c5 c3 _ _ W (hI6.keep hW) (hI7.keep hW) hE6)
    have HS8 := hide (fun (W : World) (hW : Below w5.heap.size w5 W) => sameE_any _ _ b8 (some ⟨g2, off2, none⟩) len2 (c5 - k0) cap2 _ _ W (hI8.keep hW) ((H2.out.keep hb5).keep hW) hE8)
    have hn5e : (n5 : Int) = (k0 : Int) + (len2 : Int) := by omega
    have HN5e := hide hn5e
    have hl12 : len2 ≤ 12 := HG2.out.1
    clear hke hE6 hE8 hI6 hI7 hI8 hn5v hn5e
    generalize hf : L1.s.i + 1 + (k0 : Int) = f at q25
    have HFv := hide hf
    clear hf
    go_loopw [10] (fun i wr => ∃ k : Nat, k ≤ k0 ∧ i = .int .i64 k ∧ Below w5.heap.size w5 wr) (fun i _ => k0 - (intOf i).toNat)
    case atStart => exact ⟨0, Nat.zero_le _, rfl, Below.refl _ _⟩
    case round =>
      obtain ⟨k, hk, rfl, hb⟩ := hrel
      have hg25 : g2 < w5.heap.size := Nat.lt_of_lt_of_le hg2 hb5.size
      have q2r := (hb.cell (p := ⟨g2, off2, none⟩) hg25).trans q25
      by_cases hlt : k < n3
      · obtain ⟨g3, off3, rfl, hg3, hC3⟩ := HI35.out.at hlt
        have q3 := ((hC3 k (by have := HM35.out; omega)).same (hb.block g3 hg3)).1
        rw [HAt3.out k hlt] at q3
        clear hC3
        have hd1 : decide ((k : Int) < (n3 : Int)) = true := decide_eq_true (by omega)
        by_cases hkk : k < k0
        · have hd2 : decide (L1.s.i + 1 + (k : Int) < f) = true := decide_eq_true (by have := HFv.out; omega)
          go_wp2
          go_quiet (fail)
          go_wp2
          go_roundw
          case rel => exact ⟨k + 1, by omega, by go_num, hb.trans ⟨rfl, rfl, rfl, Nat.le_refl _, fun _ _ => rfl⟩⟩
          case measure => simp [intOf]; omega
        · have hkk0 : k = k0 := by omega
          subst hkk0
          have hd2 : decide (L1.s.i + 1 + (k : Int) < f) = false := decide_eq_false (by have := HFv.out; omega)
          go_wp2
          go_quiet (fail)
          go_wp2
          have hwn : IntKind.i64.wrap ((k : Int) + (len2 : Int)) = (n5 : Int) := by rw [HN5e.out]; simp [IntKind.wrap, IntKind.bits, IntKind.signed]; omega
          go_region_held (fun _ => True) (trivial) (first
            | (go_at_call_of 35 b8; refine (HS8.out _ (by exact hb9)).mono ?_; rintro e wz ⟨rfl, hbz⟩)
            | (go_at_call_of 35 b6; go_must (refine (HS6.out _ (by exact hb.trans ⟨rfl, rfl, rfl, Nat.le_refl _, fun _ _ => rfl⟩)).mono ?_); rintro e wy ⟨rfl, hby⟩; have hb9 := hb.trans ((⟨hby.os, hby.tape, hby.output, hby.size, hby.block⟩ : Below wr.heap.size wr wy).mono hb.size)))
          all_goals
            go_wp2
            go_ret
            exact ⟨rfl, hb5.trans ((hb9.trans (hbz.mono hb9.size)).mono hb5.size)⟩
      · have hkk0 : k = k0 := by omega
        subst hkk0
        have hd1 : decide ((k : Int) < (n3 : Int)) = false := decide_eq_false (by omega)
        go_wp2
        go_quiet (fail)
        go_wp2
        have hwn : IntKind.i64.wrap ((k : Int) + (len2 : Int)) = (n5 : Int) := by rw [HN5e.out]; simp [IntKind.wrap, IntKind.bits, IntKind.signed]; omega
        go_region_held (fun _ => True) (trivial) (first
          | (go_at_call_of 35 b8; refine (HS8.out _ (by exact hb9)).mono ?_; rintro e wz ⟨rfl, hbz⟩)
          | (go_at_call_of 35 b6; go_must (refine (HS6.out _ (by exact hb.trans ⟨rfl, rfl, rfl, Nat.le_refl _, fun _ _ => rfl⟩)).mono ?_); rintro e wy ⟨rfl, hby⟩; have hb9 := hb.trans ((⟨hby.os, hby.tape, hby.output, hby.size, hby.block⟩ : Below wr.heap.size wr wy).mono hb.size)))
        all_goals
          go_wp2
          go_ret
          exact ⟨rfl, hb5.trans ((hb9.trans (hbz.mono hb9.size)).mono hb5.size)⟩
  · have HA2 := hide (appL_no (es_ne H2.out.1 hl2) hF)
    have HEnt4 := hide (fun (B p : Nat) X (W : World) (h : IsL X W B p L1) => ents_any X B p L1 (L1.s.i + 1) 100 W h HG.out (by omega) (by omega) (by omega))
    clear hF
    go_enter Try.func7, Try.ntmps7
    go_wp2_with (first
      | (go_at_call 35; go_must (refine (sameE_any _ _ b5 b3 n5 c5 c3 ms5 ms3 _ HI5.out HI35.out (HE5.out.trans HE3.out.symm)).mono ?_); rintro e w6 ⟨rfl, hb6⟩)
      | (go_at_call 8; refine (rlawake_any _).mono ?_; rintro e wa ⟨rfl, hba0⟩; obtain ⟨p0, p1, p2, p3, pf0⟩ := HBx.out.keep hba0 (by simp); have pf := hide pf0; clear pf0; have hba := (new_below _ _).trans (hba0.mono (by simp)); clear hba0)
      | (go_at_call 9; go_must (refine (smallS_yes i0 t0 ma0 mn0 mc0 da0 dn0 dc0 _ HS0.out.1 HS0.out.2).mono ?_); rintro e wb ⟨rfl, hbb0⟩; obtain ⟨p0b, p1b, p2b, p3b, -⟩ := (Box4.keep (w := wa) ⟨p0, p1, p2, p3, pf.out⟩ hbb0 (World.block_lt_of_cell? _ ⟨w.heap.size, 0, none⟩ p0)); have hbb := hba.trans (hbb0.mono hba.size); have HXb : Hid (Box4 wb w.heap.size _ _ _ _) := (Box4.keep (w := wa) ⟨p0, p1, p2, p3, pf.out⟩ hbb0 (World.block_lt_of_cell? _ ⟨w.heap.size, 0, none⟩ p0)); clear hbb0)
      | (go_at_call_of 12 cap2; refine (small_yes _ a2 len2 cap2 x2 _ (H2.out.keep hbc) HG2.out).mono ?_; rintro e wd ⟨rfl, hbd0⟩; obtain ⟨r0, r1, r2, r3, -⟩ := HXc.out.keep hbd0 (World.block_lt_of_cell? _ ⟨w.heap.size, 0, none⟩ HXc.out.1); have hbd := hbc.trans (hbd0.mono hbc.size); clear hbd0)
      | (go_at_call_of 12 cap1; go_must (refine (small_yes _ a1 len1 cap1 x1 _ (H1.out.keep hbb) HG1.out).mono ?_); rintro e wc ⟨rfl, hbc0⟩; have HXc := hide (HXb.out.keep hbc0 (World.block_lt_of_cell? _ ⟨w.heap.size, 0, none⟩ HXb.out.1)); have hbc := hbb.trans (hbc0.mono hbb.size); clear hbc0)
      | (go_at_call 10; go_must (refine (HNew.out _ hbd).mono ?_); rintro e wn ⟨p, rfl, hpn, hLn, hbn0⟩; have HLn := hide hLn; have hbn := hbd.trans (hbn0.mono hbd.size); have hwp : w.heap.size ≤ p := Nat.le_trans hbd.size hpn; have HBn := hide hbn0.size; clear hLn hbn0)
      | (go_at_call_of 13 cap2; go_must (refine (HApp2.out _ p wd.heap.size L1 HG.out HN1.out _ hb3 hwp HL3.out HX3.out HB3.out).mono ?_); rintro e w4 ⟨rfl, hL4, hP4⟩; rw [HA2.out] at hL4 ⊢; have hS3 : ∀ k, SB 4 w3 p k → k < w2.heap.size := (fun k hk => (HL2.out.lt (hk.same (HQ3.out.block p HL2.out.at))).1); have HI34 := hide ((HM3.out.lies hP4.1 (fun k hk => .inl (hS3 k hk)) (.inr (fun y hy hk => (by have h8 := hS3 _ hk; have h9 := HBlk3.out y hy; omega)))).more (Y := fun _ => False) (fun k hk => hk.elim)); have hb4 := hb3.trans ((HL3.out.below hP4 HB3.out).mono hbd.size); have hc4 := hL4; obtain ⟨-, -, -, -, -, -, -, -, -, -, c04, -⟩ := hc4; have HL4 := hide hL4; have HB4 := hide (Nat.le_trans HB3.out hP4.size); clear hL4 hP4)
      | (go_at_call_of 13 cap1; go_must (refine (HApp1.out p wd.heap.size _ hbn hwp HLn.out HBn.out).mono ?_); rintro e w2 ⟨rfl, hL2, hP2⟩; have hb2 := hbn.trans ((HLn.out.below hP2 HBn.out).mono hbd.size); have hc2 := hL2; obtain ⟨-, -, -, -, -, -, -, -, -, -, c02, -⟩ := hc2; have HL2 := hide hL2; have HX2 : Hid (∀ k, ((False ∨ k = p) ∨ SB 4 w2 p k) → k < w2.heap.size) := (fun k hk => (by rcases hk with (h | h) | h; (exact h.elim); (subst h; exact hL2.at); exact (hL2.lt h).1)); have HB2 := hide (Nat.le_trans HBn.out hP2.size); clear hL2 hP2)
      | (go_at_call 33; refine (first_any p L1.s.i _ (by exact c04) j0 j1).mono ?_; rintro e w' ⟨rfl, hw⟩; have hw := hw.symm; subst hw)
      | (go_at_call 33; go_must (refine (first_any p L1.s.i _ (by exact c02) j0 j1).mono ?_); rintro e w' ⟨rfl, hw⟩; have hw := hw.symm; subst hw)
      | (go_at_call 32; refine (HEnt4.out _ _ _ _ HL4.out).mono ?_; rintro e w5 ⟨b5, n5, c5, ms5, rfl, hE5, hr5, ho5, hb50⟩; rw [entsL_all (by have := HN1.out; omega) (by omega)] at hE5; have hb5 := hb4.trans (hb50.mono hb4.size); obtain ⟨hI5, hn5⟩ := outE_is hE5 hr5 ho5; have HI5 := hide hI5; have HE5 := hide hE5; have HI35 := hide (HI34.out.keep hb50); have e53 : n5 = n3 := hn5.trans HN3.out.symm; subst e53; clear hE5 hr5 ho5 hI5 hn5)
      | (go_at_call 32; go_must (refine (ents_any _ wd.heap.size p L1 (L1.s.i + 1) 100 _ HL2.out HG.out (by omega) (by omega) (by omega)).mono ?_); rintro e w3 ⟨b3, n3, c3, ms3, rfl, hE3, hr3, ho3, hb30⟩; rw [entsL_all (by have := HN1.out; omega) (by omega)] at hE3; have hb3 := hb2.trans (hb30.mono hb2.size); obtain ⟨hI3, hn3⟩ := outE_is hE3 hr3 ho3; have HQ3 := hide hb30; have HM3 := hide (hr3.is ho3); have HBlk3 : Hid (∀ y, b3 = some y → w2.heap.size ≤ y.block) := (fun y hy => (hr3.lt y.block (by rw [hy]; rfl)).1); have HE3 := hide hE3; have HL3 := hide (HL2.out.keep hb30); have HX3 : Hid (∀ k, ((False ∨ k = p) ∨ SB 4 w2 p k) → k < w3.heap.size) := (fun k hk => Nat.lt_of_lt_of_le (HX2.out k hk) hb30.size); have HB3 := hide (Nat.le_trans HB2.out hb30.size); have HN3 := hide hn3; clear hE3 hr3 ho3 hI3 hb30 hn3))
    go_ret
    exact ⟨rfl, hb5.trans (hb6.mono hb5.size)⟩

end Go.Proofs.Ytjeijeaogdednaa
