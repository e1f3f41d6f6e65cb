/- RlogDoes. -/
import Derived.Test.YtjeijeaogdednaaPair8
namespace Go.Proofs.Ytjeijeaogdednaa
open Go.RowKit NumMath
set_option linter.unusedVariables false
set_option maxRecDepth 100000

theorem two_new {w1 w2 : World} {base B p q : Nat} {L : LogS} (h1 : IsL (fun k => False ∨ k = p) w1 B p L) (hb : Below w1.heap.size w1 w2) (h2 : IsL (fun k => base ≤ k ∨ k = q) w2 w1.heap.size q L) (hp : base ≤ B) (hB : B ≤ w1.heap.size) (hG : L.Good) (hl : L.es.length = 0) (ht : L.s.i ≤ 4611686018427387904) : Two8 w2 base p q L 0 := by
  have o : Off2 4 4 w2 p q := by
    intro k hk hk'
    have e1 := hk.same (hb.block p h1.at)
    have := (h1.lt e1).1
    have := (h2.lt hk').2.1
    omega
  have a1 : ∀ k, SB 4 w2 p k → k = p := fun k hk => ((h1.keep hb).lt hk).2.2.elim (fun h => h.elim) id
  have a2 : ∀ k, SB 4 w2 q k → w1.heap.size ≤ k := fun k hk => (h2.lt hk).2.1
  refine ⟨?_, ?_, o, hG, by omega, by omega⟩
  · refine IsL.mono (IsL.keep (IsL.more (Y := fun k => k = p ∨ w1.heap.size ≤ k) h1 ?_ ?_) hb |>.more (Y := XB w2 p q) ?_ (fun k hk => .inl hk)) hp
    · rintro k (h | h)
      · exact .inl (.inr h)
      · exact .inr h
    · intro k hk
      exact (h1.lt hk).2.2.elim (fun h => h.elim) .inl
    · rintro k (h | h)
      · exact .inl (.inl (a1 k h))
      · exact .inl (.inr (a2 k h))
  · refine IsL.mono (h2.more (Y := XB w2 p q) ?_ (fun k hk => .inr hk)) (Nat.le_trans hp hB)
    rintro k (h | h)
    · have h3 := (h1.lt (h.same (hb.block p h1.at))).2.1
      exact .inl (.inl (Nat.le_trans hp h3))
    · exact .inl (.inl (Nat.le_trans (Nat.le_trans hp hB) (a2 k h)))

theorem capI_le (i : Int) : capI i ≤ 4611686018427387904 := by unfold capI; split <;> omega

set_option maxHeartbeats 400000 in
theorem rldoes_any (i0 t0 : Int) (ma0 : Option Addr) (mn0 mc0 : Nat) (m0 : List Int) (da0 : Option Addr) (dn0 dc0 : Nat) (d0 : List Int) (a1 : Option Addr) (len1 cap1 : Nat) (x1 : List Deed8) (w : World) (w0 : IsSnap w i0 t0 ma0 mn0 mc0 m0 da0 dn0 dc0 d0) (w1 : IsDeeds8 w a1 len1 cap1 x1) :
    Calls Try.prog 3 #[.agg #[.int .u64 i0, .int .u64 t0, .slice ma0 mn0 mc0, .slice da0 dn0 dc0], .slice a1 len1 cap1] w fun e w' => e = .returned (.bool true) ∧ Below w.heap.size w w' := by
  have H0 := hide w0
  have H1 := hide w1
  have hm1 : (len1 : Int) ≤ 9223372036854775807 := by have := w1.2.1; have := w1.2.2.1; unfold maxLen at this; omega
  have HBx := hide (box4_new w (.int .u64 i0) (.int .u64 t0) (.slice ma0 mn0 mc0) (.slice da0 dn0 dc0) 26 _ rfl)
  clear w0 w1
  have H0w := H0.out
  by_cases g0 : ¬ ((mn0 : Int) ≤ 9 ∧ (dn0 : Int) ≤ 200)
  · go_enter Try.func3, Try.ntmps3
    go_wp2_with (first
      | (go_at_call 8; refine (rlawake_any _).mono ?_; rintro e wa ⟨rfl, hba0⟩; obtain ⟨p0, p1, p2, p3, pf0⟩ := HBx.out.keep hba0 (by simp); have pf := hide pf0; clear pf0; have hba := (new_below _ _).trans (hba0.mono (by simp)); clear hba0)
      | (go_at_call 9; go_must (refine (smallS_no i0 t0 ma0 mn0 mc0 da0 dn0 dc0 _ g0).mono ?_); rintro e wb ⟨rfl, hbb⟩))
    go_ret
    exact ⟨rfl, hba.trans (hbb.mono hba.size)⟩
  have g0 := Classical.not_not.1 g0
  by_cases g1 : (20 : Int) < (len1 : Int)
  · go_enter Try.func3, Try.ntmps3
    go_wp2_with (first
      | (go_at_call 8; refine (rlawake_any _).mono ?_; rintro e wa ⟨rfl, hba0⟩; obtain ⟨p0, p1, p2, p3, pf0⟩ := HBx.out.keep hba0 (by simp); have pf := hide pf0; clear pf0; have hba := (new_below _ _).trans (hba0.mono (by simp)); clear hba0)
      | (go_at_call 9; go_must (refine (smallS_yes i0 t0 ma0 mn0 mc0 da0 dn0 dc0 _ g0.1 g0.2).mono ?_); rintro e wb ⟨rfl, hbb⟩))
    go_ret
    exact ⟨rfl, hba.trans (hbb.mono hba.size)⟩
  have hG0 := good_new (i := i0) (t := t0) (m := m0) (d := d0) H0.out.1.1 H0.out.2.1.1 H0.out.2.1.2 H0.out.2.2.1.2.2.2.1 (by have := H0.out.2.2.1.1; omega) (by have := H0.out.2.2.2.1; omega)
  have HG0 := hide hG0
  have HNew := hide (fun (W : World) (hW : Below w.heap.size w W) => new_any (fun _ => False) i0 t0 ma0 mn0 mc0 m0 da0 dn0 dc0 d0 W (fun _ h => h.elim) (H0.out.2.2.1.keep hW) (H0.out.2.2.2.keep hW) (by omega) (by omega))
  have HXew := hide (fun (W : World) (hW : Below w.heap.size w W) => xnew_any (fun k => w.heap.size ≤ k) i0 t0 ma0 mn0 mc0 m0 da0 dn0 dc0 d0 W ⟨H0.out.2.2.1.keep hW, by rcases H0.out.2.2.1.2.2.2.2 with h | ⟨g, off, e, hg, _⟩; (exact .inl h); exact .inr (fun y hy hk => by rw [e] at hy; cases hy; dsimp only at hk; omega)⟩ (dat_off H0.out.2.2.2 hW (fun k hk => hk)))
  have g01 := g0.1
  have g02 := g0.2
  clear hG0 g0 H0w
  go_enter Try.func3, Try.ntmps3
  go_wp2_with (first
    | (go_at_call 8; refine (rlawake_any _).mono ?_; rintro e wa ⟨rfl, hba0⟩; obtain ⟨p0, p1, p2, p3, pf0⟩ := HBx.out.keep hba0 (by simp); have pf := hide pf0; clear pf0; have hba := (new_below _ _).trans (hba0.mono (by simp)); clear hba0)
    | (go_at_call 9; go_must (refine (smallS_yes i0 t0 ma0 mn0 mc0 da0 dn0 dc0 _ g01 g02).mono ?_); rintro e wb ⟨rfl, hbb0⟩; obtain ⟨p0b, p1b, p2b, p3b, pfb⟩ := (Box4.keep (w := wa) ⟨p0, p1, p2, p3, pf.out⟩ hbb0 (World.block_lt_of_cell? _ ⟨w.heap.size, 0, none⟩ p0)); have pfb := hide pfb; have hbb := hba.trans (hbb0.mono hba.size); clear hbb0))
  have HBb := hide (show Box4 wb w.heap.size (.int .u64 i0) (.int .u64 t0) (.slice ma0 mn0 mc0) (.slice da0 dn0 dc0) from ⟨p0b, p1b, p2b, p3b, pfb.out⟩)
  have HBb4 : Hid (∀ W, Below wb.heap.size wb W → (W.cell? ⟨w.heap.size, 0, none⟩ = some (.int .u64 i0) ∧ W.cell? ⟨w.heap.size, 1, none⟩ = some (.int .u64 t0) ∧ W.cell? ⟨w.heap.size, 2, none⟩ = some (.slice ma0 mn0 mc0) ∧ W.cell? ⟨w.heap.size, 3, none⟩ = some (.slice da0 dn0 dc0))) := fun W hW => by
    obtain ⟨z0, z1, z2, z3, -⟩ := HBb.out.keep hW (World.block_lt_of_cell? _ ⟨w.heap.size, 0, none⟩ p0b)
    exact ⟨z0, z1, z2, z3⟩
  have hbN : Hid (Below wb.heap.size wb wb.drew) := (Below.refl _ _).drew
  have HBW := hide (fun (W : World) (h : Below wb.heap.size wb W) => hbb.trans (h.mono hbb.size))
  clear p0 p1 p2 p3 p0b p1b p2b p3b pf pfb HBb
  go_region_held3 (fun W => W.cell? ⟨w.heap.size, 0, none⟩ = some (.int .u64 i0) ∧ W.cell? ⟨w.heap.size, 1, none⟩ = some (.int .u64 t0) ∧ W.cell? ⟨w.heap.size, 2, none⟩ = some (.slice ma0 mn0 mc0) ∧ W.cell? ⟨w.heap.size, 3, none⟩ = some (.slice da0 dn0 dc0)) (with_reducible exact HBb4.out _ hbN.out) (first
    | (go_at_call 10; refine (HNew.out _ (by exact HBW.out _ hbN.out)).mono ?_; rintro e w3 ⟨p, rfl, hp, hL3, hb3⟩; have HL3 := hide hL3; have HP := hide hp; have hB3 : Hid (Below wb.heap.size wb w3) := hbN.out.trans (hb3.mono hbN.out.size); have hS3 := hide hb3.size; have hbN := hB3; clear hL3 hb3 hp)
    | (go_at_call 11; refine (HXew.out _ (by exact HBW.out _ hbN.out)).mono ?_; rintro e w4 ⟨q, rfl, hq, hL4, hb4⟩; have HT := hide (two_new (base := w.heap.size) HL3.out hb4 hL4 (by exact hbb.size) hS3.out HG0.out rfl (capI_le _)); have hbN : Hid (Below wb.heap.size wb w4) := hbN.out.trans (hb4.mono hbN.out.size); clear hL4 hb4 hq))
  all_goals
    have HB4 := hide (HBW.out _ hbN.out)
    clear HBb4 HBW hbN hB3 HL3 hS3 HNew HXew HG0 HP H0
    go_wp2
    go_loopw [27] (fun i wr => ∃ (k : Nat) (L : LogS), k ≤ len1 ∧ i = .int .i64 k ∧ Two8 wr w.heap.size p q L k ∧ Below w.heap.size w wr) (fun i _ => len1 - (intOf i).toNat)
    case atStart => exact ⟨0, _, Nat.zero_le _, rfl, HT.out, HB4.out⟩
    case round =>
      clear HT HB4
      obtain ⟨k, L, hk, rfl, htwo, hb⟩ := hrel
      have HT := hide htwo
      have hsz := hb.size
      clear htwo
      by_cases hlt : k < len1
      · obtain ⟨g, off, rfl, hg, hc⟩ := H1.out.at hlt
        have hk' : k < x1.length := by rw [H1.out.1]; exact hlt
        have hpok := H1.out.2.2.2.1 _ (deed8_mem x1 k hk')
        have hcp := (hc k hk').below hb hg
        generalize x1.getD k deed80 = pt at *
        obtain ⟨pk, la, ln, lc, ms, pi, da, dn, dc, d⟩ := pt
        obtain ⟨c0, c1, c2, c3⟩ := hcp
        obtain ⟨hpi, hpm, hpd⟩ := hpok
        dsimp only at *
        have HM := hide hpm
        have HD := hide hpd
        have hpx := hpi.1
        have hdm : (dn : Int) ≤ 9223372036854775807 := by have := hpd.2.1; have := hpd.2.2.1; unfold maxLen at this; omega
        clear hc hk' hpm hpd hpi
        have HBo := hide (box4_new wr (.int .i64 pk) (.slice la ln lc) (.int .u64 pi) (.slice da dn dc) 36 _ rfl)
        have HW1 := hide (new_below wr (.cells #[.int .i64 pk, .slice la ln lc, .int .u64 pi, .slice da dn dc] 36))
        have HbW := hide (hb.trans (HW1.out.mono hsz))
        by_cases g2 : ¬ SmallM ln ms
        · go_wp2_with (first
            | (go_at_call 12; go_must (refine (small_no _ la ln lc ms _ (HM.out.keep (by exact HbW.out)) g2).mono ?_); rintro e ws ⟨rfl, hbs⟩))
          go_ret
          exact ⟨rfl, HbW.out.trans (hbs.mono HbW.out.size)⟩
        have HSm := hide (Classical.not_not.1 g2)
        clear g2
        by_cases h200 : (200 : Int) < (dn : Int)
        · go_wp2_with (first
            | (go_at_call 12; go_must (refine (small_yes _ la ln lc ms _ (HM.out.keep (by exact HbW.out)) HSm.out).mono ?_); rintro e ws ⟨rfl, hbs⟩; obtain ⟨b0, b1, b2, b3, -⟩ := HBo.out.keep hbs (by simp)))
          go_ret
          exact ⟨rfl, HbW.out.trans (hbs.mono HbW.out.size)⟩
        have hdn : dn ≤ 200 := by omega
        have hk20 : k ≤ 20 := by omega
        by_cases h0 : pk = 0
        · subst h0
          have HA := hide (fun (W : World) (hT : Two8 W w.heap.size p q L k) (hW : Below w.heap.size w W) => app_two hT hW HM.out HSm.out hk20)
          have HX := hide (fun (W W1 : World) (hT : Two8 W w.heap.size p q L k) (hW : Below w.heap.size w W) hp ha => xapp_two (W1 := W1) hT hW HM.out HSm.out hk20 hp ha)
          generalize appL L (ms.map MEnt.e) = rr at *
          obtain ⟨er, L'⟩ := rr
          dsimp only at *
          go_wp2_with (first
            | (go_at_call 12; go_must (refine (small_yes _ la ln lc ms _ (HM.out.keep (by exact HbW.out)) HSm.out).mono ?_); rintro e ws ⟨rfl, hbs⟩; obtain ⟨b0, b1, b2, b3, -⟩ := HBo.out.keep hbs (by simp); have hbs2 : Below wr.heap.size wr ws := HW1.out.trans (hbs.mono HW1.out.size); have HTs := hide (HT.out.keep hbs2); have HFs := hide (HT.out.far hbs2); have HWs := hide (hb.trans (hbs2.mono hsz)); have hgs : wr.heap.size < ws.heap.size := World.block_lt_of_cell? _ ⟨wr.heap.size, 0, none⟩ b0; clear hbs hbs2))
          have hb1N : ws.drew.cell? ⟨wr.heap.size, 1, none⟩ = some (.slice la ln lc) := b1
          go_region_held3 (fun W => W.cell? ⟨wr.heap.size, 1, none⟩ = some (.slice la ln lc)) (first | with_reducible exact hb1N) (first
            | (go_at_call 13; refine (HA.out _ (HTs.out.keep (Below.refl _ ws).drew) (by exact HWs.out.drew)).mono ?_; rintro e w2 ⟨rfl, hL2, hp2⟩; have HL2 := hide hL2; have HP2 := hide hp2; have hb1N := (hp2.cell (g := wr.heap.size) (j := 1) hgs (fun h => HFs.out (.inl h))).trans b1; have hg2 := Nat.lt_of_lt_of_le hgs hp2.size; clear hL2 hp2)
            | (go_at_call 14; refine (HX.out _ _ (HTs.out.keep (Below.refl _ ws).drew) (by exact HWs.out.drew) HP2.out HL2.out).mono ?_; rintro e w3 ⟨rfl, hT3, hp3, hB3⟩; have HT3 := hide hT3; have HB3 := hide hB3; have hb1N := (hp3.cell (g := wr.heap.size) (j := 1) hg2 ((HTs.out.keep (Below.refl _ ws).drew).farM HP2.out HFs.out)).trans hb1N; clear hT3 hp3 hB3))
          all_goals
            clear HA HX HP2 HL2 HTs HFs HWs
            go_wp2_with (first
              | (go_at_call 18; go_must (refine (same_two HT3.out (by omega)).mono ?_); rintro e w9 ⟨rfl, hb9⟩; have HT9 := hide (HT3.out.keep hb9); have HB9 := hide (HB3.out.trans (hb9.mono HB3.out.size)); clear hb9))
            go_roundw
            case rel => exact ⟨k + 1, _, by omega, by go_num, HT9.out, HB9.out⟩
            case measure => simp [intOf]; omega
        have h0' : (pk == 0) = false := by simp [h0]
        by_cases h1 : pk = 1
        · subst h1
          have HA := hide (fun (W : World) (hT : Two8 W w.heap.size p q L k) (hW : Below w.heap.size w W) => comp_two (x := pi) hT hW HD.out hdn hpx)
          have HX := hide (fun (W W1 : World) (hT : Two8 W w.heap.size p q L k) (hW : Below w.heap.size w W) hp ha => xcomp_two (W1 := W1) (x := pi) hT hW HD.out hdn hpx hk20 hp ha)
          generalize compL L pi d = rr at *
          obtain ⟨er, L'⟩ := rr
          dsimp only at *
          go_wp2_with (first
            | (go_at_call 12; go_must (refine (small_yes _ la ln lc ms _ (HM.out.keep (by exact HbW.out)) HSm.out).mono ?_); rintro e ws ⟨rfl, hbs⟩; obtain ⟨b0, b1, b2, b3, -⟩ := HBo.out.keep hbs (by simp); have hbs2 : Below wr.heap.size wr ws := HW1.out.trans (hbs.mono HW1.out.size); have HTs := hide (HT.out.keep hbs2); have HFs := hide (HT.out.far hbs2); have HWs := hide (hb.trans (hbs2.mono hsz)); have hgs : wr.heap.size < ws.heap.size := World.block_lt_of_cell? _ ⟨wr.heap.size, 0, none⟩ b0; clear hbs hbs2))
          have hb1N : ws.drew.cell? ⟨wr.heap.size, 2, none⟩ = some (.int .u64 pi) := b2
          have hb2N : ws.drew.cell? ⟨wr.heap.size, 3, none⟩ = some (.slice da dn dc) := b3
          go_region_held3 (fun W => W.cell? ⟨wr.heap.size, 2, none⟩ = some (.int .u64 pi) ∧ W.cell? ⟨wr.heap.size, 3, none⟩ = some (.slice da dn dc)) (first | with_reducible exact ⟨hb1N, hb2N⟩) (first
            | (go_at_call 15; refine (HA.out _ (HTs.out.keep (Below.refl _ ws).drew) (by exact HWs.out.drew)).mono ?_; rintro e w2 ⟨rfl, hL2, hp2⟩; have HL2 := hide hL2; have HP2 := hide hp2; have hb1N := (hp2.cell (g := wr.heap.size) (j := 2) hgs (fun h => HFs.out (.inl h))).trans b2; have hb2N := (hp2.cell (g := wr.heap.size) (j := 3) hgs (fun h => HFs.out (.inl h))).trans b3; have hg2 := Nat.lt_of_lt_of_le hgs hp2.size; clear hL2 hp2)
            | (go_at_call 16; refine (HX.out _ _ (HTs.out.keep (Below.refl _ ws).drew) (by exact HWs.out.drew) HP2.out HL2.out).mono ?_; rintro e w3 ⟨rfl, hT3, hp3, hB3⟩; have HT3 := hide hT3; have HB3 := hide hB3; have hb1N := (hp3.cell (g := wr.heap.size) (j := 2) hg2 ((HTs.out.keep (Below.refl _ ws).drew).farM HP2.out HFs.out)).trans hb1N; have hb2N := (hp3.cell (g := wr.heap.size) (j := 3) hg2 ((HTs.out.keep (Below.refl _ ws).drew).farM HP2.out HFs.out)).trans hb2N; clear hT3 hp3 hB3))
          all_goals
            clear HA HX HP2 HL2 HTs HFs HWs
            go_wp2_with (first
              | (go_at_call 18; go_must (refine (same_two HT3.out (by omega)).mono ?_); rintro e w9 ⟨rfl, hb9⟩; have HT9 := hide (HT3.out.keep hb9); have HB9 := hide (HB3.out.trans (hb9.mono HB3.out.size)); clear hb9))
            go_roundw
            case rel => exact ⟨k + 1, _, by omega, by go_num, HT9.out, HB9.out⟩
            case measure => simp [intOf]; omega
        have h1' : (pk == 1) = false := by simp [h1]
        have HA := hide (fun (W : World) (hT : Two8 W w.heap.size p q L k) => clean_any (XB W p q) w.heap.size p L W hT.a)
        go_wp2_with (first
          | (go_at_call 17; go_must (refine (HA.out _ HTs.out).mono ?_); rintro e w2 ⟨rfl, hL2, hp2⟩; have hm2 := HTs.out.mid hp2; have HC2 := hide (clean_two HTs.out HWs.out hp2 hL2); obtain ⟨-, -, -, -, -, -, -, -, -, -, -, -, -, -, -, y5, y6, yf, -⟩ := hm2; have y5f := yf 5; have y6f := yf 6; clear hL2 hp2 yf)
          | (go_at_call 18; go_must (refine (same_two HC2.out.1 (by omega)).mono ?_); rintro e w9 ⟨rfl, hb9⟩; have HT9 := hide (HC2.out.1.keep hb9); have HB9 := hide (HC2.out.2.trans (hb9.mono HC2.out.2.size)); clear hb9)
          | (go_at_call 12; go_must (refine (small_yes _ la ln lc ms _ (HM.out.keep (by exact HbW.out)) HSm.out).mono ?_); rintro e ws ⟨rfl, hbs⟩; obtain ⟨b0, b1, b2, b3, -⟩ := HBo.out.keep hbs (by simp); have hbs2 : Below wr.heap.size wr ws := HW1.out.trans (hbs.mono HW1.out.size); have HTs := hide (HT.out.keep hbs2); have HFs := hide (HT.out.far hbs2); have HWs := hide (hb.trans (hbs2.mono hsz)); have hgs : wr.heap.size < ws.heap.size := World.block_lt_of_cell? _ ⟨wr.heap.size, 0, none⟩ b0; clear hbs hbs2))
        go_roundw
        case rel => exact ⟨k + 1, _, by omega, by go_num, HT9.out, HB9.out⟩
        case measure => simp [intOf]; omega
      · have hkn : k = len1 := by omega
        subst hkn
        go_wp2
        go_ret
        exact ⟨rfl, hb⟩

end Go.Proofs.Ytjeijeaogdednaa
