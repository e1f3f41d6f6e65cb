/- The law LockModes. few. -/
import Derived.Test.YtbnojmaknlfphaaDoorDrC
namespace Go.Proofs.YtbnojmaknlfphaaDoor
open Go.RowKit NumMath Go.ChangeShapes Go.WideShapes Go.Deep
set_option linter.unusedVariables false
set_option maxRecDepth 100000

set_option maxHeartbeats 8000000 in
theorem lmodes_any (a b : ML) (m n : Int) (w : World) (ha : a.handed w) (hb : b.handed w) (hF : FitW w) :
    Calls Tryd.prog 3 #[.agg #[.int .u64 a.l.tx, .int .i64 a.l.lv, .int .i64 a.l.md, .slice a.la a.ln a.lc, .slice a.ha a.hn a.hc], .agg #[.int .u64 b.l.tx, .int .i64 b.l.lv, .int .i64 b.l.md, .slice b.la b.ln b.lc, .slice b.ha b.hn b.hc], .int .i64 m, .int .i64 n] w fun e w' => e = .returned (.bool true) ∧ Below w.heap.size w w' := by
  obtain ⟨w2, hw2⟩ : ∃ W, W = (w.alloc (.cells #[.int .u64 a.l.tx, .int .i64 a.l.lv, .int .i64 a.l.md, .slice a.la a.ln a.lc, .slice a.ha a.hn a.hc] 25)).alloc (.cells #[.int .u64 b.l.tx, .int .i64 b.l.lv, .int .i64 b.l.md, .slice b.la b.ln b.lc, .slice b.ha b.hn b.hc] 25) := ⟨_, rfl⟩
  have hn : Below w.heap.size w w2 := by rw [hw2]; exact ((Below.refl _ w).alloc (Nat.le_refl _) _).alloc (by simp) _
  have hs2 : w2.heap.size = w.heap.size + 2 := by rw [hw2]; simp
  have HC : Hid (At5 w2 w.heap.size 0 a ∧ At5 w2 (w.heap.size + 1) 0 b) := by
    show _ ∧ _
    rw [hw2]
    exact ⟨(at5_new w a).same ((new_below _ (.cells #[.int .u64 b.l.tx, .int .i64 b.l.lv, .int .i64 b.l.md, .slice b.la b.ln b.lc, .slice b.ha b.hn b.hc] 25)).block _ (by simp)), at5_of (rangeY_new (w.alloc (.cells #[.int .u64 a.l.tx, .int .i64 a.l.lv, .int .i64 a.l.md, .slice a.la a.ln a.lc, .slice a.ha a.hn a.hc] 25)) (w.heap.size + 1) #[.int .u64 b.l.tx, .int .i64 b.l.lv, .int .i64 b.l.md, .slice b.la b.ln b.lc, .slice b.ha b.hn b.hc] 25 (by simp))⟩
  have HAw := hide (awake14_any w2 (hF.keep hn))
  have q1 : (a.ln : Int) ≤ 281474976710656 := by have := ha.2.2.1; omega
  have q2 : (a.hn : Int) ≤ 281474976710656 := by have := ha.2.2.2; omega
  have q3 : (b.ln : Int) ≤ 281474976710656 := by have := hb.2.2.1; omega
  have q4 : (b.hn : Int) ≤ 281474976710656 := by have := hb.2.2.2; omega
  have HAo2 := hide (ha.1.keep hn)
  have HBo2 := hide (hb.1.keep hn)
  have HF2 := hide (hF.keep hn)
  have HN := hide hn
  have HS2 := hide hs2
  clear ha hb hF hn hs2
  go_enter Tryd.func3, Tryd.ntmps3
  go_upto_region 1 with fail
  rw [← hw2]
  clear hw2
  go_upto_region 3 with (first
    | (go_at_call 9; go_must (refine HAw.out.mono ?_); rintro e w3 ⟨rfl, hb3⟩; have HB3 := hide hb3; clear hb3))
  have HV : Hid (∀ V, Below w3.heap.size w3 V → (V.cell? ⟨w.heap.size, 0, none⟩ = some (.int .u64 a.l.tx) ∧ V.cell? ⟨w.heap.size, 1, none⟩ = some (.int .i64 a.l.lv) ∧ V.cell? ⟨w.heap.size, 2, none⟩ = some (.int .i64 a.l.md) ∧ V.cell? ⟨w.heap.size, 3, none⟩ = some (.slice a.la a.ln a.lc) ∧ V.cell? ⟨w.heap.size, 4, none⟩ = some (.slice a.ha a.hn a.hc)) ∧ V.cell? ⟨w.heap.size + 1, 0, none⟩ = some (.int .u64 b.l.tx) ∧ V.cell? ⟨w.heap.size + 1, 1, none⟩ = some (.int .i64 b.l.lv) ∧ V.cell? ⟨w.heap.size + 1, 2, none⟩ = some (.int .i64 b.l.md) ∧ V.cell? ⟨w.heap.size + 1, 3, none⟩ = some (.slice b.la b.ln b.lc) ∧ V.cell? ⟨w.heap.size + 1, 4, none⟩ = some (.slice b.ha b.hn b.hc)) := fun V hV => by
    have h2 := HB3.out.trans (hV.mono HB3.out.size)
    have hs := HS2.out
    exact ⟨(HC.out.1.same (h2.block _ (by omega))).zero, (HC.out.2.same (h2.block _ (by omega))).zero⟩
  have HF3 := hide (HF2.out.keep HB3.out)
  have HAo := hide (HAo2.out.keep HB3.out)
  have HBo := hide (HBo2.out.keep HB3.out)
  have HN3 := hide (HN.out.trans (HB3.out.mono (by have := HS2.out; omega)))
  obtain ⟨⟨a0, a1, a2, a3, a4⟩, b0, b1, b2, b3, b4⟩ := HV.out w3 (Below.refl _ _)
  by_cases hsum : (100 : Int) < (a.ln : Int) + (a.hn : Int) + (b.ln : Int) + (b.hn : Int)
  · go_wp2
    go_ret
    exact ⟨rfl, HN3.out⟩
  · go_upto_region 5 with fail
    have hzs : fitsL n m = fitsL m n := fitsL_symm n m
    obtain ⟨zf, hzf⟩ : ∃ z, fitsL m n = z := ⟨_, rfl⟩
    obtain ⟨za, hza⟩ : ∃ z, apartL a.l b.l = z := ⟨_, rfl⟩
    obtain ⟨zc, hzc⟩ : ∃ z, coversL a.l b.l = z := ⟨_, rfl⟩
    have e1 : (zf == zf) = true := by simp
    have e2 : (za == za) = true := by simp
    have e3 : (zc == zc) = true := by simp
    have HP1 := hide (fun W hW => hzf ▸ pfits_any m n W hW)
    have HP2 := hide (fun W hW => hzf ▸ hzs ▸ pfits_any n m W hW)
    have HX1 := hide (fun W => hzf ▸ fits_any m n W)
    have HP3 := hide (fun W h1 h2 => hza ▸ papart_any a b W h1 h2)
    have HX3 := hide (fun W h1 h2 => hza ▸ apart_any a b W h1 h2)
    have HP4 := hide (fun W h1 h2 => hzc ▸ pcovers_any a b W h1 h2)
    have HX4 := hide (fun W h1 h2 => hzc ▸ covers_any a b W h1 h2)
    clear hzs hzf hza hzc a0 a1 a2 a3 a4 b0 b1 b2 b3 b4
    refine startE (fun _ => false) (by kernel_rfl) ?_
    refine' takeE (i := 0) (v := _) rfl (by kernel_rfl) (by kernel_rfl) (by kernel_rfl) (by kernel_rfl) (fun _ _ _ h => h) (by rfl) (Below.refl _ _) ?_ ?_; rotate_left
    · (intro V hSV; obtain ⟨⟨a0, a1, a2, a3, a4⟩, b0, b1, b2, b3, b4⟩ := HV.out V (below_undrew hSV); go_simp; all_goals (with_reducible rfl))
    (try simp only [Act.put, List.setIfInBounds_toArray, List.set_cons_zero, List.set_cons_succ])
    refine' takeE (i := 1) (v := _) rfl (by kernel_rfl) (by kernel_rfl) (by kernel_rfl) (by kernel_rfl) (fun _ _ _ h => h) (by rfl) (Below.refl _ _) ?_ ?_; rotate_left
    · (intro V hSV; obtain ⟨⟨a0, a1, a2, a3, a4⟩, b0, b1, b2, b3, b4⟩ := HV.out V (below_undrew hSV); go_simp; all_goals (with_reducible rfl))
    (try simp only [Act.put, List.setIfInBounds_toArray, List.set_cons_zero, List.set_cons_succ])
    refine' takeE (i := 3) (v := _) rfl (by kernel_rfl) (by kernel_rfl) (by kernel_rfl) (by kernel_rfl) (fun _ _ _ h => h) (by rfl) (Below.refl _ _) ?_ ?_; rotate_left
    · (intro V hSV; obtain ⟨⟨a0, a1, a2, a3, a4⟩, b0, b1, b2, b3, b4⟩ := HV.out V (below_undrew hSV); go_simp; all_goals (with_reducible rfl))
    (try simp only [Act.put, List.setIfInBounds_toArray, List.set_cons_zero, List.set_cons_succ])
    refine' takeE (i := 4) (v := _) rfl (by kernel_rfl) (by kernel_rfl) (by kernel_rfl) (by kernel_rfl) (fun _ _ _ h => h) (by rfl) (Below.refl _ _) ?_ ?_; rotate_left
    · (intro V hSV; obtain ⟨⟨a0, a1, a2, a3, a4⟩, b0, b1, b2, b3, b4⟩ := HV.out V (below_undrew hSV); go_simp; all_goals (with_reducible rfl))
    (try simp only [Act.put, List.setIfInBounds_toArray, List.set_cons_zero, List.set_cons_succ])
    refine callE (i := 2) rfl (by kernel_rfl) (fun K hK => ?_)
    go_simp
    refine (HP1.out _ (HF3.out.keep (Below.refl _ w3).drew)).mono ?_
    rintro e w' ⟨rfl, hw⟩
    have hw := hw.symm
    subst hw
    refine hK.out _ _ (fun _ => Below.refl _ w3.drew) ?_
    clear hK K
    (try simp only [Act.put, List.setIfInBounds_toArray, List.set_cons_zero, List.set_cons_succ])
    refine callE (i := 5) rfl (by kernel_rfl) (fun K hK => ?_)
    go_simp
    refine (HX1.out _).mono ?_
    rintro e w' ⟨rfl, hw⟩
    have hw := hw.symm
    subst hw
    refine hK.out _ _ (fun _ => Below.refl _ w3.drew) ?_
    clear hK K
    (try simp only [Act.put, List.setIfInBounds_toArray, List.set_cons_zero, List.set_cons_succ])
    refine callE (i := 6) rfl (by kernel_rfl) (fun K hK => ?_)
    go_simp
    refine hK.out _ _ (fun _ => Below.refl _ w3.drew) ?_
    clear hK K
    (try simp only [Act.put, List.setIfInBounds_toArray, List.set_cons_zero, List.set_cons_succ])
    refine callE (i := 7) rfl (by kernel_rfl) (fun K hK => ?_)
    go_simp
    refine hK.out _ _ (fun _ => Below.refl _ w3.drew) ?_
    clear hK K
    (try simp only [Act.put, List.setIfInBounds_toArray, List.set_cons_zero, List.set_cons_succ])
    refine' takeE (i := 8) (v := _) rfl (by kernel_rfl) (by kernel_rfl) (by kernel_rfl) (by kernel_rfl) (fun _ _ _ h => h) (by rfl) (Below.refl _ _) ?_ ?_; rotate_left
    · (intro V hSV; obtain ⟨⟨a0, a1, a2, a3, a4⟩, b0, b1, b2, b3, b4⟩ := HV.out V (below_undrew hSV); go_simp; all_goals (with_reducible rfl))
    (try simp only [Act.put, List.setIfInBounds_toArray, List.set_cons_zero, List.set_cons_succ])
    refine' takeE (i := 9) (v := _) rfl (by kernel_rfl) (by kernel_rfl) (by kernel_rfl) (by kernel_rfl) (fun _ _ _ h => h) (by rfl) (Below.refl _ _) ?_ ?_; rotate_left
    · (intro V hSV; obtain ⟨⟨a0, a1, a2, a3, a4⟩, b0, b1, b2, b3, b4⟩ := HV.out V (below_undrew hSV); go_simp; all_goals (with_reducible rfl))
    (try simp only [Act.put, List.setIfInBounds_toArray, List.set_cons_zero, List.set_cons_succ])
    refine' takeE (i := 11) (v := _) rfl (by kernel_rfl) (by kernel_rfl) (by kernel_rfl) (by kernel_rfl) (fun _ _ _ h => h) (by rfl) (Below.refl _ _) ?_ ?_; rotate_left
    · (intro V hSV; obtain ⟨⟨a0, a1, a2, a3, a4⟩, b0, b1, b2, b3, b4⟩ := HV.out V (below_undrew hSV); go_simp; all_goals (with_reducible rfl))
    (try simp only [Act.put, List.setIfInBounds_toArray, List.set_cons_zero, List.set_cons_succ])
    refine' takeE (i := 12) (v := _) rfl (by kernel_rfl) (by kernel_rfl) (by kernel_rfl) (by kernel_rfl) (fun _ _ _ h => h) (by rfl) (Below.refl _ _) ?_ ?_; rotate_left
    · (intro V hSV; obtain ⟨⟨a0, a1, a2, a3, a4⟩, b0, b1, b2, b3, b4⟩ := HV.out V (below_undrew hSV); go_simp; all_goals (with_reducible rfl))
    (try simp only [Act.put, List.setIfInBounds_toArray, List.set_cons_zero, List.set_cons_succ])
    refine callE (i := 10) rfl (by kernel_rfl) (fun K hK => ?_)
    go_simp
    refine (HP1.out _ (HF3.out.keep (Below.refl _ w3).drew)).mono ?_
    rintro e w' ⟨rfl, hw⟩
    have hw := hw.symm
    subst hw
    refine hK.out _ _ (fun _ => Below.refl _ w3.drew) ?_
    clear hK K
    (try simp only [Act.put, List.setIfInBounds_toArray, List.set_cons_zero, List.set_cons_succ])
    refine callE (i := 13) rfl (by kernel_rfl) (fun K hK => ?_)
    go_simp
    refine (HP2.out _ (HF3.out.keep (Below.refl _ w3).drew)).mono ?_
    rintro e w' ⟨rfl, hw⟩
    have hw := hw.symm
    subst hw
    refine hK.out _ _ (fun _ => Below.refl _ w3.drew) ?_
    clear hK K
    (try simp only [Act.put, List.setIfInBounds_toArray, List.set_cons_zero, List.set_cons_succ])
    refine callE (i := 14) rfl (by kernel_rfl) (fun K hK => ?_)
    go_simp
    refine hK.out _ _ (fun _ => Below.refl _ w3.drew) ?_
    clear hK K
    (try simp only [Act.put, List.setIfInBounds_toArray, List.set_cons_zero, List.set_cons_succ])
    refine callE (i := 15) rfl (by kernel_rfl) (fun K hK => ?_)
    go_simp
    refine hK.out _ _ (fun _ => Below.refl _ w3.drew) ?_
    clear hK K
    (try simp only [Act.put, List.setIfInBounds_toArray, List.set_cons_zero, List.set_cons_succ])
    refine callE (i := 16) rfl (by kernel_rfl) (fun K hK => ?_)
    go_simp
    refine hK.out _ _ (fun _ => Below.refl _ w3.drew) ?_
    clear hK K
    (try simp only [Act.put, List.setIfInBounds_toArray, List.set_cons_zero, List.set_cons_succ])
    refine' takeE (i := 17) (v := _) rfl (by kernel_rfl) (by kernel_rfl) (by kernel_rfl) (by kernel_rfl) (fun _ _ _ h => h) (by rfl) (Below.refl _ _) ?_ ?_; rotate_left
    · (intro V hSV; obtain ⟨⟨a0, a1, a2, a3, a4⟩, b0, b1, b2, b3, b4⟩ := HV.out V (below_undrew hSV); go_simp; all_goals (with_reducible rfl))
    (try simp only [Act.put, List.setIfInBounds_toArray, List.set_cons_zero, List.set_cons_succ])
    refine' takeE (i := 18) (v := _) rfl (by kernel_rfl) (by kernel_rfl) (by kernel_rfl) (by kernel_rfl) (fun _ _ _ h => h) (by rfl) (Below.refl _ _) ?_ ?_; rotate_left
    · (intro V hSV; obtain ⟨⟨a0, a1, a2, a3, a4⟩, b0, b1, b2, b3, b4⟩ := HV.out V (below_undrew hSV); go_simp; all_goals (with_reducible rfl))
    (try simp only [Act.put, List.setIfInBounds_toArray, List.set_cons_zero, List.set_cons_succ])
    refine' takeE (i := 20) (v := _) rfl (by kernel_rfl) (by kernel_rfl) (by kernel_rfl) (by kernel_rfl) (fun _ _ _ h => h) (by rfl) (Below.refl _ _) ?_ ?_; rotate_left
    · (intro V hSV; obtain ⟨⟨a0, a1, a2, a3, a4⟩, b0, b1, b2, b3, b4⟩ := HV.out V (below_undrew hSV); go_simp; all_goals (with_reducible rfl))
    (try simp only [Act.put, List.setIfInBounds_toArray, List.set_cons_zero, List.set_cons_succ])
    refine' takeE (i := 21) (v := _) rfl (by kernel_rfl) (by kernel_rfl) (by kernel_rfl) (by kernel_rfl) (fun _ _ _ h => h) (by rfl) (Below.refl _ _) ?_ ?_; rotate_left
    · (intro V hSV; obtain ⟨⟨a0, a1, a2, a3, a4⟩, b0, b1, b2, b3, b4⟩ := HV.out V (below_undrew hSV); go_simp; all_goals (with_reducible rfl))
    (try simp only [Act.put, List.setIfInBounds_toArray, List.set_cons_zero, List.set_cons_succ])
    refine callE (i := 19) rfl (by kernel_rfl) (fun K hK => ?_)
    go_simp
    refine (HP3.out w3.drew (HAo.out.keep (Below.refl _ w3).drew) (HBo.out.keep (Below.refl _ w3).drew)).mono ?_
    rintro e w4 ⟨rfl, hb4⟩
    have hq4 := (Below.refl w3.drew.heap.size w3.drew).trans (hb4.mono (Below.refl w3.drew.heap.size w3.drew).size)
    refine hK.out _ _ (fun _ => hq4) ?_
    clear hK K
    (try simp only [Act.put, List.setIfInBounds_toArray, List.set_cons_zero, List.set_cons_succ])
    refine callE (i := 22) rfl (by kernel_rfl) (fun K hK => ?_)
    go_simp
    refine (HX3.out w4 (HAo.out.keep (below_undrew hq4)) (HBo.out.keep (below_undrew hq4))).mono ?_
    rintro e w5 ⟨rfl, hb5⟩
    have hq5 := (hq4).trans (hb5.mono (hq4).size)
    refine hK.out _ _ (fun _ => hq5) ?_
    clear hK K
    (try simp only [Act.put, List.setIfInBounds_toArray, List.set_cons_zero, List.set_cons_succ])
    refine callE (i := 23) rfl (by kernel_rfl) (fun K hK => ?_)
    go_simp
    refine hK.out _ _ (fun _ => hq5) ?_
    clear hK K
    (try simp only [Act.put, List.setIfInBounds_toArray, List.set_cons_zero, List.set_cons_succ])
    refine callE (i := 24) rfl (by kernel_rfl) (fun K hK => ?_)
    go_simp
    refine hK.out _ _ (fun _ => hq5) ?_
    clear hK K
    (try simp only [Act.put, List.setIfInBounds_toArray, List.set_cons_zero, List.set_cons_succ])
    refine callE (i := 25) rfl (by kernel_rfl) (fun K hK => ?_)
    go_simp
    refine hK.out _ _ (fun _ => hq5) ?_
    clear hK K
    (try simp only [Act.put, List.setIfInBounds_toArray, List.set_cons_zero, List.set_cons_succ])
    refine' takeE (i := 26) (v := _) rfl (by kernel_rfl) (by kernel_rfl) (by kernel_rfl) (by kernel_rfl) (fun _ _ _ h => h) (by rfl) (hq5) ?_ ?_; rotate_left
    · (intro V hSV; obtain ⟨⟨a0, a1, a2, a3, a4⟩, b0, b1, b2, b3, b4⟩ := HV.out V (below_undrew hSV); go_simp; all_goals (with_reducible rfl))
    (try simp only [Act.put, List.setIfInBounds_toArray, List.set_cons_zero, List.set_cons_succ])
    refine' takeE (i := 27) (v := _) rfl (by kernel_rfl) (by kernel_rfl) (by kernel_rfl) (by kernel_rfl) (fun _ _ _ h => h) (by rfl) (hq5) ?_ ?_; rotate_left
    · (intro V hSV; obtain ⟨⟨a0, a1, a2, a3, a4⟩, b0, b1, b2, b3, b4⟩ := HV.out V (below_undrew hSV); go_simp; all_goals (with_reducible rfl))
    (try simp only [Act.put, List.setIfInBounds_toArray, List.set_cons_zero, List.set_cons_succ])
    refine' takeE (i := 29) (v := _) rfl (by kernel_rfl) (by kernel_rfl) (by kernel_rfl) (by kernel_rfl) (fun _ _ _ h => h) (by rfl) (hq5) ?_ ?_; rotate_left
    · (intro V hSV; obtain ⟨⟨a0, a1, a2, a3, a4⟩, b0, b1, b2, b3, b4⟩ := HV.out V (below_undrew hSV); go_simp; all_goals (with_reducible rfl))
    (try simp only [Act.put, List.setIfInBounds_toArray, List.set_cons_zero, List.set_cons_succ])
    refine' takeE (i := 30) (v := _) rfl (by kernel_rfl) (by kernel_rfl) (by kernel_rfl) (by kernel_rfl) (fun _ _ _ h => h) (by rfl) (hq5) ?_ ?_; rotate_left
    · (intro V hSV; obtain ⟨⟨a0, a1, a2, a3, a4⟩, b0, b1, b2, b3, b4⟩ := HV.out V (below_undrew hSV); go_simp; all_goals (with_reducible rfl))
    (try simp only [Act.put, List.setIfInBounds_toArray, List.set_cons_zero, List.set_cons_succ])
    refine callE (i := 28) rfl (by kernel_rfl) (fun K hK => ?_)
    go_simp
    refine (HP4.out w5 (HAo.out.keep (below_undrew hq5)) (HBo.out.keep (below_undrew hq5))).mono ?_
    rintro e w6 ⟨rfl, hb6⟩
    have hq6 := (hq5).trans (hb6.mono (hq5).size)
    refine hK.out _ _ (fun _ => hq6) ?_
    clear hK K
    (try simp only [Act.put, List.setIfInBounds_toArray, List.set_cons_zero, List.set_cons_succ])
    refine callE (i := 31) rfl (by kernel_rfl) (fun K hK => ?_)
    go_simp
    refine (HX4.out w6 (HAo.out.keep (below_undrew hq6)) (HBo.out.keep (below_undrew hq6))).mono ?_
    rintro e w7 ⟨rfl, hb7⟩
    have hq7 := (hq6).trans (hb7.mono (hq6).size)
    refine hK.out _ _ (fun _ => hq7) ?_
    clear hK K
    (try simp only [Act.put, List.setIfInBounds_toArray, List.set_cons_zero, List.set_cons_succ])
    refine callE (i := 32) rfl (by kernel_rfl) (fun K hK => ?_)
    go_simp
    refine hK.out _ _ (fun _ => hq7) ?_
    clear hK K
    (try simp only [Act.put, List.setIfInBounds_toArray, List.set_cons_zero, List.set_cons_succ])
    refine callE (i := 33) rfl (by kernel_rfl) (fun K hK => ?_)
    go_simp
    refine hK.out _ _ (fun _ => hq7) ?_
    clear hK K
    (try simp only [Act.put, List.setIfInBounds_toArray, List.set_cons_zero, List.set_cons_succ])
    refine callE (i := 34) rfl (by kernel_rfl) (fun K hK => ?_)
    go_simp
    refine hK.out _ _ (fun _ => hq7) ?_
    clear hK K
    (try simp only [Act.put, List.setIfInBounds_toArray, List.set_cons_zero, List.set_cons_succ])
    refine doneE (by kernel_rfl) ?_ _
    go_wp2
    go_ret
    exact ⟨rfl, HN3.out.trans ((below_undrew hq7).mono HN3.out.size)⟩

end Go.Proofs.YtbnojmaknlfphaaDoor
