/- The reference's SameCells on what a result has. Printed by part/gen_mqf.py. The reference's SameTables. Printed by part/gen_mqg.py. A result that a law is handed; a command told again is answered the same. Printed by part/gen_mqe.py. The reference's SameResult. Printed by part/gen_mqh.py. A machine that nobody made; how many locks a machine's table holds. Printed by part/gen_mqi.py. -/
import Derived.Test.YtcgiicmmfleinaaGreatDoorMrA
import Derived.BigRegion
import Derived.RegionTactic
import Derived.Test.YtcgiicmmfleinaaGreatDoorMfL
namespace Go.Proofs.YtcgiicmmfleinaaGreatDoor
open Go.RowKit NumMath Go.ChangeShapes Go.WideShapes Go.Deep
set_option linter.unusedVariables false
set_option maxRecDepth 100000

theorem bel_undQ {w W : World} (h : Below w.drew.heap.size w.drew W) : Below w.heap.size w W := (Below.refl _ w).drew.trans h

/-- the cells of one, as the walk reads them -/
def ReadCe (W : World) (g o : Nat) (m : MCe) : Prop := W.cell? ⟨g, o, none⟩ = some (.slice m.key.a m.key.n m.key.c) ∧ W.cell? ⟨g, o + 1, none⟩ = some (.slice m.vs.a m.vs.n m.vs.c) ∧ W.cell? ⟨g, o + 2, none⟩ = some (.int .u64 m.it.ts) ∧ W.cell? ⟨g, o + 2 + 1, none⟩ = some (.int .u64 m.it.tx) ∧ W.cell? ⟨g, o + 2 + 2, none⟩ = some (.bool m.it.dd) ∧ W.cell? ⟨g, o + 2 + 3, none⟩ = some (.slice m.it.vl.a m.it.vl.n m.it.vl.c) ∧ W.cell? ⟨g, o + 2 + 4, none⟩ = some (.slice m.it.ks.a m.it.ks.n m.it.ks.c)

theorem readCe {W : World} {g o : Nat} {m : MCe} (h : W.rangeAt g o (layCe.cells m)) : ReadCe W g o m := ⟨h 0 _ rfl, h 1 _ rfl, h 2 _ rfl, h 3 _ rfl, h 4 _ rfl, h 5 _ rfl, h 6 _ rfl⟩

/-- the cells of a version, as the walk reads them -/
def ReadVe (W : World) (g o : Nat) (m : MVe) : Prop := W.cell? ⟨g, o, none⟩ = some (.int .u64 m.ts) ∧ W.cell? ⟨g, o + 1, none⟩ = some (.int .u64 m.tx) ∧ W.cell? ⟨g, o + 2, none⟩ = some (.bool m.dd) ∧ W.cell? ⟨g, o + 3, none⟩ = some (.slice m.vl.a m.vl.n m.vl.c) ∧ W.cell? ⟨g, o + 4, none⟩ = some (.slice m.ks.a m.ks.n m.ks.c)

theorem readVe {W : World} {g o : Nat} {m : MVe} (h : W.rangeAt g o (layVe.cells m)) : ReadVe W g o m := ⟨h 0 _ rfl, h 1 _ rfl, h 2 _ rfl, h 3 _ rfl, h 4 _ rfl⟩

set_option maxHeartbeats 8000000 in
theorem xsameC_any (xs ys : List MCe) (a b : Option Addr) (n c n' c' : Nat) (w : World) (hx : IsY layCe w a n c xs) (hy : IsY layCe w b n' c' ys) (hxo : ∀ x ∈ xs, x.ok w) (hyo : ∀ x ∈ ys, x.ok w) :
    Calls Tryz.prog 24 #[.slice a n c, .slice b n' c'] w fun e w' => e = .returned (.bool (decide (xs.map MCe.p = ys.map MCe.p))) ∧ Below w.heap.size w w' := by
  have HX := hide hx
  have HY := hide hy
  have hm : (n : Int) ≤ 9223372036854775807 := by have := hx.2.1; have := hx.2.2.1; unfold maxLen at this; omega
  have hnc := hx.2.1
  have hnc' := hy.2.1
  have hcI : (c : Int) ≤ 9223372036854775807 := by have := hx.2.2.1; unfold maxLen at this; omega
  have hcI' : (c' : Int) ≤ 9223372036854775807 := by have := hy.2.2.1; unfold maxLen at this; omega
  have HXO := hide hxo
  have HYO := hide hyo
  clear hx hy hxo hyo
  by_cases hl : n = n'
  · subst hl
    go_enter Tryz.func24, Tryz.ntmps24
    go_wp2
    go_loopg [14] n (fun gk ix wr => ∃ k : Nat, gk = n - k ∧ ix = .int .i64 k ∧ k ≤ n ∧ (xs.map MCe.p).take k = (ys.map MCe.p).take k ∧ Below w.heap.size w wr)
    case atStart => exact ⟨0, rfl, rfl, Nat.zero_le _, rfl, Below.refl _ _⟩
    case round =>
      obtain ⟨k, rfl, rfl, hk, hT, hB⟩ := hrel
      have HT := hide hT
      have HB := hide hB
      clear hT hB
      by_cases hlt : k < n
      · have hltI : (k : Int) < (n : Int) := by omega
        obtain ⟨x, hx⟩ := at_of HX.out.1 hlt
        obtain ⟨y, hy⟩ := at_of HY.out.1 hlt
        obtain ⟨g1, o1, rfl, hg1, hC1⟩ := (HX.out.keep HB.out).at hlt
        obtain ⟨g2, o2, rfl, hg2, hC2⟩ := (HY.out.keep HB.out).at hlt
        have A1 := hide ((HXO.out x (List.mem_of_getElem? hx)).keep HB.out)
        have A2 := hide ((HYO.out y (List.mem_of_getElem? hy)).keep HB.out)
        have R1 := hide (fun W (hW : Below wr.heap.size wr W) => show ReadCe W g1 (o1 + k * 7) x from readCe (rangeY_same (hC1 k x hx) (hW.block g1 hg1)))
        have R2 := hide (fun W (hW : Below wr.heap.size wr W) => show ReadCe W g2 (o2 + k * 7) y from readCe (rangeY_same (hC2 k y hy) (hW.block g2 hg2)))
        have Q1 := hide (fun W (hW : Below wr.heap.size wr W) => (IsBytes.keep A1.out.key hW).conv)
        have Q2 := hide (fun W (hW : Below wr.heap.size wr W) => (IsBytes.keep A2.out.key hW).conv)
        have hq := strB_eq x.key.t y.key.t A1.out.key.2.2.2.1 A2.out.key.2.2.2.1
        have HSv := hide (fun W (hW : Below wr.heap.size wr W) => xsameV_any x.it y.it W (A1.out.io.keep hW) (A2.out.io.keep hW))
        have HK := hide (fun W (hW : Below wr.heap.size wr W) => And.intro (R1.out W hW) (And.intro (R2.out W hW) (And.intro (Q1.out W hW) (Q2.out W hW))))
        have HAx : Hid ((xs.map MCe.p)[k]? = some x.p) := at_map hx
        have HAy : Hid ((ys.map MCe.p)[k]? = some y.p) := at_map hy
        have hvle := A1.out.vs.2.1
        have hvle' := A2.out.vs.2.1
        have hvcI : (x.vs.c : Int) ≤ 9223372036854775807 := by have := A1.out.vs.2.2.1; unfold maxLen at this; omega
        have hvcI' : (y.vs.c : Int) ≤ 9223372036854775807 := by have := A2.out.vs.2.2.1; unfold maxLen at this; omega
        clear hC1 hC2 hx hy
        by_cases h0 : x.key.t = y.key.t
        · rw [decide_eq_true h0] at hq
          have Hh0 := hide h0
          clear h0
          by_cases h1 : x.it.p = y.it.p
          · rw [show decide (x.it.p = y.it.p) = true from decide_eq_true h1] at HSv
            have Hh1 := hide h1
            clear h1
            by_cases h2 : (x.vs.n : Int) = (y.vs.n : Int)
            · have d2 : ((x.vs.n : Int) == (y.vs.n : Int)) = true := by simpa using h2
              have b2 : ((x.vs.n : Int) != (y.vs.n : Int)) = false := by simpa using h2
              have c2 : decide ((x.vs.n : Int) = (y.vs.n : Int)) = true := by simpa using h2
              have Hh2 := hide h2
              clear h2
              go_upto_region 6 with fail
              go_cut [58] (fun s58 wx => s58 = .bool false ∧ Below wr.heap.size wr wx)
              case first =>
                refine startT (by kernel_rfl) ?_
                refine' takeT (i := 0) (v := _) rfl (by kernel_rfl) (by kernel_rfl) (by kernel_rfl) (fun _ _ _ h => h) (by rfl) (Below.refl _ _) ?_ ?_; rotate_left
                · (intro W hSw; obtain ⟨⟨x0, x1, x2, x3, x4, x5, x6⟩, ⟨y0, y1, y2, y3, y4, y5, y6⟩, q1, q2⟩ := HK.out W (bel_undQ hSw); go_simp; all_goals (with_reducible rfl))
                (try simp only [Act.put, List.setIfInBounds_toArray, List.set_cons_zero, List.set_cons_succ])
                refine' takeT (i := 1) (v := _) rfl (by kernel_rfl) (by kernel_rfl) (by kernel_rfl) (fun _ _ _ h => h) (by rfl) (Below.refl _ _) ?_ ?_; rotate_left
                · (intro W hSw; obtain ⟨⟨x0, x1, x2, x3, x4, x5, x6⟩, ⟨y0, y1, y2, y3, y4, y5, y6⟩, q1, q2⟩ := HK.out W (bel_undQ hSw); go_simp; all_goals (with_reducible rfl))
                (try simp only [Act.put, List.setIfInBounds_toArray, List.set_cons_zero, List.set_cons_succ])
                refine' takeT (i := 2) (v := _) rfl (by kernel_rfl) (by kernel_rfl) (by kernel_rfl) (fun _ _ _ h => h) (by rfl) (Below.refl _ _) ?_ ?_; rotate_left
                · (intro W hSw; obtain ⟨⟨x0, x1, x2, x3, x4, x5, x6⟩, ⟨y0, y1, y2, y3, y4, y5, y6⟩, q1, q2⟩ := HK.out W (bel_undQ hSw); go_simp; all_goals (with_reducible rfl))
                (try simp only [Act.put, List.setIfInBounds_toArray, List.set_cons_zero, List.set_cons_succ])
                refine' takeT (i := 3) (v := _) rfl (by kernel_rfl) (by kernel_rfl) (by kernel_rfl) (fun _ _ _ h => h) (by rfl) (Below.refl _ _) ?_ ?_; rotate_left
                · (intro W hSw; obtain ⟨⟨x0, x1, x2, x3, x4, x5, x6⟩, ⟨y0, y1, y2, y3, y4, y5, y6⟩, q1, q2⟩ := HK.out W (bel_undQ hSw); go_simp; all_goals (with_reducible rfl))
                (try simp only [Act.put, List.setIfInBounds_toArray, List.set_cons_zero, List.set_cons_succ])
                refine' takeT (i := 4) (v := _) rfl (by kernel_rfl) (by kernel_rfl) (by kernel_rfl) (fun _ _ _ h => h) (by rfl) (Below.refl _ _) ?_ ?_; rotate_left
                · (intro W hSw; obtain ⟨⟨x0, x1, x2, x3, x4, x5, x6⟩, ⟨y0, y1, y2, y3, y4, y5, y6⟩, q1, q2⟩ := HK.out W (bel_undQ hSw); go_simp; all_goals (with_reducible rfl))
                (try simp only [Act.put, List.setIfInBounds_toArray, List.set_cons_zero, List.set_cons_succ])
                refine' takeT (i := 5) (v := _) rfl (by kernel_rfl) (by kernel_rfl) (by kernel_rfl) (fun _ _ _ h => h) (by rfl) (Below.refl _ _) ?_ ?_; rotate_left
                · (intro W hSw; obtain ⟨⟨x0, x1, x2, x3, x4, x5, x6⟩, ⟨y0, y1, y2, y3, y4, y5, y6⟩, q1, q2⟩ := HK.out W (bel_undQ hSw); go_simp; all_goals (with_reducible rfl))
                (try simp only [Act.put, List.setIfInBounds_toArray, List.set_cons_zero, List.set_cons_succ])
                refine' takeT (i := 6) (v := _) rfl (by kernel_rfl) (by kernel_rfl) (by kernel_rfl) (fun _ _ _ h => h) (by rfl) (Below.refl _ _) ?_ ?_; rotate_left
                · (intro W hSw; obtain ⟨⟨x0, x1, x2, x3, x4, x5, x6⟩, ⟨y0, y1, y2, y3, y4, y5, y6⟩, q1, q2⟩ := HK.out W (bel_undQ hSw); go_simp; all_goals (with_reducible rfl))
                (try simp only [Act.put, List.setIfInBounds_toArray, List.set_cons_zero, List.set_cons_succ])
                refine' takeT (i := 7) (v := _) rfl (by kernel_rfl) (by kernel_rfl) (by kernel_rfl) (fun _ _ _ h => h) (by rfl) (Below.refl _ _) ?_ ?_; rotate_left
                · (intro W hSw; obtain ⟨⟨x0, x1, x2, x3, x4, x5, x6⟩, ⟨y0, y1, y2, y3, y4, y5, y6⟩, q1, q2⟩ := HK.out W (bel_undQ hSw); go_simp; all_goals (with_reducible rfl))
                (try simp only [Act.put, List.setIfInBounds_toArray, List.set_cons_zero, List.set_cons_succ])
                refine' takeT (i := 8) (v := _) rfl (by kernel_rfl) (by kernel_rfl) (by kernel_rfl) (fun _ _ _ h => h) (by rfl) (Below.refl _ _) ?_ ?_; rotate_left
                · (intro W hSw; obtain ⟨⟨x0, x1, x2, x3, x4, x5, x6⟩, ⟨y0, y1, y2, y3, y4, y5, y6⟩, q1, q2⟩ := HK.out W (bel_undQ hSw); go_simp; all_goals (with_reducible rfl))
                (try simp only [Act.put, List.setIfInBounds_toArray, List.set_cons_zero, List.set_cons_succ])
                refine' takeT (i := 9) (v := _) rfl (by kernel_rfl) (by kernel_rfl) (by kernel_rfl) (fun _ _ _ h => h) (by rfl) (Below.refl _ _) ?_ ?_; rotate_left
                · (intro W hSw; obtain ⟨⟨x0, x1, x2, x3, x4, x5, x6⟩, ⟨y0, y1, y2, y3, y4, y5, y6⟩, q1, q2⟩ := HK.out W (bel_undQ hSw); go_simp; all_goals (with_reducible rfl))
                (try simp only [Act.put, List.setIfInBounds_toArray, List.set_cons_zero, List.set_cons_succ])
                refine' takeT (i := 10) (v := _) rfl (by kernel_rfl) (by kernel_rfl) (by kernel_rfl) (fun _ _ _ h => h) (by rfl) (Below.refl _ _) ?_ ?_; rotate_left
                · (intro W hSw; obtain ⟨⟨x0, x1, x2, x3, x4, x5, x6⟩, ⟨y0, y1, y2, y3, y4, y5, y6⟩, q1, q2⟩ := HK.out W (bel_undQ hSw); go_simp; all_goals (with_reducible rfl))
                (try simp only [Act.put, List.setIfInBounds_toArray, List.set_cons_zero, List.set_cons_succ])
                refine' takeT (i := 11) (v := _) rfl (by kernel_rfl) (by kernel_rfl) (by kernel_rfl) (fun _ _ _ h => h) (by rfl) (Below.refl _ _) ?_ ?_; rotate_left
                · (intro W hSw; obtain ⟨⟨x0, x1, x2, x3, x4, x5, x6⟩, ⟨y0, y1, y2, y3, y4, y5, y6⟩, q1, q2⟩ := HK.out W (bel_undQ hSw); go_simp; all_goals (with_reducible rfl))
                (try simp only [Act.put, List.setIfInBounds_toArray, List.set_cons_zero, List.set_cons_succ])
                refine' takeT (i := 12) (v := _) rfl (by kernel_rfl) (by kernel_rfl) (by kernel_rfl) (fun _ _ _ h => h) (by rfl) (Below.refl _ _) ?_ ?_; rotate_left
                · (intro W hSw; obtain ⟨⟨x0, x1, x2, x3, x4, x5, x6⟩, ⟨y0, y1, y2, y3, y4, y5, y6⟩, q1, q2⟩ := HK.out W (bel_undQ hSw); go_simp; all_goals (with_reducible rfl))
                (try simp only [Act.put, List.setIfInBounds_toArray, List.set_cons_zero, List.set_cons_succ])
                refine' takeT (i := 13) (v := _) rfl (by kernel_rfl) (by kernel_rfl) (by kernel_rfl) (fun _ _ _ h => h) (by rfl) (Below.refl _ _) ?_ ?_; rotate_left
                · (intro W hSw; obtain ⟨⟨x0, x1, x2, x3, x4, x5, x6⟩, ⟨y0, y1, y2, y3, y4, y5, y6⟩, q1, q2⟩ := HK.out W (bel_undQ hSw); go_simp; all_goals (with_reducible rfl))
                (try simp only [Act.put, List.setIfInBounds_toArray, List.set_cons_zero, List.set_cons_succ])
                refine' takeT (i := 14) (v := _) rfl (by kernel_rfl) (by kernel_rfl) (by kernel_rfl) (fun _ _ _ h => h) (by rfl) (Below.refl _ _) ?_ ?_; rotate_left
                · (intro W hSw; obtain ⟨⟨x0, x1, x2, x3, x4, x5, x6⟩, ⟨y0, y1, y2, y3, y4, y5, y6⟩, q1, q2⟩ := HK.out W (bel_undQ hSw); go_simp; all_goals (with_reducible rfl))
                (try simp only [Act.put, List.setIfInBounds_toArray, List.set_cons_zero, List.set_cons_succ])
                refine' takeT (i := 15) (v := _) rfl (by kernel_rfl) (by kernel_rfl) (by kernel_rfl) (fun _ _ _ h => h) (by rfl) (Below.refl _ _) ?_ ?_; rotate_left
                · (intro W hSw; obtain ⟨⟨x0, x1, x2, x3, x4, x5, x6⟩, ⟨y0, y1, y2, y3, y4, y5, y6⟩, q1, q2⟩ := HK.out W (bel_undQ hSw); go_simp; all_goals (with_reducible rfl))
                (try simp only [Act.put, List.setIfInBounds_toArray, List.set_cons_zero, List.set_cons_succ])
                refine' takeT (i := 16) (v := _) rfl (by kernel_rfl) (by kernel_rfl) (by kernel_rfl) (fun _ _ _ h => h) (by rfl) (Below.refl _ _) ?_ ?_; rotate_left
                · (intro W hSw; obtain ⟨⟨x0, x1, x2, x3, x4, x5, x6⟩, ⟨y0, y1, y2, y3, y4, y5, y6⟩, q1, q2⟩ := HK.out W (bel_undQ hSw); go_simp; all_goals (with_reducible rfl))
                (try simp only [Act.put, List.setIfInBounds_toArray, List.set_cons_zero, List.set_cons_succ])
                refine' takeT (i := 17) (v := _) rfl (by kernel_rfl) (by kernel_rfl) (by kernel_rfl) (fun _ _ _ h => h) (by rfl) (Below.refl _ _) ?_ ?_; rotate_left
                · (intro W hSw; obtain ⟨⟨x0, x1, x2, x3, x4, x5, x6⟩, ⟨y0, y1, y2, y3, y4, y5, y6⟩, q1, q2⟩ := HK.out W (bel_undQ hSw); go_simp; all_goals (with_reducible rfl))
                (try simp only [Act.put, List.setIfInBounds_toArray, List.set_cons_zero, List.set_cons_succ])
                refine' takeT (i := 18) (v := _) rfl (by kernel_rfl) (by kernel_rfl) (by kernel_rfl) (fun _ _ _ h => h) (by rfl) (Below.refl _ _) ?_ ?_; rotate_left
                · (intro W hSw; obtain ⟨⟨x0, x1, x2, x3, x4, x5, x6⟩, ⟨y0, y1, y2, y3, y4, y5, y6⟩, q1, q2⟩ := HK.out W (bel_undQ hSw); go_simp; all_goals (with_reducible rfl))
                (try simp only [Act.put, List.setIfInBounds_toArray, List.set_cons_zero, List.set_cons_succ])
                refine' takeT (i := 19) (v := _) rfl (by kernel_rfl) (by kernel_rfl) (by kernel_rfl) (fun _ _ _ h => h) (by rfl) (Below.refl _ _) ?_ ?_; rotate_left
                · (intro W hSw; obtain ⟨⟨x0, x1, x2, x3, x4, x5, x6⟩, ⟨y0, y1, y2, y3, y4, y5, y6⟩, q1, q2⟩ := HK.out W (bel_undQ hSw); go_simp; all_goals (with_reducible rfl))
                (try simp only [Act.put, List.setIfInBounds_toArray, List.set_cons_zero, List.set_cons_succ])
                refine' takeT (i := 20) (v := _) rfl (by kernel_rfl) (by kernel_rfl) (by kernel_rfl) (fun _ _ _ h => h) (by rfl) (Below.refl _ _) ?_ ?_; rotate_left
                · (intro W hSw; obtain ⟨⟨x0, x1, x2, x3, x4, x5, x6⟩, ⟨y0, y1, y2, y3, y4, y5, y6⟩, q1, q2⟩ := HK.out W (bel_undQ hSw); go_simp; all_goals (with_reducible rfl))
                (try simp only [Act.put, List.setIfInBounds_toArray, List.set_cons_zero, List.set_cons_succ])
                refine' takeT (i := 21) (v := _) rfl (by kernel_rfl) (by kernel_rfl) (by kernel_rfl) (fun _ _ _ h => h) (by rfl) (Below.refl _ _) ?_ ?_; rotate_left
                · (intro W hSw; obtain ⟨⟨x0, x1, x2, x3, x4, x5, x6⟩, ⟨y0, y1, y2, y3, y4, y5, y6⟩, q1, q2⟩ := HK.out W (bel_undQ hSw); go_simp; all_goals (with_reducible rfl))
                (try simp only [Act.put, List.setIfInBounds_toArray, List.set_cons_zero, List.set_cons_succ])
                refine' takeT (i := 22) (v := _) rfl (by kernel_rfl) (by kernel_rfl) (by kernel_rfl) (fun _ _ _ h => h) (by rfl) (Below.refl _ _) ?_ ?_; rotate_left
                · (intro W hSw; obtain ⟨⟨x0, x1, x2, x3, x4, x5, x6⟩, ⟨y0, y1, y2, y3, y4, y5, y6⟩, q1, q2⟩ := HK.out W (bel_undQ hSw); go_simp; all_goals (with_reducible rfl))
                (try simp only [Act.put, List.setIfInBounds_toArray, List.set_cons_zero, List.set_cons_succ])
                refine' takeT (i := 23) (v := _) rfl (by kernel_rfl) (by kernel_rfl) (by kernel_rfl) (fun _ _ _ h => h) (by rfl) (Below.refl _ _) ?_ ?_; rotate_left
                · (intro W hSw; obtain ⟨⟨x0, x1, x2, x3, x4, x5, x6⟩, ⟨y0, y1, y2, y3, y4, y5, y6⟩, q1, q2⟩ := HK.out W (bel_undQ hSw); go_simp; all_goals (with_reducible rfl))
                (try simp only [Act.put, List.setIfInBounds_toArray, List.set_cons_zero, List.set_cons_succ])
                refine callT (i := 24) rfl (by kernel_rfl) (fun K hK => ?_)
                go_simp
                refine (HSv.out _ (Below.refl _ wr).drew).mono ?_
                rintro e w2 ⟨rfl, hb2⟩
                have HB2 := hide (bel_undQ hb2)
                refine hK.out _ _ hb2 ?_
                clear hK K hb2
                (try simp only [Act.put, List.setIfInBounds_toArray, List.set_cons_zero, List.set_cons_succ])
                refine' takeT (i := 25) (v := _) rfl (by kernel_rfl) (by kernel_rfl) (by kernel_rfl) (fun _ _ _ h => h) (by rfl) (Below.refl _ _) ?_ ?_; rotate_left
                · (intro W hSw; obtain ⟨⟨x0, x1, x2, x3, x4, x5, x6⟩, ⟨y0, y1, y2, y3, y4, y5, y6⟩, q1, q2⟩ := HK.out W (HB2.out.trans (hSw.mono HB2.out.size)); go_simp; all_goals (with_reducible rfl))
                (try simp only [Act.put, List.setIfInBounds_toArray, List.set_cons_zero, List.set_cons_succ])
                refine' takeT (i := 26) (v := _) rfl (by kernel_rfl) (by kernel_rfl) (by kernel_rfl) (fun _ _ _ h => h) (by rfl) (Below.refl _ _) ?_ ?_; rotate_left
                · (intro W hSw; obtain ⟨⟨x0, x1, x2, x3, x4, x5, x6⟩, ⟨y0, y1, y2, y3, y4, y5, y6⟩, q1, q2⟩ := HK.out W (HB2.out.trans (hSw.mono HB2.out.size)); go_simp; all_goals (with_reducible rfl))
                (try simp only [Act.put, List.setIfInBounds_toArray, List.set_cons_zero, List.set_cons_succ])
                refine' takeT (i := 27) (v := _) rfl (by kernel_rfl) (by kernel_rfl) (by kernel_rfl) (fun _ _ _ h => h) (by rfl) (Below.refl _ _) ?_ ?_; rotate_left
                · (intro W hSw; obtain ⟨⟨x0, x1, x2, x3, x4, x5, x6⟩, ⟨y0, y1, y2, y3, y4, y5, y6⟩, q1, q2⟩ := HK.out W (HB2.out.trans (hSw.mono HB2.out.size)); go_simp; all_goals (with_reducible rfl))
                (try simp only [Act.put, List.setIfInBounds_toArray, List.set_cons_zero, List.set_cons_succ])
                refine' takeT (i := 28) (v := _) rfl (by kernel_rfl) (by kernel_rfl) (by kernel_rfl) (fun _ _ _ h => h) (by rfl) (Below.refl _ _) ?_ ?_; rotate_left
                · (intro W hSw; obtain ⟨⟨x0, x1, x2, x3, x4, x5, x6⟩, ⟨y0, y1, y2, y3, y4, y5, y6⟩, q1, q2⟩ := HK.out W (HB2.out.trans (hSw.mono HB2.out.size)); go_simp; all_goals (with_reducible rfl))
                (try simp only [Act.put, List.setIfInBounds_toArray, List.set_cons_zero, List.set_cons_succ])
                refine' takeT (i := 29) (v := _) rfl (by kernel_rfl) (by kernel_rfl) (by kernel_rfl) (fun _ _ _ h => h) (by rfl) (Below.refl _ _) ?_ ?_; rotate_left
                · (intro W hSw; obtain ⟨⟨x0, x1, x2, x3, x4, x5, x6⟩, ⟨y0, y1, y2, y3, y4, y5, y6⟩, q1, q2⟩ := HK.out W (HB2.out.trans (hSw.mono HB2.out.size)); go_simp; all_goals (with_reducible rfl))
                (try simp only [Act.put, List.setIfInBounds_toArray, List.set_cons_zero, List.set_cons_succ])
                refine' takeT (i := 30) (v := _) rfl (by kernel_rfl) (by kernel_rfl) (by kernel_rfl) (fun _ _ _ h => h) (by rfl) (Below.refl _ _) ?_ ?_; rotate_left
                · (intro W hSw; obtain ⟨⟨x0, x1, x2, x3, x4, x5, x6⟩, ⟨y0, y1, y2, y3, y4, y5, y6⟩, q1, q2⟩ := HK.out W (HB2.out.trans (hSw.mono HB2.out.size)); go_simp; all_goals (with_reducible rfl))
                (try simp only [Act.put, List.setIfInBounds_toArray, List.set_cons_zero, List.set_cons_succ])
                refine' takeT (i := 31) (v := _) rfl (by kernel_rfl) (by kernel_rfl) (by kernel_rfl) (fun _ _ _ h => h) (by rfl) (Below.refl _ _) ?_ ?_; rotate_left
                · (intro W hSw; obtain ⟨⟨x0, x1, x2, x3, x4, x5, x6⟩, ⟨y0, y1, y2, y3, y4, y5, y6⟩, q1, q2⟩ := HK.out W (HB2.out.trans (hSw.mono HB2.out.size)); go_simp; all_goals (with_reducible rfl))
                (try simp only [Act.put, List.setIfInBounds_toArray, List.set_cons_zero, List.set_cons_succ])
                refine' takeT (i := 32) (v := _) rfl (by kernel_rfl) (by kernel_rfl) (by kernel_rfl) (fun _ _ _ h => h) (by rfl) (Below.refl _ _) ?_ ?_; rotate_left
                · (intro W hSw; obtain ⟨⟨x0, x1, x2, x3, x4, x5, x6⟩, ⟨y0, y1, y2, y3, y4, y5, y6⟩, q1, q2⟩ := HK.out W (HB2.out.trans (hSw.mono HB2.out.size)); go_simp; all_goals (with_reducible rfl))
                (try simp only [Act.put, List.setIfInBounds_toArray, List.set_cons_zero, List.set_cons_succ])
                refine' takeT (i := 33) (v := _) rfl (by kernel_rfl) (by kernel_rfl) (by kernel_rfl) (fun _ _ _ h => h) (by rfl) (Below.refl _ _) ?_ ?_; rotate_left
                · (intro W hSw; obtain ⟨⟨x0, x1, x2, x3, x4, x5, x6⟩, ⟨y0, y1, y2, y3, y4, y5, y6⟩, q1, q2⟩ := HK.out W (HB2.out.trans (hSw.mono HB2.out.size)); go_simp; all_goals (with_reducible rfl))
                (try simp only [Act.put, List.setIfInBounds_toArray, List.set_cons_zero, List.set_cons_succ])
                refine' takeT (i := 34) (v := _) rfl (by kernel_rfl) (by kernel_rfl) (by kernel_rfl) (fun _ _ _ h => h) (by rfl) (Below.refl _ _) ?_ ?_; rotate_left
                · (intro W hSw; obtain ⟨⟨x0, x1, x2, x3, x4, x5, x6⟩, ⟨y0, y1, y2, y3, y4, y5, y6⟩, q1, q2⟩ := HK.out W (HB2.out.trans (hSw.mono HB2.out.size)); go_simp; all_goals (with_reducible rfl))
                (try simp only [Act.put, List.setIfInBounds_toArray, List.set_cons_zero, List.set_cons_succ])
                refine' takeT (i := 35) (v := _) rfl (by kernel_rfl) (by kernel_rfl) (by kernel_rfl) (fun _ _ _ h => h) (by rfl) (Below.refl _ _) ?_ ?_; rotate_left
                · (intro W hSw; obtain ⟨⟨x0, x1, x2, x3, x4, x5, x6⟩, ⟨y0, y1, y2, y3, y4, y5, y6⟩, q1, q2⟩ := HK.out W (HB2.out.trans (hSw.mono HB2.out.size)); go_simp; all_goals (with_reducible rfl))
                (try simp only [Act.put, List.setIfInBounds_toArray, List.set_cons_zero, List.set_cons_succ])
                refine' takeT (i := 36) (v := _) rfl (by kernel_rfl) (by kernel_rfl) (by kernel_rfl) (fun _ _ _ h => h) (by rfl) (Below.refl _ _) ?_ ?_; rotate_left
                · (intro W hSw; obtain ⟨⟨x0, x1, x2, x3, x4, x5, x6⟩, ⟨y0, y1, y2, y3, y4, y5, y6⟩, q1, q2⟩ := HK.out W (HB2.out.trans (hSw.mono HB2.out.size)); go_simp; all_goals (with_reducible rfl))
                (try simp only [Act.put, List.setIfInBounds_toArray, List.set_cons_zero, List.set_cons_succ])
                refine' takeT (i := 37) (v := _) rfl (by kernel_rfl) (by kernel_rfl) (by kernel_rfl) (fun _ _ _ h => h) (by rfl) (Below.refl _ _) ?_ ?_; rotate_left
                · (intro W hSw; obtain ⟨⟨x0, x1, x2, x3, x4, x5, x6⟩, ⟨y0, y1, y2, y3, y4, y5, y6⟩, q1, q2⟩ := HK.out W (HB2.out.trans (hSw.mono HB2.out.size)); go_simp; all_goals (with_reducible rfl))
                (try simp only [Act.put, List.setIfInBounds_toArray, List.set_cons_zero, List.set_cons_succ])
                refine' takeT (i := 38) (v := _) rfl (by kernel_rfl) (by kernel_rfl) (by kernel_rfl) (fun _ _ _ h => h) (by rfl) (Below.refl _ _) ?_ ?_; rotate_left
                · (intro W hSw; obtain ⟨⟨x0, x1, x2, x3, x4, x5, x6⟩, ⟨y0, y1, y2, y3, y4, y5, y6⟩, q1, q2⟩ := HK.out W (HB2.out.trans (hSw.mono HB2.out.size)); go_simp; all_goals (with_reducible rfl))
                (try simp only [Act.put, List.setIfInBounds_toArray, List.set_cons_zero, List.set_cons_succ])
                refine' takeT (i := 39) (v := _) rfl (by kernel_rfl) (by kernel_rfl) (by kernel_rfl) (fun _ _ _ h => h) (by rfl) (Below.refl _ _) ?_ ?_; rotate_left
                · (intro W hSw; obtain ⟨⟨x0, x1, x2, x3, x4, x5, x6⟩, ⟨y0, y1, y2, y3, y4, y5, y6⟩, q1, q2⟩ := HK.out W (HB2.out.trans (hSw.mono HB2.out.size)); go_simp; all_goals (with_reducible rfl))
                (try simp only [Act.put, List.setIfInBounds_toArray, List.set_cons_zero, List.set_cons_succ])
                refine' takeT (i := 40) (v := _) rfl (by kernel_rfl) (by kernel_rfl) (by kernel_rfl) (fun _ _ _ h => h) (by rfl) (Below.refl _ _) ?_ ?_; rotate_left
                · (intro W hSw; obtain ⟨⟨x0, x1, x2, x3, x4, x5, x6⟩, ⟨y0, y1, y2, y3, y4, y5, y6⟩, q1, q2⟩ := HK.out W (HB2.out.trans (hSw.mono HB2.out.size)); go_simp; all_goals (with_reducible rfl))
                (try simp only [Act.put, List.setIfInBounds_toArray, List.set_cons_zero, List.set_cons_succ])
                refine' takeT (i := 41) (v := _) rfl (by kernel_rfl) (by kernel_rfl) (by kernel_rfl) (fun _ _ _ h => h) (by rfl) (Below.refl _ _) ?_ ?_; rotate_left
                · (intro W hSw; obtain ⟨⟨x0, x1, x2, x3, x4, x5, x6⟩, ⟨y0, y1, y2, y3, y4, y5, y6⟩, q1, q2⟩ := HK.out W (HB2.out.trans (hSw.mono HB2.out.size)); go_simp; all_goals (with_reducible rfl))
                (try simp only [Act.put, List.setIfInBounds_toArray, List.set_cons_zero, List.set_cons_succ])
                refine wpAnyH_done (by kernel_rfl) ?_ _
                go_wp2_with fail
                go_meet
                exact ⟨rfl, HB2.out⟩
              case rest =>
                obtain ⟨rfl, hBc⟩ := hcut
                obtain ⟨wo, rfl⟩ : ∃ wo, wo = wr := ⟨_, rfl⟩
                have HBc := hide hBc
                obtain ⟨⟨x0, x1, x2, x3, x4, x5, x6⟩, ⟨y0, y1, y2, y3, y4, y5, y6⟩, -⟩ := HK.out wc hBc
                clear hBc
                have hsc := HBc.out.size
                go_wp2
                go_loopg [65] x.vs.n (fun gk ix wx => ∃ j : Nat, gk = x.vs.n - j ∧ ix = .int .i64 j ∧ j ≤ x.vs.n ∧ (x.vs.xs.map MVe.p).take j = (y.vs.xs.map MVe.p).take j ∧ Below wc.heap.size wc wx)
                case atStart => exact ⟨0, rfl, rfl, Nat.zero_le _, rfl, Below.refl _ _⟩
                case round =>
                  obtain ⟨j, rfl, rfl, hj, hTj, hBj⟩ := hrel
                  have HTj := hide hTj
                  have HBj := hide hBj
                  have HBk := hide (HBc.out.trans (hBj.mono hsc))
                  clear hBj hTj
                  by_cases hjl : j < x.vs.n
                  · have hjI : (j : Int) < (x.vs.n : Int) := by omega
                    have hjI' : (j : Int) < (y.vs.n : Int) := by have := Hh2.out; omega
                    obtain ⟨p, hp⟩ : ∃ p, x.vs.xs[j]? = some p := at_of A1.out.vs.1 hjl
                    obtain ⟨q, hq'⟩ : ∃ q, y.vs.xs[j]? = some q := at_of A2.out.vs.1 (by omega)
                    obtain ⟨p1, s1, hv1, hp1, hD1⟩ := A1.out.vs.at hjl
                    obtain ⟨p2, s2, hv2, hp2, hD2⟩ := A2.out.vs.at (show j < y.vs.n by omega)
                    have T1 := hide (fun W (hW : Below wo.heap.size wo W) => show ReadVe W p1 (s1 + j * 5) p from readVe (rangeY_same (hD1 j p hp) (hW.block p1 hp1)))
                    have T2 := hide (fun W (hW : Below wo.heap.size wo W) => show ReadVe W p2 (s2 + j * 5) q from readVe (rangeY_same (hD2 j q hq') (hW.block p2 hp2)))
                    have HSx := hide (fun W (hW : Below wo.heap.size wo W) => xsameV_any p q W ((A1.out.vo p (List.mem_of_getElem? hp)).keep hW) ((A2.out.vo q (List.mem_of_getElem? hq')).keep hW))
                    have HV := hide (fun W (hW : Below wr.heap.size wr W) => And.intro (HK.out W (HBk.out.trans (hW.mono HBk.out.size))) (And.intro (T1.out W (HBk.out.trans (hW.mono HBk.out.size))) (T2.out W (HBk.out.trans (hW.mono HBk.out.size)))))
                    have HV1 := hide hv1
                    have HV2 := hide hv2
                    have HBx : Hid ((x.vs.xs.map MVe.p)[j]? = some p.p) := at_map hp
                    have HBy2 : Hid ((y.vs.xs.map MVe.p)[j]? = some q.p) := at_map hq'
                    clear hv1 hv2 hD1 hD2 hp hq' x0 x1 x2 x3 x4 x5 x6 y0 y1 y2 y3 y4 y5 y6
                    by_cases h3 : p.p = q.p
                    · rw [show decide (p.p = q.p) = true from decide_eq_true h3] at HSx
                      have Hh3 := hide h3
                      clear h3
                      go_upto_region 11 with fail
                      go_cut [85] (fun s85 wy => s85 = .bool false ∧ Below wr.heap.size wr wy)
                      case first =>
                        refine startT (by kernel_rfl) ?_
                        refine' takeT (i := 0) (v := _) rfl (by kernel_rfl) (by kernel_rfl) (by kernel_rfl) (fun _ _ _ h => h) (by rfl) (Below.refl _ _) ?_ ?_; rotate_left
                        · (intro W hSw; obtain ⟨⟨⟨x0, x1, x2, x3, x4, x5, x6⟩, ⟨y0, y1, y2, y3, y4, y5, y6⟩, -⟩, ⟨z0, z1, z2, z3, z4⟩, ⟨u0, u1, u2, u3, u4⟩⟩ := HV.out W (bel_undQ hSw); rw [HV1.out] at x1; rw [HV2.out] at y1; go_simp; all_goals (with_reducible rfl))
                        (try simp only [Act.put, List.setIfInBounds_toArray, List.set_cons_zero, List.set_cons_succ])
                        refine' takeT (i := 1) (v := _) rfl (by kernel_rfl) (by kernel_rfl) (by kernel_rfl) (fun _ _ _ h => h) (by rfl) (Below.refl _ _) ?_ ?_; rotate_left
                        · (intro W hSw; obtain ⟨⟨⟨x0, x1, x2, x3, x4, x5, x6⟩, ⟨y0, y1, y2, y3, y4, y5, y6⟩, -⟩, ⟨z0, z1, z2, z3, z4⟩, ⟨u0, u1, u2, u3, u4⟩⟩ := HV.out W (bel_undQ hSw); rw [HV1.out] at x1; rw [HV2.out] at y1; go_simp; all_goals (with_reducible rfl))
                        (try simp only [Act.put, List.setIfInBounds_toArray, List.set_cons_zero, List.set_cons_succ])
                        refine' takeT (i := 2) (v := _) rfl (by kernel_rfl) (by kernel_rfl) (by kernel_rfl) (fun _ _ _ h => h) (by rfl) (Below.refl _ _) ?_ ?_; rotate_left
                        · (intro W hSw; obtain ⟨⟨⟨x0, x1, x2, x3, x4, x5, x6⟩, ⟨y0, y1, y2, y3, y4, y5, y6⟩, -⟩, ⟨z0, z1, z2, z3, z4⟩, ⟨u0, u1, u2, u3, u4⟩⟩ := HV.out W (bel_undQ hSw); rw [HV1.out] at x1; rw [HV2.out] at y1; go_simp; all_goals (with_reducible rfl))
                        (try simp only [Act.put, List.setIfInBounds_toArray, List.set_cons_zero, List.set_cons_succ])
                        refine' takeT (i := 3) (v := _) rfl (by kernel_rfl) (by kernel_rfl) (by kernel_rfl) (fun _ _ _ h => h) (by rfl) (Below.refl _ _) ?_ ?_; rotate_left
                        · (intro W hSw; obtain ⟨⟨⟨x0, x1, x2, x3, x4, x5, x6⟩, ⟨y0, y1, y2, y3, y4, y5, y6⟩, -⟩, ⟨z0, z1, z2, z3, z4⟩, ⟨u0, u1, u2, u3, u4⟩⟩ := HV.out W (bel_undQ hSw); rw [HV1.out] at x1; rw [HV2.out] at y1; go_simp; all_goals (with_reducible rfl))
                        (try simp only [Act.put, List.setIfInBounds_toArray, List.set_cons_zero, List.set_cons_succ])
                        refine' takeT (i := 4) (v := _) rfl (by kernel_rfl) (by kernel_rfl) (by kernel_rfl) (fun _ _ _ h => h) (by rfl) (Below.refl _ _) ?_ ?_; rotate_left
                        · (intro W hSw; obtain ⟨⟨⟨x0, x1, x2, x3, x4, x5, x6⟩, ⟨y0, y1, y2, y3, y4, y5, y6⟩, -⟩, ⟨z0, z1, z2, z3, z4⟩, ⟨u0, u1, u2, u3, u4⟩⟩ := HV.out W (bel_undQ hSw); rw [HV1.out] at x1; rw [HV2.out] at y1; go_simp; all_goals (with_reducible rfl))
                        (try simp only [Act.put, List.setIfInBounds_toArray, List.set_cons_zero, List.set_cons_succ])
                        refine' takeT (i := 5) (v := _) rfl (by kernel_rfl) (by kernel_rfl) (by kernel_rfl) (fun _ _ _ h => h) (by rfl) (Below.refl _ _) ?_ ?_; rotate_left
                        · (intro W hSw; obtain ⟨⟨⟨x0, x1, x2, x3, x4, x5, x6⟩, ⟨y0, y1, y2, y3, y4, y5, y6⟩, -⟩, ⟨z0, z1, z2, z3, z4⟩, ⟨u0, u1, u2, u3, u4⟩⟩ := HV.out W (bel_undQ hSw); rw [HV1.out] at x1; rw [HV2.out] at y1; go_simp; all_goals (with_reducible rfl))
                        (try simp only [Act.put, List.setIfInBounds_toArray, List.set_cons_zero, List.set_cons_succ])
                        refine' takeT (i := 6) (v := _) rfl (by kernel_rfl) (by kernel_rfl) (by kernel_rfl) (fun _ _ _ h => h) (by rfl) (Below.refl _ _) ?_ ?_; rotate_left
                        · (intro W hSw; obtain ⟨⟨⟨x0, x1, x2, x3, x4, x5, x6⟩, ⟨y0, y1, y2, y3, y4, y5, y6⟩, -⟩, ⟨z0, z1, z2, z3, z4⟩, ⟨u0, u1, u2, u3, u4⟩⟩ := HV.out W (bel_undQ hSw); rw [HV1.out] at x1; rw [HV2.out] at y1; go_simp; all_goals (with_reducible rfl))
                        (try simp only [Act.put, List.setIfInBounds_toArray, List.set_cons_zero, List.set_cons_succ])
                        refine' takeT (i := 7) (v := _) rfl (by kernel_rfl) (by kernel_rfl) (by kernel_rfl) (fun _ _ _ h => h) (by rfl) (Below.refl _ _) ?_ ?_; rotate_left
                        · (intro W hSw; obtain ⟨⟨⟨x0, x1, x2, x3, x4, x5, x6⟩, ⟨y0, y1, y2, y3, y4, y5, y6⟩, -⟩, ⟨z0, z1, z2, z3, z4⟩, ⟨u0, u1, u2, u3, u4⟩⟩ := HV.out W (bel_undQ hSw); rw [HV1.out] at x1; rw [HV2.out] at y1; go_simp; all_goals (with_reducible rfl))
                        (try simp only [Act.put, List.setIfInBounds_toArray, List.set_cons_zero, List.set_cons_succ])
                        refine' takeT (i := 8) (v := _) rfl (by kernel_rfl) (by kernel_rfl) (by kernel_rfl) (fun _ _ _ h => h) (by rfl) (Below.refl _ _) ?_ ?_; rotate_left
                        · (intro W hSw; obtain ⟨⟨⟨x0, x1, x2, x3, x4, x5, x6⟩, ⟨y0, y1, y2, y3, y4, y5, y6⟩, -⟩, ⟨z0, z1, z2, z3, z4⟩, ⟨u0, u1, u2, u3, u4⟩⟩ := HV.out W (bel_undQ hSw); rw [HV1.out] at x1; rw [HV2.out] at y1; go_simp; all_goals (with_reducible rfl))
                        (try simp only [Act.put, List.setIfInBounds_toArray, List.set_cons_zero, List.set_cons_succ])
                        refine' takeT (i := 9) (v := _) rfl (by kernel_rfl) (by kernel_rfl) (by kernel_rfl) (fun _ _ _ h => h) (by rfl) (Below.refl _ _) ?_ ?_; rotate_left
                        · (intro W hSw; obtain ⟨⟨⟨x0, x1, x2, x3, x4, x5, x6⟩, ⟨y0, y1, y2, y3, y4, y5, y6⟩, -⟩, ⟨z0, z1, z2, z3, z4⟩, ⟨u0, u1, u2, u3, u4⟩⟩ := HV.out W (bel_undQ hSw); rw [HV1.out] at x1; rw [HV2.out] at y1; go_simp; all_goals (with_reducible rfl))
                        (try simp only [Act.put, List.setIfInBounds_toArray, List.set_cons_zero, List.set_cons_succ])
                        refine' takeT (i := 10) (v := _) rfl (by kernel_rfl) (by kernel_rfl) (by kernel_rfl) (fun _ _ _ h => h) (by rfl) (Below.refl _ _) ?_ ?_; rotate_left
                        · (intro W hSw; obtain ⟨⟨⟨x0, x1, x2, x3, x4, x5, x6⟩, ⟨y0, y1, y2, y3, y4, y5, y6⟩, -⟩, ⟨z0, z1, z2, z3, z4⟩, ⟨u0, u1, u2, u3, u4⟩⟩ := HV.out W (bel_undQ hSw); rw [HV1.out] at x1; rw [HV2.out] at y1; go_simp; all_goals (with_reducible rfl))
                        (try simp only [Act.put, List.setIfInBounds_toArray, List.set_cons_zero, List.set_cons_succ])
                        refine' takeT (i := 11) (v := _) rfl (by kernel_rfl) (by kernel_rfl) (by kernel_rfl) (fun _ _ _ h => h) (by rfl) (Below.refl _ _) ?_ ?_; rotate_left
                        · (intro W hSw; obtain ⟨⟨⟨x0, x1, x2, x3, x4, x5, x6⟩, ⟨y0, y1, y2, y3, y4, y5, y6⟩, -⟩, ⟨z0, z1, z2, z3, z4⟩, ⟨u0, u1, u2, u3, u4⟩⟩ := HV.out W (bel_undQ hSw); rw [HV1.out] at x1; rw [HV2.out] at y1; go_simp; all_goals (with_reducible rfl))
                        (try simp only [Act.put, List.setIfInBounds_toArray, List.set_cons_zero, List.set_cons_succ])
                        refine' takeT (i := 12) (v := _) rfl (by kernel_rfl) (by kernel_rfl) (by kernel_rfl) (fun _ _ _ h => h) (by rfl) (Below.refl _ _) ?_ ?_; rotate_left
                        · (intro W hSw; obtain ⟨⟨⟨x0, x1, x2, x3, x4, x5, x6⟩, ⟨y0, y1, y2, y3, y4, y5, y6⟩, -⟩, ⟨z0, z1, z2, z3, z4⟩, ⟨u0, u1, u2, u3, u4⟩⟩ := HV.out W (bel_undQ hSw); rw [HV1.out] at x1; rw [HV2.out] at y1; go_simp; all_goals (with_reducible rfl))
                        (try simp only [Act.put, List.setIfInBounds_toArray, List.set_cons_zero, List.set_cons_succ])
                        refine' takeT (i := 13) (v := _) rfl (by kernel_rfl) (by kernel_rfl) (by kernel_rfl) (fun _ _ _ h => h) (by rfl) (Below.refl _ _) ?_ ?_; rotate_left
                        · (intro W hSw; obtain ⟨⟨⟨x0, x1, x2, x3, x4, x5, x6⟩, ⟨y0, y1, y2, y3, y4, y5, y6⟩, -⟩, ⟨z0, z1, z2, z3, z4⟩, ⟨u0, u1, u2, u3, u4⟩⟩ := HV.out W (bel_undQ hSw); rw [HV1.out] at x1; rw [HV2.out] at y1; go_simp; all_goals (with_reducible rfl))
                        (try simp only [Act.put, List.setIfInBounds_toArray, List.set_cons_zero, List.set_cons_succ])
                        refine' takeT (i := 14) (v := _) rfl (by kernel_rfl) (by kernel_rfl) (by kernel_rfl) (fun _ _ _ h => h) (by rfl) (Below.refl _ _) ?_ ?_; rotate_left
                        · (intro W hSw; obtain ⟨⟨⟨x0, x1, x2, x3, x4, x5, x6⟩, ⟨y0, y1, y2, y3, y4, y5, y6⟩, -⟩, ⟨z0, z1, z2, z3, z4⟩, ⟨u0, u1, u2, u3, u4⟩⟩ := HV.out W (bel_undQ hSw); rw [HV1.out] at x1; rw [HV2.out] at y1; go_simp; all_goals (with_reducible rfl))
                        (try simp only [Act.put, List.setIfInBounds_toArray, List.set_cons_zero, List.set_cons_succ])
                        refine' takeT (i := 15) (v := _) rfl (by kernel_rfl) (by kernel_rfl) (by kernel_rfl) (fun _ _ _ h => h) (by rfl) (Below.refl _ _) ?_ ?_; rotate_left
                        · (intro W hSw; obtain ⟨⟨⟨x0, x1, x2, x3, x4, x5, x6⟩, ⟨y0, y1, y2, y3, y4, y5, y6⟩, -⟩, ⟨z0, z1, z2, z3, z4⟩, ⟨u0, u1, u2, u3, u4⟩⟩ := HV.out W (bel_undQ hSw); rw [HV1.out] at x1; rw [HV2.out] at y1; go_simp; all_goals (with_reducible rfl))
                        (try simp only [Act.put, List.setIfInBounds_toArray, List.set_cons_zero, List.set_cons_succ])
                        refine callT (i := 16) rfl (by kernel_rfl) (fun K hK => ?_)
                        go_simp
                        refine (HSx.out _ (HBk.out.trans ((Below.refl _ wr).drew.mono HBk.out.size))).mono ?_
                        rintro e w2 ⟨rfl, hb2⟩
                        have HB2 := hide (bel_undQ hb2)
                        refine hK.out _ _ hb2 ?_
                        clear hK K hb2
                        (try simp only [Act.put, List.setIfInBounds_toArray, List.set_cons_zero, List.set_cons_succ])
                        refine' takeT (i := 17) (v := _) rfl (by kernel_rfl) (by kernel_rfl) (by kernel_rfl) (fun _ _ _ h => h) (by rfl) (Below.refl _ _) ?_ ?_; rotate_left
                        · (intro W hSw; obtain ⟨⟨⟨x0, x1, x2, x3, x4, x5, x6⟩, ⟨y0, y1, y2, y3, y4, y5, y6⟩, -⟩, ⟨z0, z1, z2, z3, z4⟩, ⟨u0, u1, u2, u3, u4⟩⟩ := HV.out W (HB2.out.trans (hSw.mono HB2.out.size)); rw [HV1.out] at x1; rw [HV2.out] at y1; go_simp; all_goals (with_reducible rfl))
                        (try simp only [Act.put, List.setIfInBounds_toArray, List.set_cons_zero, List.set_cons_succ])
                        refine wpAnyH_done (by kernel_rfl) ?_ _
                        go_wp2_with fail
                        go_meet
                        exact ⟨rfl, HB2.out⟩
                      case rest =>
                        obtain ⟨rfl, hBy⟩ := hcut
                        have HBy := hide hBy
                        clear hBy
                        go_wp2
                        go_roundg (x.vs.n - (j + 1))
                        case measure => omega
                        case rel => exact ⟨j + 1, rfl, by go_num, by omega, take_at HTj.out HBx.out HBy2.out Hh3.out, HBj.out.trans (HBy.out.mono HBj.out.size)⟩
                    · rw [show decide (p.p = q.p) = false from decide_eq_false h3] at HSx
                      have HR : Hid (decide (xs.map MCe.p = ys.map MCe.p) = false) := decide_eq_false (no_at HAx.out HAy.out (fun e => no_at HBx.out HBy2.out h3 (congrArg (fun (t : CeP) => t.2.1) e)))
                      clear h3
                      go_upto_region 11 with fail
                      refine startT (by kernel_rfl) ?_
                      refine' takeT (i := 0) (v := _) rfl (by kernel_rfl) (by kernel_rfl) (by kernel_rfl) (fun _ _ _ h => h) (by rfl) (Below.refl _ _) ?_ ?_; rotate_left
                      · (intro W hSw; obtain ⟨⟨⟨x0, x1, x2, x3, x4, x5, x6⟩, ⟨y0, y1, y2, y3, y4, y5, y6⟩, -⟩, ⟨z0, z1, z2, z3, z4⟩, ⟨u0, u1, u2, u3, u4⟩⟩ := HV.out W (bel_undQ hSw); rw [HV1.out] at x1; rw [HV2.out] at y1; go_simp; all_goals (with_reducible rfl))
                      (try simp only [Act.put, List.setIfInBounds_toArray, List.set_cons_zero, List.set_cons_succ])
                      refine' takeT (i := 1) (v := _) rfl (by kernel_rfl) (by kernel_rfl) (by kernel_rfl) (fun _ _ _ h => h) (by rfl) (Below.refl _ _) ?_ ?_; rotate_left
                      · (intro W hSw; obtain ⟨⟨⟨x0, x1, x2, x3, x4, x5, x6⟩, ⟨y0, y1, y2, y3, y4, y5, y6⟩, -⟩, ⟨z0, z1, z2, z3, z4⟩, ⟨u0, u1, u2, u3, u4⟩⟩ := HV.out W (bel_undQ hSw); rw [HV1.out] at x1; rw [HV2.out] at y1; go_simp; all_goals (with_reducible rfl))
                      (try simp only [Act.put, List.setIfInBounds_toArray, List.set_cons_zero, List.set_cons_succ])
                      refine' takeT (i := 2) (v := _) rfl (by kernel_rfl) (by kernel_rfl) (by kernel_rfl) (fun _ _ _ h => h) (by rfl) (Below.refl _ _) ?_ ?_; rotate_left
                      · (intro W hSw; obtain ⟨⟨⟨x0, x1, x2, x3, x4, x5, x6⟩, ⟨y0, y1, y2, y3, y4, y5, y6⟩, -⟩, ⟨z0, z1, z2, z3, z4⟩, ⟨u0, u1, u2, u3, u4⟩⟩ := HV.out W (bel_undQ hSw); rw [HV1.out] at x1; rw [HV2.out] at y1; go_simp; all_goals (with_reducible rfl))
                      (try simp only [Act.put, List.setIfInBounds_toArray, List.set_cons_zero, List.set_cons_succ])
                      refine' takeT (i := 3) (v := _) rfl (by kernel_rfl) (by kernel_rfl) (by kernel_rfl) (fun _ _ _ h => h) (by rfl) (Below.refl _ _) ?_ ?_; rotate_left
                      · (intro W hSw; obtain ⟨⟨⟨x0, x1, x2, x3, x4, x5, x6⟩, ⟨y0, y1, y2, y3, y4, y5, y6⟩, -⟩, ⟨z0, z1, z2, z3, z4⟩, ⟨u0, u1, u2, u3, u4⟩⟩ := HV.out W (bel_undQ hSw); rw [HV1.out] at x1; rw [HV2.out] at y1; go_simp; all_goals (with_reducible rfl))
                      (try simp only [Act.put, List.setIfInBounds_toArray, List.set_cons_zero, List.set_cons_succ])
                      refine' takeT (i := 4) (v := _) rfl (by kernel_rfl) (by kernel_rfl) (by kernel_rfl) (fun _ _ _ h => h) (by rfl) (Below.refl _ _) ?_ ?_; rotate_left
                      · (intro W hSw; obtain ⟨⟨⟨x0, x1, x2, x3, x4, x5, x6⟩, ⟨y0, y1, y2, y3, y4, y5, y6⟩, -⟩, ⟨z0, z1, z2, z3, z4⟩, ⟨u0, u1, u2, u3, u4⟩⟩ := HV.out W (bel_undQ hSw); rw [HV1.out] at x1; rw [HV2.out] at y1; go_simp; all_goals (with_reducible rfl))
                      (try simp only [Act.put, List.setIfInBounds_toArray, List.set_cons_zero, List.set_cons_succ])
                      refine' takeT (i := 5) (v := _) rfl (by kernel_rfl) (by kernel_rfl) (by kernel_rfl) (fun _ _ _ h => h) (by rfl) (Below.refl _ _) ?_ ?_; rotate_left
                      · (intro W hSw; obtain ⟨⟨⟨x0, x1, x2, x3, x4, x5, x6⟩, ⟨y0, y1, y2, y3, y4, y5, y6⟩, -⟩, ⟨z0, z1, z2, z3, z4⟩, ⟨u0, u1, u2, u3, u4⟩⟩ := HV.out W (bel_undQ hSw); rw [HV1.out] at x1; rw [HV2.out] at y1; go_simp; all_goals (with_reducible rfl))
                      (try simp only [Act.put, List.setIfInBounds_toArray, List.set_cons_zero, List.set_cons_succ])
                      refine' takeT (i := 6) (v := _) rfl (by kernel_rfl) (by kernel_rfl) (by kernel_rfl) (fun _ _ _ h => h) (by rfl) (Below.refl _ _) ?_ ?_; rotate_left
                      · (intro W hSw; obtain ⟨⟨⟨x0, x1, x2, x3, x4, x5, x6⟩, ⟨y0, y1, y2, y3, y4, y5, y6⟩, -⟩, ⟨z0, z1, z2, z3, z4⟩, ⟨u0, u1, u2, u3, u4⟩⟩ := HV.out W (bel_undQ hSw); rw [HV1.out] at x1; rw [HV2.out] at y1; go_simp; all_goals (with_reducible rfl))
                      (try simp only [Act.put, List.setIfInBounds_toArray, List.set_cons_zero, List.set_cons_succ])
                      refine' takeT (i := 7) (v := _) rfl (by kernel_rfl) (by kernel_rfl) (by kernel_rfl) (fun _ _ _ h => h) (by rfl) (Below.refl _ _) ?_ ?_; rotate_left
                      · (intro W hSw; obtain ⟨⟨⟨x0, x1, x2, x3, x4, x5, x6⟩, ⟨y0, y1, y2, y3, y4, y5, y6⟩, -⟩, ⟨z0, z1, z2, z3, z4⟩, ⟨u0, u1, u2, u3, u4⟩⟩ := HV.out W (bel_undQ hSw); rw [HV1.out] at x1; rw [HV2.out] at y1; go_simp; all_goals (with_reducible rfl))
                      (try simp only [Act.put, List.setIfInBounds_toArray, List.set_cons_zero, List.set_cons_succ])
                      refine' takeT (i := 8) (v := _) rfl (by kernel_rfl) (by kernel_rfl) (by kernel_rfl) (fun _ _ _ h => h) (by rfl) (Below.refl _ _) ?_ ?_; rotate_left
                      · (intro W hSw; obtain ⟨⟨⟨x0, x1, x2, x3, x4, x5, x6⟩, ⟨y0, y1, y2, y3, y4, y5, y6⟩, -⟩, ⟨z0, z1, z2, z3, z4⟩, ⟨u0, u1, u2, u3, u4⟩⟩ := HV.out W (bel_undQ hSw); rw [HV1.out] at x1; rw [HV2.out] at y1; go_simp; all_goals (with_reducible rfl))
                      (try simp only [Act.put, List.setIfInBounds_toArray, List.set_cons_zero, List.set_cons_succ])
                      refine' takeT (i := 9) (v := _) rfl (by kernel_rfl) (by kernel_rfl) (by kernel_rfl) (fun _ _ _ h => h) (by rfl) (Below.refl _ _) ?_ ?_; rotate_left
                      · (intro W hSw; obtain ⟨⟨⟨x0, x1, x2, x3, x4, x5, x6⟩, ⟨y0, y1, y2, y3, y4, y5, y6⟩, -⟩, ⟨z0, z1, z2, z3, z4⟩, ⟨u0, u1, u2, u3, u4⟩⟩ := HV.out W (bel_undQ hSw); rw [HV1.out] at x1; rw [HV2.out] at y1; go_simp; all_goals (with_reducible rfl))
                      (try simp only [Act.put, List.setIfInBounds_toArray, List.set_cons_zero, List.set_cons_succ])
                      refine' takeT (i := 10) (v := _) rfl (by kernel_rfl) (by kernel_rfl) (by kernel_rfl) (fun _ _ _ h => h) (by rfl) (Below.refl _ _) ?_ ?_; rotate_left
                      · (intro W hSw; obtain ⟨⟨⟨x0, x1, x2, x3, x4, x5, x6⟩, ⟨y0, y1, y2, y3, y4, y5, y6⟩, -⟩, ⟨z0, z1, z2, z3, z4⟩, ⟨u0, u1, u2, u3, u4⟩⟩ := HV.out W (bel_undQ hSw); rw [HV1.out] at x1; rw [HV2.out] at y1; go_simp; all_goals (with_reducible rfl))
                      (try simp only [Act.put, List.setIfInBounds_toArray, List.set_cons_zero, List.set_cons_succ])
                      refine' takeT (i := 11) (v := _) rfl (by kernel_rfl) (by kernel_rfl) (by kernel_rfl) (fun _ _ _ h => h) (by rfl) (Below.refl _ _) ?_ ?_; rotate_left
                      · (intro W hSw; obtain ⟨⟨⟨x0, x1, x2, x3, x4, x5, x6⟩, ⟨y0, y1, y2, y3, y4, y5, y6⟩, -⟩, ⟨z0, z1, z2, z3, z4⟩, ⟨u0, u1, u2, u3, u4⟩⟩ := HV.out W (bel_undQ hSw); rw [HV1.out] at x1; rw [HV2.out] at y1; go_simp; all_goals (with_reducible rfl))
                      (try simp only [Act.put, List.setIfInBounds_toArray, List.set_cons_zero, List.set_cons_succ])
                      refine' takeT (i := 12) (v := _) rfl (by kernel_rfl) (by kernel_rfl) (by kernel_rfl) (fun _ _ _ h => h) (by rfl) (Below.refl _ _) ?_ ?_; rotate_left
                      · (intro W hSw; obtain ⟨⟨⟨x0, x1, x2, x3, x4, x5, x6⟩, ⟨y0, y1, y2, y3, y4, y5, y6⟩, -⟩, ⟨z0, z1, z2, z3, z4⟩, ⟨u0, u1, u2, u3, u4⟩⟩ := HV.out W (bel_undQ hSw); rw [HV1.out] at x1; rw [HV2.out] at y1; go_simp; all_goals (with_reducible rfl))
                      (try simp only [Act.put, List.setIfInBounds_toArray, List.set_cons_zero, List.set_cons_succ])
                      refine' takeT (i := 13) (v := _) rfl (by kernel_rfl) (by kernel_rfl) (by kernel_rfl) (fun _ _ _ h => h) (by rfl) (Below.refl _ _) ?_ ?_; rotate_left
                      · (intro W hSw; obtain ⟨⟨⟨x0, x1, x2, x3, x4, x5, x6⟩, ⟨y0, y1, y2, y3, y4, y5, y6⟩, -⟩, ⟨z0, z1, z2, z3, z4⟩, ⟨u0, u1, u2, u3, u4⟩⟩ := HV.out W (bel_undQ hSw); rw [HV1.out] at x1; rw [HV2.out] at y1; go_simp; all_goals (with_reducible rfl))
                      (try simp only [Act.put, List.setIfInBounds_toArray, List.set_cons_zero, List.set_cons_succ])
                      refine' takeT (i := 14) (v := _) rfl (by kernel_rfl) (by kernel_rfl) (by kernel_rfl) (fun _ _ _ h => h) (by rfl) (Below.refl _ _) ?_ ?_; rotate_left
                      · (intro W hSw; obtain ⟨⟨⟨x0, x1, x2, x3, x4, x5, x6⟩, ⟨y0, y1, y2, y3, y4, y5, y6⟩, -⟩, ⟨z0, z1, z2, z3, z4⟩, ⟨u0, u1, u2, u3, u4⟩⟩ := HV.out W (bel_undQ hSw); rw [HV1.out] at x1; rw [HV2.out] at y1; go_simp; all_goals (with_reducible rfl))
                      (try simp only [Act.put, List.setIfInBounds_toArray, List.set_cons_zero, List.set_cons_succ])
                      refine' takeT (i := 15) (v := _) rfl (by kernel_rfl) (by kernel_rfl) (by kernel_rfl) (fun _ _ _ h => h) (by rfl) (Below.refl _ _) ?_ ?_; rotate_left
                      · (intro W hSw; obtain ⟨⟨⟨x0, x1, x2, x3, x4, x5, x6⟩, ⟨y0, y1, y2, y3, y4, y5, y6⟩, -⟩, ⟨z0, z1, z2, z3, z4⟩, ⟨u0, u1, u2, u3, u4⟩⟩ := HV.out W (bel_undQ hSw); rw [HV1.out] at x1; rw [HV2.out] at y1; go_simp; all_goals (with_reducible rfl))
                      (try simp only [Act.put, List.setIfInBounds_toArray, List.set_cons_zero, List.set_cons_succ])
                      refine callT (i := 16) rfl (by kernel_rfl) (fun K hK => ?_)
                      go_simp
                      refine (HSx.out _ (HBk.out.trans ((Below.refl _ wr).drew.mono HBk.out.size))).mono ?_
                      rintro e w2 ⟨rfl, hb2⟩
                      have HB2 := hide (bel_undQ hb2)
                      refine hK.out _ _ hb2 ?_
                      clear hK K hb2
                      (try simp only [Act.put, List.setIfInBounds_toArray, List.set_cons_zero, List.set_cons_succ])
                      refine' takeT (i := 17) (v := _) rfl (by kernel_rfl) (by kernel_rfl) (by kernel_rfl) (fun _ _ _ h => h) (by rfl) (Below.refl _ _) ?_ ?_; rotate_left
                      · (intro W hSw; obtain ⟨⟨⟨x0, x1, x2, x3, x4, x5, x6⟩, ⟨y0, y1, y2, y3, y4, y5, y6⟩, -⟩, ⟨z0, z1, z2, z3, z4⟩, ⟨u0, u1, u2, u3, u4⟩⟩ := HV.out W (HB2.out.trans (hSw.mono HB2.out.size)); rw [HV1.out] at x1; rw [HV2.out] at y1; go_simp; all_goals (with_reducible rfl))
                      (try simp only [Act.put, List.setIfInBounds_toArray, List.set_cons_zero, List.set_cons_succ])
                      refine wpAnyH_done (by kernel_rfl) ?_ _
                      go_wp2
                      refine bodyPost_ret (v := .bool false) (by simp [results, Tryz.results24, go_sem]) rfl ⟨by rw [HR.out], HB.out.trans ((HBk.out.trans (HB2.out.mono HBk.out.size)).mono HB.out.size)⟩
                  · have hjI : ¬ (j : Int) < (x.vs.n : Int) := by omega
                    obtain rfl : j = x.vs.n := by omega
                    have HE : Hid (x.p = y.p) := by
                      have e2 := take_all HTj.out ((List.length_map MVe.p).trans A1.out.vs.1) ((List.length_map MVe.p).trans (A2.out.vs.1.trans (by have := Hh2.out; omega)))
                      show ((x.key.t, x.vs.xs.map MVe.p, x.it.p)) = ((y.key.t, y.vs.xs.map MVe.p, y.it.p))
                      rw [Hh0.out, e2, Hh1.out]
                    go_wp2
                    go_roundg (n - (k + 1))
                    case measure => omega
                    case rel => exact ⟨k + 1, rfl, by go_num, by omega, take_at HT.out HAx.out HAy.out HE.out, HB.out.trans (HBk.out.mono HB.out.size)⟩
            · have d2 : ((x.vs.n : Int) == (y.vs.n : Int)) = false := by simpa using h2
              have b2 : ((x.vs.n : Int) != (y.vs.n : Int)) = true := by simpa using h2
              have c2 : decide ((x.vs.n : Int) = (y.vs.n : Int)) = false := by simpa using h2
              have HR : Hid (decide (xs.map MCe.p = ys.map MCe.p) = false) := decide_eq_false (no_at HAx.out HAy.out (fun e => h2 (by
                have e2 : x.vs.xs.map MVe.p = y.vs.xs.map MVe.p := congrArg (fun (t : CeP) => t.2.1) e
                have e3 := congrArg List.length e2
                rw [List.length_map, List.length_map, A1.out.vs.1, A2.out.vs.1] at e3
                omega)))
              have Hh2 := hide h2
              clear h2
              go_upto_region 6 with fail
              refine startT (by kernel_rfl) ?_
              refine' takeT (i := 0) (v := _) rfl (by kernel_rfl) (by kernel_rfl) (by kernel_rfl) (fun _ _ _ h => h) (by rfl) (Below.refl _ _) ?_ ?_; rotate_left
              · (intro W hSw; obtain ⟨⟨x0, x1, x2, x3, x4, x5, x6⟩, ⟨y0, y1, y2, y3, y4, y5, y6⟩, q1, q2⟩ := HK.out W (bel_undQ hSw); go_simp; all_goals (with_reducible rfl))
              (try simp only [Act.put, List.setIfInBounds_toArray, List.set_cons_zero, List.set_cons_succ])
              refine' takeT (i := 1) (v := _) rfl (by kernel_rfl) (by kernel_rfl) (by kernel_rfl) (fun _ _ _ h => h) (by rfl) (Below.refl _ _) ?_ ?_; rotate_left
              · (intro W hSw; obtain ⟨⟨x0, x1, x2, x3, x4, x5, x6⟩, ⟨y0, y1, y2, y3, y4, y5, y6⟩, q1, q2⟩ := HK.out W (bel_undQ hSw); go_simp; all_goals (with_reducible rfl))
              (try simp only [Act.put, List.setIfInBounds_toArray, List.set_cons_zero, List.set_cons_succ])
              refine' takeT (i := 2) (v := _) rfl (by kernel_rfl) (by kernel_rfl) (by kernel_rfl) (fun _ _ _ h => h) (by rfl) (Below.refl _ _) ?_ ?_; rotate_left
              · (intro W hSw; obtain ⟨⟨x0, x1, x2, x3, x4, x5, x6⟩, ⟨y0, y1, y2, y3, y4, y5, y6⟩, q1, q2⟩ := HK.out W (bel_undQ hSw); go_simp; all_goals (with_reducible rfl))
              (try simp only [Act.put, List.setIfInBounds_toArray, List.set_cons_zero, List.set_cons_succ])
              refine' takeT (i := 3) (v := _) rfl (by kernel_rfl) (by kernel_rfl) (by kernel_rfl) (fun _ _ _ h => h) (by rfl) (Below.refl _ _) ?_ ?_; rotate_left
              · (intro W hSw; obtain ⟨⟨x0, x1, x2, x3, x4, x5, x6⟩, ⟨y0, y1, y2, y3, y4, y5, y6⟩, q1, q2⟩ := HK.out W (bel_undQ hSw); go_simp; all_goals (with_reducible rfl))
              (try simp only [Act.put, List.setIfInBounds_toArray, List.set_cons_zero, List.set_cons_succ])
              refine' takeT (i := 4) (v := _) rfl (by kernel_rfl) (by kernel_rfl) (by kernel_rfl) (fun _ _ _ h => h) (by rfl) (Below.refl _ _) ?_ ?_; rotate_left
              · (intro W hSw; obtain ⟨⟨x0, x1, x2, x3, x4, x5, x6⟩, ⟨y0, y1, y2, y3, y4, y5, y6⟩, q1, q2⟩ := HK.out W (bel_undQ hSw); go_simp; all_goals (with_reducible rfl))
              (try simp only [Act.put, List.setIfInBounds_toArray, List.set_cons_zero, List.set_cons_succ])
              refine' takeT (i := 5) (v := _) rfl (by kernel_rfl) (by kernel_rfl) (by kernel_rfl) (fun _ _ _ h => h) (by rfl) (Below.refl _ _) ?_ ?_; rotate_left
              · (intro W hSw; obtain ⟨⟨x0, x1, x2, x3, x4, x5, x6⟩, ⟨y0, y1, y2, y3, y4, y5, y6⟩, q1, q2⟩ := HK.out W (bel_undQ hSw); go_simp; all_goals (with_reducible rfl))
              (try simp only [Act.put, List.setIfInBounds_toArray, List.set_cons_zero, List.set_cons_succ])
              refine' takeT (i := 6) (v := _) rfl (by kernel_rfl) (by kernel_rfl) (by kernel_rfl) (fun _ _ _ h => h) (by rfl) (Below.refl _ _) ?_ ?_; rotate_left
              · (intro W hSw; obtain ⟨⟨x0, x1, x2, x3, x4, x5, x6⟩, ⟨y0, y1, y2, y3, y4, y5, y6⟩, q1, q2⟩ := HK.out W (bel_undQ hSw); go_simp; all_goals (with_reducible rfl))
              (try simp only [Act.put, List.setIfInBounds_toArray, List.set_cons_zero, List.set_cons_succ])
              refine' takeT (i := 7) (v := _) rfl (by kernel_rfl) (by kernel_rfl) (by kernel_rfl) (fun _ _ _ h => h) (by rfl) (Below.refl _ _) ?_ ?_; rotate_left
              · (intro W hSw; obtain ⟨⟨x0, x1, x2, x3, x4, x5, x6⟩, ⟨y0, y1, y2, y3, y4, y5, y6⟩, q1, q2⟩ := HK.out W (bel_undQ hSw); go_simp; all_goals (with_reducible rfl))
              (try simp only [Act.put, List.setIfInBounds_toArray, List.set_cons_zero, List.set_cons_succ])
              refine' takeT (i := 8) (v := _) rfl (by kernel_rfl) (by kernel_rfl) (by kernel_rfl) (fun _ _ _ h => h) (by rfl) (Below.refl _ _) ?_ ?_; rotate_left
              · (intro W hSw; obtain ⟨⟨x0, x1, x2, x3, x4, x5, x6⟩, ⟨y0, y1, y2, y3, y4, y5, y6⟩, q1, q2⟩ := HK.out W (bel_undQ hSw); go_simp; all_goals (with_reducible rfl))
              (try simp only [Act.put, List.setIfInBounds_toArray, List.set_cons_zero, List.set_cons_succ])
              refine' takeT (i := 9) (v := _) rfl (by kernel_rfl) (by kernel_rfl) (by kernel_rfl) (fun _ _ _ h => h) (by rfl) (Below.refl _ _) ?_ ?_; rotate_left
              · (intro W hSw; obtain ⟨⟨x0, x1, x2, x3, x4, x5, x6⟩, ⟨y0, y1, y2, y3, y4, y5, y6⟩, q1, q2⟩ := HK.out W (bel_undQ hSw); go_simp; all_goals (with_reducible rfl))
              (try simp only [Act.put, List.setIfInBounds_toArray, List.set_cons_zero, List.set_cons_succ])
              refine' takeT (i := 10) (v := _) rfl (by kernel_rfl) (by kernel_rfl) (by kernel_rfl) (fun _ _ _ h => h) (by rfl) (Below.refl _ _) ?_ ?_; rotate_left
              · (intro W hSw; obtain ⟨⟨x0, x1, x2, x3, x4, x5, x6⟩, ⟨y0, y1, y2, y3, y4, y5, y6⟩, q1, q2⟩ := HK.out W (bel_undQ hSw); go_simp; all_goals (with_reducible rfl))
              (try simp only [Act.put, List.setIfInBounds_toArray, List.set_cons_zero, List.set_cons_succ])
              refine' takeT (i := 11) (v := _) rfl (by kernel_rfl) (by kernel_rfl) (by kernel_rfl) (fun _ _ _ h => h) (by rfl) (Below.refl _ _) ?_ ?_; rotate_left
              · (intro W hSw; obtain ⟨⟨x0, x1, x2, x3, x4, x5, x6⟩, ⟨y0, y1, y2, y3, y4, y5, y6⟩, q1, q2⟩ := HK.out W (bel_undQ hSw); go_simp; all_goals (with_reducible rfl))
              (try simp only [Act.put, List.setIfInBounds_toArray, List.set_cons_zero, List.set_cons_succ])
              refine' takeT (i := 12) (v := _) rfl (by kernel_rfl) (by kernel_rfl) (by kernel_rfl) (fun _ _ _ h => h) (by rfl) (Below.refl _ _) ?_ ?_; rotate_left
              · (intro W hSw; obtain ⟨⟨x0, x1, x2, x3, x4, x5, x6⟩, ⟨y0, y1, y2, y3, y4, y5, y6⟩, q1, q2⟩ := HK.out W (bel_undQ hSw); go_simp; all_goals (with_reducible rfl))
              (try simp only [Act.put, List.setIfInBounds_toArray, List.set_cons_zero, List.set_cons_succ])
              refine' takeT (i := 13) (v := _) rfl (by kernel_rfl) (by kernel_rfl) (by kernel_rfl) (fun _ _ _ h => h) (by rfl) (Below.refl _ _) ?_ ?_; rotate_left
              · (intro W hSw; obtain ⟨⟨x0, x1, x2, x3, x4, x5, x6⟩, ⟨y0, y1, y2, y3, y4, y5, y6⟩, q1, q2⟩ := HK.out W (bel_undQ hSw); go_simp; all_goals (with_reducible rfl))
              (try simp only [Act.put, List.setIfInBounds_toArray, List.set_cons_zero, List.set_cons_succ])
              refine' takeT (i := 14) (v := _) rfl (by kernel_rfl) (by kernel_rfl) (by kernel_rfl) (fun _ _ _ h => h) (by rfl) (Below.refl _ _) ?_ ?_; rotate_left
              · (intro W hSw; obtain ⟨⟨x0, x1, x2, x3, x4, x5, x6⟩, ⟨y0, y1, y2, y3, y4, y5, y6⟩, q1, q2⟩ := HK.out W (bel_undQ hSw); go_simp; all_goals (with_reducible rfl))
              (try simp only [Act.put, List.setIfInBounds_toArray, List.set_cons_zero, List.set_cons_succ])
              refine' takeT (i := 15) (v := _) rfl (by kernel_rfl) (by kernel_rfl) (by kernel_rfl) (fun _ _ _ h => h) (by rfl) (Below.refl _ _) ?_ ?_; rotate_left
              · (intro W hSw; obtain ⟨⟨x0, x1, x2, x3, x4, x5, x6⟩, ⟨y0, y1, y2, y3, y4, y5, y6⟩, q1, q2⟩ := HK.out W (bel_undQ hSw); go_simp; all_goals (with_reducible rfl))
              (try simp only [Act.put, List.setIfInBounds_toArray, List.set_cons_zero, List.set_cons_succ])
              refine' takeT (i := 16) (v := _) rfl (by kernel_rfl) (by kernel_rfl) (by kernel_rfl) (fun _ _ _ h => h) (by rfl) (Below.refl _ _) ?_ ?_; rotate_left
              · (intro W hSw; obtain ⟨⟨x0, x1, x2, x3, x4, x5, x6⟩, ⟨y0, y1, y2, y3, y4, y5, y6⟩, q1, q2⟩ := HK.out W (bel_undQ hSw); go_simp; all_goals (with_reducible rfl))
              (try simp only [Act.put, List.setIfInBounds_toArray, List.set_cons_zero, List.set_cons_succ])
              refine' takeT (i := 17) (v := _) rfl (by kernel_rfl) (by kernel_rfl) (by kernel_rfl) (fun _ _ _ h => h) (by rfl) (Below.refl _ _) ?_ ?_; rotate_left
              · (intro W hSw; obtain ⟨⟨x0, x1, x2, x3, x4, x5, x6⟩, ⟨y0, y1, y2, y3, y4, y5, y6⟩, q1, q2⟩ := HK.out W (bel_undQ hSw); go_simp; all_goals (with_reducible rfl))
              (try simp only [Act.put, List.setIfInBounds_toArray, List.set_cons_zero, List.set_cons_succ])
              refine' takeT (i := 18) (v := _) rfl (by kernel_rfl) (by kernel_rfl) (by kernel_rfl) (fun _ _ _ h => h) (by rfl) (Below.refl _ _) ?_ ?_; rotate_left
              · (intro W hSw; obtain ⟨⟨x0, x1, x2, x3, x4, x5, x6⟩, ⟨y0, y1, y2, y3, y4, y5, y6⟩, q1, q2⟩ := HK.out W (bel_undQ hSw); go_simp; all_goals (with_reducible rfl))
              (try simp only [Act.put, List.setIfInBounds_toArray, List.set_cons_zero, List.set_cons_succ])
              refine' takeT (i := 19) (v := _) rfl (by kernel_rfl) (by kernel_rfl) (by kernel_rfl) (fun _ _ _ h => h) (by rfl) (Below.refl _ _) ?_ ?_; rotate_left
              · (intro W hSw; obtain ⟨⟨x0, x1, x2, x3, x4, x5, x6⟩, ⟨y0, y1, y2, y3, y4, y5, y6⟩, q1, q2⟩ := HK.out W (bel_undQ hSw); go_simp; all_goals (with_reducible rfl))
              (try simp only [Act.put, List.setIfInBounds_toArray, List.set_cons_zero, List.set_cons_succ])
              refine' takeT (i := 20) (v := _) rfl (by kernel_rfl) (by kernel_rfl) (by kernel_rfl) (fun _ _ _ h => h) (by rfl) (Below.refl _ _) ?_ ?_; rotate_left
              · (intro W hSw; obtain ⟨⟨x0, x1, x2, x3, x4, x5, x6⟩, ⟨y0, y1, y2, y3, y4, y5, y6⟩, q1, q2⟩ := HK.out W (bel_undQ hSw); go_simp; all_goals (with_reducible rfl))
              (try simp only [Act.put, List.setIfInBounds_toArray, List.set_cons_zero, List.set_cons_succ])
              refine' takeT (i := 21) (v := _) rfl (by kernel_rfl) (by kernel_rfl) (by kernel_rfl) (fun _ _ _ h => h) (by rfl) (Below.refl _ _) ?_ ?_; rotate_left
              · (intro W hSw; obtain ⟨⟨x0, x1, x2, x3, x4, x5, x6⟩, ⟨y0, y1, y2, y3, y4, y5, y6⟩, q1, q2⟩ := HK.out W (bel_undQ hSw); go_simp; all_goals (with_reducible rfl))
              (try simp only [Act.put, List.setIfInBounds_toArray, List.set_cons_zero, List.set_cons_succ])
              refine' takeT (i := 22) (v := _) rfl (by kernel_rfl) (by kernel_rfl) (by kernel_rfl) (fun _ _ _ h => h) (by rfl) (Below.refl _ _) ?_ ?_; rotate_left
              · (intro W hSw; obtain ⟨⟨x0, x1, x2, x3, x4, x5, x6⟩, ⟨y0, y1, y2, y3, y4, y5, y6⟩, q1, q2⟩ := HK.out W (bel_undQ hSw); go_simp; all_goals (with_reducible rfl))
              (try simp only [Act.put, List.setIfInBounds_toArray, List.set_cons_zero, List.set_cons_succ])
              refine' takeT (i := 23) (v := _) rfl (by kernel_rfl) (by kernel_rfl) (by kernel_rfl) (fun _ _ _ h => h) (by rfl) (Below.refl _ _) ?_ ?_; rotate_left
              · (intro W hSw; obtain ⟨⟨x0, x1, x2, x3, x4, x5, x6⟩, ⟨y0, y1, y2, y3, y4, y5, y6⟩, q1, q2⟩ := HK.out W (bel_undQ hSw); go_simp; all_goals (with_reducible rfl))
              (try simp only [Act.put, List.setIfInBounds_toArray, List.set_cons_zero, List.set_cons_succ])
              refine callT (i := 24) rfl (by kernel_rfl) (fun K hK => ?_)
              go_simp
              refine (HSv.out _ (Below.refl _ wr).drew).mono ?_
              rintro e w2 ⟨rfl, hb2⟩
              have HB2 := hide (bel_undQ hb2)
              refine hK.out _ _ hb2 ?_
              clear hK K hb2
              (try simp only [Act.put, List.setIfInBounds_toArray, List.set_cons_zero, List.set_cons_succ])
              refine' takeT (i := 25) (v := _) rfl (by kernel_rfl) (by kernel_rfl) (by kernel_rfl) (fun _ _ _ h => h) (by rfl) (Below.refl _ _) ?_ ?_; rotate_left
              · (intro W hSw; obtain ⟨⟨x0, x1, x2, x3, x4, x5, x6⟩, ⟨y0, y1, y2, y3, y4, y5, y6⟩, q1, q2⟩ := HK.out W (HB2.out.trans (hSw.mono HB2.out.size)); go_simp; all_goals (with_reducible rfl))
              (try simp only [Act.put, List.setIfInBounds_toArray, List.set_cons_zero, List.set_cons_succ])
              refine' takeT (i := 26) (v := _) rfl (by kernel_rfl) (by kernel_rfl) (by kernel_rfl) (fun _ _ _ h => h) (by rfl) (Below.refl _ _) ?_ ?_; rotate_left
              · (intro W hSw; obtain ⟨⟨x0, x1, x2, x3, x4, x5, x6⟩, ⟨y0, y1, y2, y3, y4, y5, y6⟩, q1, q2⟩ := HK.out W (HB2.out.trans (hSw.mono HB2.out.size)); go_simp; all_goals (with_reducible rfl))
              (try simp only [Act.put, List.setIfInBounds_toArray, List.set_cons_zero, List.set_cons_succ])
              refine' takeT (i := 27) (v := _) rfl (by kernel_rfl) (by kernel_rfl) (by kernel_rfl) (fun _ _ _ h => h) (by rfl) (Below.refl _ _) ?_ ?_; rotate_left
              · (intro W hSw; obtain ⟨⟨x0, x1, x2, x3, x4, x5, x6⟩, ⟨y0, y1, y2, y3, y4, y5, y6⟩, q1, q2⟩ := HK.out W (HB2.out.trans (hSw.mono HB2.out.size)); go_simp; all_goals (with_reducible rfl))
              (try simp only [Act.put, List.setIfInBounds_toArray, List.set_cons_zero, List.set_cons_succ])
              refine' takeT (i := 28) (v := _) rfl (by kernel_rfl) (by kernel_rfl) (by kernel_rfl) (fun _ _ _ h => h) (by rfl) (Below.refl _ _) ?_ ?_; rotate_left
              · (intro W hSw; obtain ⟨⟨x0, x1, x2, x3, x4, x5, x6⟩, ⟨y0, y1, y2, y3, y4, y5, y6⟩, q1, q2⟩ := HK.out W (HB2.out.trans (hSw.mono HB2.out.size)); go_simp; all_goals (with_reducible rfl))
              (try simp only [Act.put, List.setIfInBounds_toArray, List.set_cons_zero, List.set_cons_succ])
              refine' takeT (i := 29) (v := _) rfl (by kernel_rfl) (by kernel_rfl) (by kernel_rfl) (fun _ _ _ h => h) (by rfl) (Below.refl _ _) ?_ ?_; rotate_left
              · (intro W hSw; obtain ⟨⟨x0, x1, x2, x3, x4, x5, x6⟩, ⟨y0, y1, y2, y3, y4, y5, y6⟩, q1, q2⟩ := HK.out W (HB2.out.trans (hSw.mono HB2.out.size)); go_simp; all_goals (with_reducible rfl))
              (try simp only [Act.put, List.setIfInBounds_toArray, List.set_cons_zero, List.set_cons_succ])
              refine' takeT (i := 30) (v := _) rfl (by kernel_rfl) (by kernel_rfl) (by kernel_rfl) (fun _ _ _ h => h) (by rfl) (Below.refl _ _) ?_ ?_; rotate_left
              · (intro W hSw; obtain ⟨⟨x0, x1, x2, x3, x4, x5, x6⟩, ⟨y0, y1, y2, y3, y4, y5, y6⟩, q1, q2⟩ := HK.out W (HB2.out.trans (hSw.mono HB2.out.size)); go_simp; all_goals (with_reducible rfl))
              (try simp only [Act.put, List.setIfInBounds_toArray, List.set_cons_zero, List.set_cons_succ])
              refine' takeT (i := 31) (v := _) rfl (by kernel_rfl) (by kernel_rfl) (by kernel_rfl) (fun _ _ _ h => h) (by rfl) (Below.refl _ _) ?_ ?_; rotate_left
              · (intro W hSw; obtain ⟨⟨x0, x1, x2, x3, x4, x5, x6⟩, ⟨y0, y1, y2, y3, y4, y5, y6⟩, q1, q2⟩ := HK.out W (HB2.out.trans (hSw.mono HB2.out.size)); go_simp; all_goals (with_reducible rfl))
              (try simp only [Act.put, List.setIfInBounds_toArray, List.set_cons_zero, List.set_cons_succ])
              refine' takeT (i := 32) (v := _) rfl (by kernel_rfl) (by kernel_rfl) (by kernel_rfl) (fun _ _ _ h => h) (by rfl) (Below.refl _ _) ?_ ?_; rotate_left
              · (intro W hSw; obtain ⟨⟨x0, x1, x2, x3, x4, x5, x6⟩, ⟨y0, y1, y2, y3, y4, y5, y6⟩, q1, q2⟩ := HK.out W (HB2.out.trans (hSw.mono HB2.out.size)); go_simp; all_goals (with_reducible rfl))
              (try simp only [Act.put, List.setIfInBounds_toArray, List.set_cons_zero, List.set_cons_succ])
              refine' takeT (i := 33) (v := _) rfl (by kernel_rfl) (by kernel_rfl) (by kernel_rfl) (fun _ _ _ h => h) (by rfl) (Below.refl _ _) ?_ ?_; rotate_left
              · (intro W hSw; obtain ⟨⟨x0, x1, x2, x3, x4, x5, x6⟩, ⟨y0, y1, y2, y3, y4, y5, y6⟩, q1, q2⟩ := HK.out W (HB2.out.trans (hSw.mono HB2.out.size)); go_simp; all_goals (with_reducible rfl))
              (try simp only [Act.put, List.setIfInBounds_toArray, List.set_cons_zero, List.set_cons_succ])
              refine' takeT (i := 34) (v := _) rfl (by kernel_rfl) (by kernel_rfl) (by kernel_rfl) (fun _ _ _ h => h) (by rfl) (Below.refl _ _) ?_ ?_; rotate_left
              · (intro W hSw; obtain ⟨⟨x0, x1, x2, x3, x4, x5, x6⟩, ⟨y0, y1, y2, y3, y4, y5, y6⟩, q1, q2⟩ := HK.out W (HB2.out.trans (hSw.mono HB2.out.size)); go_simp; all_goals (with_reducible rfl))
              (try simp only [Act.put, List.setIfInBounds_toArray, List.set_cons_zero, List.set_cons_succ])
              refine' takeT (i := 35) (v := _) rfl (by kernel_rfl) (by kernel_rfl) (by kernel_rfl) (fun _ _ _ h => h) (by rfl) (Below.refl _ _) ?_ ?_; rotate_left
              · (intro W hSw; obtain ⟨⟨x0, x1, x2, x3, x4, x5, x6⟩, ⟨y0, y1, y2, y3, y4, y5, y6⟩, q1, q2⟩ := HK.out W (HB2.out.trans (hSw.mono HB2.out.size)); go_simp; all_goals (with_reducible rfl))
              (try simp only [Act.put, List.setIfInBounds_toArray, List.set_cons_zero, List.set_cons_succ])
              refine' takeT (i := 36) (v := _) rfl (by kernel_rfl) (by kernel_rfl) (by kernel_rfl) (fun _ _ _ h => h) (by rfl) (Below.refl _ _) ?_ ?_; rotate_left
              · (intro W hSw; obtain ⟨⟨x0, x1, x2, x3, x4, x5, x6⟩, ⟨y0, y1, y2, y3, y4, y5, y6⟩, q1, q2⟩ := HK.out W (HB2.out.trans (hSw.mono HB2.out.size)); go_simp; all_goals (with_reducible rfl))
              (try simp only [Act.put, List.setIfInBounds_toArray, List.set_cons_zero, List.set_cons_succ])
              refine' takeT (i := 37) (v := _) rfl (by kernel_rfl) (by kernel_rfl) (by kernel_rfl) (fun _ _ _ h => h) (by rfl) (Below.refl _ _) ?_ ?_; rotate_left
              · (intro W hSw; obtain ⟨⟨x0, x1, x2, x3, x4, x5, x6⟩, ⟨y0, y1, y2, y3, y4, y5, y6⟩, q1, q2⟩ := HK.out W (HB2.out.trans (hSw.mono HB2.out.size)); go_simp; all_goals (with_reducible rfl))
              (try simp only [Act.put, List.setIfInBounds_toArray, List.set_cons_zero, List.set_cons_succ])
              refine' takeT (i := 38) (v := _) rfl (by kernel_rfl) (by kernel_rfl) (by kernel_rfl) (fun _ _ _ h => h) (by rfl) (Below.refl _ _) ?_ ?_; rotate_left
              · (intro W hSw; obtain ⟨⟨x0, x1, x2, x3, x4, x5, x6⟩, ⟨y0, y1, y2, y3, y4, y5, y6⟩, q1, q2⟩ := HK.out W (HB2.out.trans (hSw.mono HB2.out.size)); go_simp; all_goals (with_reducible rfl))
              (try simp only [Act.put, List.setIfInBounds_toArray, List.set_cons_zero, List.set_cons_succ])
              refine' takeT (i := 39) (v := _) rfl (by kernel_rfl) (by kernel_rfl) (by kernel_rfl) (fun _ _ _ h => h) (by rfl) (Below.refl _ _) ?_ ?_; rotate_left
              · (intro W hSw; obtain ⟨⟨x0, x1, x2, x3, x4, x5, x6⟩, ⟨y0, y1, y2, y3, y4, y5, y6⟩, q1, q2⟩ := HK.out W (HB2.out.trans (hSw.mono HB2.out.size)); go_simp; all_goals (with_reducible rfl))
              (try simp only [Act.put, List.setIfInBounds_toArray, List.set_cons_zero, List.set_cons_succ])
              refine' takeT (i := 40) (v := _) rfl (by kernel_rfl) (by kernel_rfl) (by kernel_rfl) (fun _ _ _ h => h) (by rfl) (Below.refl _ _) ?_ ?_; rotate_left
              · (intro W hSw; obtain ⟨⟨x0, x1, x2, x3, x4, x5, x6⟩, ⟨y0, y1, y2, y3, y4, y5, y6⟩, q1, q2⟩ := HK.out W (HB2.out.trans (hSw.mono HB2.out.size)); go_simp; all_goals (with_reducible rfl))
              (try simp only [Act.put, List.setIfInBounds_toArray, List.set_cons_zero, List.set_cons_succ])
              refine' takeT (i := 41) (v := _) rfl (by kernel_rfl) (by kernel_rfl) (by kernel_rfl) (fun _ _ _ h => h) (by rfl) (Below.refl _ _) ?_ ?_; rotate_left
              · (intro W hSw; obtain ⟨⟨x0, x1, x2, x3, x4, x5, x6⟩, ⟨y0, y1, y2, y3, y4, y5, y6⟩, q1, q2⟩ := HK.out W (HB2.out.trans (hSw.mono HB2.out.size)); go_simp; all_goals (with_reducible rfl))
              (try simp only [Act.put, List.setIfInBounds_toArray, List.set_cons_zero, List.set_cons_succ])
              refine wpAnyH_done (by kernel_rfl) ?_ _
              go_wp2
              refine bodyPost_ret (v := .bool false) (by simp [results, Tryz.results24, go_sem]) rfl ⟨by rw [HR.out], HB.out.trans (HB2.out.mono HB.out.size)⟩
          · rw [show decide (x.it.p = y.it.p) = false from decide_eq_false h1] at HSv
            have HR : Hid (decide (xs.map MCe.p = ys.map MCe.p) = false) := decide_eq_false (no_at HAx.out HAy.out (fun e => h1 (congrArg (fun (t : CeP) => t.2.2) e)))
            clear h1
            go_upto_region 6 with fail
            refine startT (by kernel_rfl) ?_
            refine' takeT (i := 0) (v := _) rfl (by kernel_rfl) (by kernel_rfl) (by kernel_rfl) (fun _ _ _ h => h) (by rfl) (Below.refl _ _) ?_ ?_; rotate_left
            · (intro W hSw; obtain ⟨⟨x0, x1, x2, x3, x4, x5, x6⟩, ⟨y0, y1, y2, y3, y4, y5, y6⟩, q1, q2⟩ := HK.out W (bel_undQ hSw); go_simp; all_goals (with_reducible rfl))
            (try simp only [Act.put, List.setIfInBounds_toArray, List.set_cons_zero, List.set_cons_succ])
            refine' takeT (i := 1) (v := _) rfl (by kernel_rfl) (by kernel_rfl) (by kernel_rfl) (fun _ _ _ h => h) (by rfl) (Below.refl _ _) ?_ ?_; rotate_left
            · (intro W hSw; obtain ⟨⟨x0, x1, x2, x3, x4, x5, x6⟩, ⟨y0, y1, y2, y3, y4, y5, y6⟩, q1, q2⟩ := HK.out W (bel_undQ hSw); go_simp; all_goals (with_reducible rfl))
            (try simp only [Act.put, List.setIfInBounds_toArray, List.set_cons_zero, List.set_cons_succ])
            refine' takeT (i := 2) (v := _) rfl (by kernel_rfl) (by kernel_rfl) (by kernel_rfl) (fun _ _ _ h => h) (by rfl) (Below.refl _ _) ?_ ?_; rotate_left
            · (intro W hSw; obtain ⟨⟨x0, x1, x2, x3, x4, x5, x6⟩, ⟨y0, y1, y2, y3, y4, y5, y6⟩, q1, q2⟩ := HK.out W (bel_undQ hSw); go_simp; all_goals (with_reducible rfl))
            (try simp only [Act.put, List.setIfInBounds_toArray, List.set_cons_zero, List.set_cons_succ])
            refine' takeT (i := 3) (v := _) rfl (by kernel_rfl) (by kernel_rfl) (by kernel_rfl) (fun _ _ _ h => h) (by rfl) (Below.refl _ _) ?_ ?_; rotate_left
            · (intro W hSw; obtain ⟨⟨x0, x1, x2, x3, x4, x5, x6⟩, ⟨y0, y1, y2, y3, y4, y5, y6⟩, q1, q2⟩ := HK.out W (bel_undQ hSw); go_simp; all_goals (with_reducible rfl))
            (try simp only [Act.put, List.setIfInBounds_toArray, List.set_cons_zero, List.set_cons_succ])
            refine' takeT (i := 4) (v := _) rfl (by kernel_rfl) (by kernel_rfl) (by kernel_rfl) (fun _ _ _ h => h) (by rfl) (Below.refl _ _) ?_ ?_; rotate_left
            · (intro W hSw; obtain ⟨⟨x0, x1, x2, x3, x4, x5, x6⟩, ⟨y0, y1, y2, y3, y4, y5, y6⟩, q1, q2⟩ := HK.out W (bel_undQ hSw); go_simp; all_goals (with_reducible rfl))
            (try simp only [Act.put, List.setIfInBounds_toArray, List.set_cons_zero, List.set_cons_succ])
            refine' takeT (i := 5) (v := _) rfl (by kernel_rfl) (by kernel_rfl) (by kernel_rfl) (fun _ _ _ h => h) (by rfl) (Below.refl _ _) ?_ ?_; rotate_left
            · (intro W hSw; obtain ⟨⟨x0, x1, x2, x3, x4, x5, x6⟩, ⟨y0, y1, y2, y3, y4, y5, y6⟩, q1, q2⟩ := HK.out W (bel_undQ hSw); go_simp; all_goals (with_reducible rfl))
            (try simp only [Act.put, List.setIfInBounds_toArray, List.set_cons_zero, List.set_cons_succ])
            refine' takeT (i := 6) (v := _) rfl (by kernel_rfl) (by kernel_rfl) (by kernel_rfl) (fun _ _ _ h => h) (by rfl) (Below.refl _ _) ?_ ?_; rotate_left
            · (intro W hSw; obtain ⟨⟨x0, x1, x2, x3, x4, x5, x6⟩, ⟨y0, y1, y2, y3, y4, y5, y6⟩, q1, q2⟩ := HK.out W (bel_undQ hSw); go_simp; all_goals (with_reducible rfl))
            (try simp only [Act.put, List.setIfInBounds_toArray, List.set_cons_zero, List.set_cons_succ])
            refine' takeT (i := 7) (v := _) rfl (by kernel_rfl) (by kernel_rfl) (by kernel_rfl) (fun _ _ _ h => h) (by rfl) (Below.refl _ _) ?_ ?_; rotate_left
            · (intro W hSw; obtain ⟨⟨x0, x1, x2, x3, x4, x5, x6⟩, ⟨y0, y1, y2, y3, y4, y5, y6⟩, q1, q2⟩ := HK.out W (bel_undQ hSw); go_simp; all_goals (with_reducible rfl))
            (try simp only [Act.put, List.setIfInBounds_toArray, List.set_cons_zero, List.set_cons_succ])
            refine' takeT (i := 8) (v := _) rfl (by kernel_rfl) (by kernel_rfl) (by kernel_rfl) (fun _ _ _ h => h) (by rfl) (Below.refl _ _) ?_ ?_; rotate_left
            · (intro W hSw; obtain ⟨⟨x0, x1, x2, x3, x4, x5, x6⟩, ⟨y0, y1, y2, y3, y4, y5, y6⟩, q1, q2⟩ := HK.out W (bel_undQ hSw); go_simp; all_goals (with_reducible rfl))
            (try simp only [Act.put, List.setIfInBounds_toArray, List.set_cons_zero, List.set_cons_succ])
            refine' takeT (i := 9) (v := _) rfl (by kernel_rfl) (by kernel_rfl) (by kernel_rfl) (fun _ _ _ h => h) (by rfl) (Below.refl _ _) ?_ ?_; rotate_left
            · (intro W hSw; obtain ⟨⟨x0, x1, x2, x3, x4, x5, x6⟩, ⟨y0, y1, y2, y3, y4, y5, y6⟩, q1, q2⟩ := HK.out W (bel_undQ hSw); go_simp; all_goals (with_reducible rfl))
            (try simp only [Act.put, List.setIfInBounds_toArray, List.set_cons_zero, List.set_cons_succ])
            refine' takeT (i := 10) (v := _) rfl (by kernel_rfl) (by kernel_rfl) (by kernel_rfl) (fun _ _ _ h => h) (by rfl) (Below.refl _ _) ?_ ?_; rotate_left
            · (intro W hSw; obtain ⟨⟨x0, x1, x2, x3, x4, x5, x6⟩, ⟨y0, y1, y2, y3, y4, y5, y6⟩, q1, q2⟩ := HK.out W (bel_undQ hSw); go_simp; all_goals (with_reducible rfl))
            (try simp only [Act.put, List.setIfInBounds_toArray, List.set_cons_zero, List.set_cons_succ])
            refine' takeT (i := 11) (v := _) rfl (by kernel_rfl) (by kernel_rfl) (by kernel_rfl) (fun _ _ _ h => h) (by rfl) (Below.refl _ _) ?_ ?_; rotate_left
            · (intro W hSw; obtain ⟨⟨x0, x1, x2, x3, x4, x5, x6⟩, ⟨y0, y1, y2, y3, y4, y5, y6⟩, q1, q2⟩ := HK.out W (bel_undQ hSw); go_simp; all_goals (with_reducible rfl))
            (try simp only [Act.put, List.setIfInBounds_toArray, List.set_cons_zero, List.set_cons_succ])
            refine' takeT (i := 12) (v := _) rfl (by kernel_rfl) (by kernel_rfl) (by kernel_rfl) (fun _ _ _ h => h) (by rfl) (Below.refl _ _) ?_ ?_; rotate_left
            · (intro W hSw; obtain ⟨⟨x0, x1, x2, x3, x4, x5, x6⟩, ⟨y0, y1, y2, y3, y4, y5, y6⟩, q1, q2⟩ := HK.out W (bel_undQ hSw); go_simp; all_goals (with_reducible rfl))
            (try simp only [Act.put, List.setIfInBounds_toArray, List.set_cons_zero, List.set_cons_succ])
            refine' takeT (i := 13) (v := _) rfl (by kernel_rfl) (by kernel_rfl) (by kernel_rfl) (fun _ _ _ h => h) (by rfl) (Below.refl _ _) ?_ ?_; rotate_left
            · (intro W hSw; obtain ⟨⟨x0, x1, x2, x3, x4, x5, x6⟩, ⟨y0, y1, y2, y3, y4, y5, y6⟩, q1, q2⟩ := HK.out W (bel_undQ hSw); go_simp; all_goals (with_reducible rfl))
            (try simp only [Act.put, List.setIfInBounds_toArray, List.set_cons_zero, List.set_cons_succ])
            refine' takeT (i := 14) (v := _) rfl (by kernel_rfl) (by kernel_rfl) (by kernel_rfl) (fun _ _ _ h => h) (by rfl) (Below.refl _ _) ?_ ?_; rotate_left
            · (intro W hSw; obtain ⟨⟨x0, x1, x2, x3, x4, x5, x6⟩, ⟨y0, y1, y2, y3, y4, y5, y6⟩, q1, q2⟩ := HK.out W (bel_undQ hSw); go_simp; all_goals (with_reducible rfl))
            (try simp only [Act.put, List.setIfInBounds_toArray, List.set_cons_zero, List.set_cons_succ])
            refine' takeT (i := 15) (v := _) rfl (by kernel_rfl) (by kernel_rfl) (by kernel_rfl) (fun _ _ _ h => h) (by rfl) (Below.refl _ _) ?_ ?_; rotate_left
            · (intro W hSw; obtain ⟨⟨x0, x1, x2, x3, x4, x5, x6⟩, ⟨y0, y1, y2, y3, y4, y5, y6⟩, q1, q2⟩ := HK.out W (bel_undQ hSw); go_simp; all_goals (with_reducible rfl))
            (try simp only [Act.put, List.setIfInBounds_toArray, List.set_cons_zero, List.set_cons_succ])
            refine' takeT (i := 16) (v := _) rfl (by kernel_rfl) (by kernel_rfl) (by kernel_rfl) (fun _ _ _ h => h) (by rfl) (Below.refl _ _) ?_ ?_; rotate_left
            · (intro W hSw; obtain ⟨⟨x0, x1, x2, x3, x4, x5, x6⟩, ⟨y0, y1, y2, y3, y4, y5, y6⟩, q1, q2⟩ := HK.out W (bel_undQ hSw); go_simp; all_goals (with_reducible rfl))
            (try simp only [Act.put, List.setIfInBounds_toArray, List.set_cons_zero, List.set_cons_succ])
            refine' takeT (i := 17) (v := _) rfl (by kernel_rfl) (by kernel_rfl) (by kernel_rfl) (fun _ _ _ h => h) (by rfl) (Below.refl _ _) ?_ ?_; rotate_left
            · (intro W hSw; obtain ⟨⟨x0, x1, x2, x3, x4, x5, x6⟩, ⟨y0, y1, y2, y3, y4, y5, y6⟩, q1, q2⟩ := HK.out W (bel_undQ hSw); go_simp; all_goals (with_reducible rfl))
            (try simp only [Act.put, List.setIfInBounds_toArray, List.set_cons_zero, List.set_cons_succ])
            refine' takeT (i := 18) (v := _) rfl (by kernel_rfl) (by kernel_rfl) (by kernel_rfl) (fun _ _ _ h => h) (by rfl) (Below.refl _ _) ?_ ?_; rotate_left
            · (intro W hSw; obtain ⟨⟨x0, x1, x2, x3, x4, x5, x6⟩, ⟨y0, y1, y2, y3, y4, y5, y6⟩, q1, q2⟩ := HK.out W (bel_undQ hSw); go_simp; all_goals (with_reducible rfl))
            (try simp only [Act.put, List.setIfInBounds_toArray, List.set_cons_zero, List.set_cons_succ])
            refine' takeT (i := 19) (v := _) rfl (by kernel_rfl) (by kernel_rfl) (by kernel_rfl) (fun _ _ _ h => h) (by rfl) (Below.refl _ _) ?_ ?_; rotate_left
            · (intro W hSw; obtain ⟨⟨x0, x1, x2, x3, x4, x5, x6⟩, ⟨y0, y1, y2, y3, y4, y5, y6⟩, q1, q2⟩ := HK.out W (bel_undQ hSw); go_simp; all_goals (with_reducible rfl))
            (try simp only [Act.put, List.setIfInBounds_toArray, List.set_cons_zero, List.set_cons_succ])
            refine' takeT (i := 20) (v := _) rfl (by kernel_rfl) (by kernel_rfl) (by kernel_rfl) (fun _ _ _ h => h) (by rfl) (Below.refl _ _) ?_ ?_; rotate_left
            · (intro W hSw; obtain ⟨⟨x0, x1, x2, x3, x4, x5, x6⟩, ⟨y0, y1, y2, y3, y4, y5, y6⟩, q1, q2⟩ := HK.out W (bel_undQ hSw); go_simp; all_goals (with_reducible rfl))
            (try simp only [Act.put, List.setIfInBounds_toArray, List.set_cons_zero, List.set_cons_succ])
            refine' takeT (i := 21) (v := _) rfl (by kernel_rfl) (by kernel_rfl) (by kernel_rfl) (fun _ _ _ h => h) (by rfl) (Below.refl _ _) ?_ ?_; rotate_left
            · (intro W hSw; obtain ⟨⟨x0, x1, x2, x3, x4, x5, x6⟩, ⟨y0, y1, y2, y3, y4, y5, y6⟩, q1, q2⟩ := HK.out W (bel_undQ hSw); go_simp; all_goals (with_reducible rfl))
            (try simp only [Act.put, List.setIfInBounds_toArray, List.set_cons_zero, List.set_cons_succ])
            refine' takeT (i := 22) (v := _) rfl (by kernel_rfl) (by kernel_rfl) (by kernel_rfl) (fun _ _ _ h => h) (by rfl) (Below.refl _ _) ?_ ?_; rotate_left
            · (intro W hSw; obtain ⟨⟨x0, x1, x2, x3, x4, x5, x6⟩, ⟨y0, y1, y2, y3, y4, y5, y6⟩, q1, q2⟩ := HK.out W (bel_undQ hSw); go_simp; all_goals (with_reducible rfl))
            (try simp only [Act.put, List.setIfInBounds_toArray, List.set_cons_zero, List.set_cons_succ])
            refine' takeT (i := 23) (v := _) rfl (by kernel_rfl) (by kernel_rfl) (by kernel_rfl) (fun _ _ _ h => h) (by rfl) (Below.refl _ _) ?_ ?_; rotate_left
            · (intro W hSw; obtain ⟨⟨x0, x1, x2, x3, x4, x5, x6⟩, ⟨y0, y1, y2, y3, y4, y5, y6⟩, q1, q2⟩ := HK.out W (bel_undQ hSw); go_simp; all_goals (with_reducible rfl))
            (try simp only [Act.put, List.setIfInBounds_toArray, List.set_cons_zero, List.set_cons_succ])
            refine callT (i := 24) rfl (by kernel_rfl) (fun K hK => ?_)
            go_simp
            refine (HSv.out _ (Below.refl _ wr).drew).mono ?_
            rintro e w2 ⟨rfl, hb2⟩
            have HB2 := hide (bel_undQ hb2)
            refine hK.out _ _ hb2 ?_
            clear hK K hb2
            (try simp only [Act.put, List.setIfInBounds_toArray, List.set_cons_zero, List.set_cons_succ])
            refine' takeT (i := 25) (v := _) rfl (by kernel_rfl) (by kernel_rfl) (by kernel_rfl) (fun _ _ _ h => h) (by rfl) (Below.refl _ _) ?_ ?_; rotate_left
            · (intro W hSw; obtain ⟨⟨x0, x1, x2, x3, x4, x5, x6⟩, ⟨y0, y1, y2, y3, y4, y5, y6⟩, q1, q2⟩ := HK.out W (HB2.out.trans (hSw.mono HB2.out.size)); go_simp; all_goals (with_reducible rfl))
            (try simp only [Act.put, List.setIfInBounds_toArray, List.set_cons_zero, List.set_cons_succ])
            refine' takeT (i := 26) (v := _) rfl (by kernel_rfl) (by kernel_rfl) (by kernel_rfl) (fun _ _ _ h => h) (by rfl) (Below.refl _ _) ?_ ?_; rotate_left
            · (intro W hSw; obtain ⟨⟨x0, x1, x2, x3, x4, x5, x6⟩, ⟨y0, y1, y2, y3, y4, y5, y6⟩, q1, q2⟩ := HK.out W (HB2.out.trans (hSw.mono HB2.out.size)); go_simp; all_goals (with_reducible rfl))
            (try simp only [Act.put, List.setIfInBounds_toArray, List.set_cons_zero, List.set_cons_succ])
            refine' takeT (i := 27) (v := _) rfl (by kernel_rfl) (by kernel_rfl) (by kernel_rfl) (fun _ _ _ h => h) (by rfl) (Below.refl _ _) ?_ ?_; rotate_left
            · (intro W hSw; obtain ⟨⟨x0, x1, x2, x3, x4, x5, x6⟩, ⟨y0, y1, y2, y3, y4, y5, y6⟩, q1, q2⟩ := HK.out W (HB2.out.trans (hSw.mono HB2.out.size)); go_simp; all_goals (with_reducible rfl))
            (try simp only [Act.put, List.setIfInBounds_toArray, List.set_cons_zero, List.set_cons_succ])
            refine skipT (i := 28) rfl (by kernel_rfl) (by kernel_rfl) (by kernel_rfl) (fun _ _ _ h => h) (by rfl) (Below.refl _ _) ?_
            (try simp only [Act.put, List.setIfInBounds_toArray, List.set_cons_zero, List.set_cons_succ])
            refine skipT (i := 29) rfl (by kernel_rfl) (by kernel_rfl) (by kernel_rfl) (fun _ _ _ h => h) (by rfl) (Below.refl _ _) ?_
            (try simp only [Act.put, List.setIfInBounds_toArray, List.set_cons_zero, List.set_cons_succ])
            refine skipT (i := 30) rfl (by kernel_rfl) (by kernel_rfl) (by kernel_rfl) (fun _ _ _ h => h) (by rfl) (Below.refl _ _) ?_
            (try simp only [Act.put, List.setIfInBounds_toArray, List.set_cons_zero, List.set_cons_succ])
            refine skipT (i := 31) rfl (by kernel_rfl) (by kernel_rfl) (by kernel_rfl) (fun _ _ _ h => h) (by rfl) (Below.refl _ _) ?_
            (try simp only [Act.put, List.setIfInBounds_toArray, List.set_cons_zero, List.set_cons_succ])
            refine skipT (i := 32) rfl (by kernel_rfl) (by kernel_rfl) (by kernel_rfl) (fun _ _ _ h => h) (by rfl) (Below.refl _ _) ?_
            (try simp only [Act.put, List.setIfInBounds_toArray, List.set_cons_zero, List.set_cons_succ])
            refine skipT (i := 33) rfl (by kernel_rfl) (by kernel_rfl) (by kernel_rfl) (fun _ _ _ h => h) (by rfl) (Below.refl _ _) ?_
            (try simp only [Act.put, List.setIfInBounds_toArray, List.set_cons_zero, List.set_cons_succ])
            refine skipT (i := 34) rfl (by kernel_rfl) (by kernel_rfl) (by kernel_rfl) (fun _ _ _ h => h) (by rfl) (Below.refl _ _) ?_
            (try simp only [Act.put, List.setIfInBounds_toArray, List.set_cons_zero, List.set_cons_succ])
            refine skipT (i := 35) rfl (by kernel_rfl) (by kernel_rfl) (by kernel_rfl) (fun _ _ _ h => h) (by rfl) (Below.refl _ _) ?_
            (try simp only [Act.put, List.setIfInBounds_toArray, List.set_cons_zero, List.set_cons_succ])
            refine skipT (i := 36) rfl (by kernel_rfl) (by kernel_rfl) (by kernel_rfl) (fun _ _ _ h => h) (by rfl) (Below.refl _ _) ?_
            (try simp only [Act.put, List.setIfInBounds_toArray, List.set_cons_zero, List.set_cons_succ])
            refine skipT (i := 37) rfl (by kernel_rfl) (by kernel_rfl) (by kernel_rfl) (fun _ _ _ h => h) (by rfl) (Below.refl _ _) ?_
            (try simp only [Act.put, List.setIfInBounds_toArray, List.set_cons_zero, List.set_cons_succ])
            refine skipT (i := 38) rfl (by kernel_rfl) (by kernel_rfl) (by kernel_rfl) (fun _ _ _ h => h) (by rfl) (Below.refl _ _) ?_
            (try simp only [Act.put, List.setIfInBounds_toArray, List.set_cons_zero, List.set_cons_succ])
            refine skipT (i := 39) rfl (by kernel_rfl) (by kernel_rfl) (by kernel_rfl) (fun _ _ _ h => h) (by rfl) (Below.refl _ _) ?_
            (try simp only [Act.put, List.setIfInBounds_toArray, List.set_cons_zero, List.set_cons_succ])
            refine skipT (i := 40) rfl (by kernel_rfl) (by kernel_rfl) (by kernel_rfl) (fun _ _ _ h => h) (by rfl) (Below.refl _ _) ?_
            (try simp only [Act.put, List.setIfInBounds_toArray, List.set_cons_zero, List.set_cons_succ])
            refine' takeT (i := 41) (v := _) rfl (by kernel_rfl) (by kernel_rfl) (by kernel_rfl) (fun _ _ _ h => h) (by rfl) (Below.refl _ _) ?_ ?_; rotate_left
            · (intro W hSw; obtain ⟨⟨x0, x1, x2, x3, x4, x5, x6⟩, ⟨y0, y1, y2, y3, y4, y5, y6⟩, q1, q2⟩ := HK.out W (HB2.out.trans (hSw.mono HB2.out.size)); go_simp; all_goals (with_reducible rfl))
            (try simp only [Act.put, List.setIfInBounds_toArray, List.set_cons_zero, List.set_cons_succ])
            refine wpAnyH_done (by kernel_rfl) ?_ _
            go_wp2
            refine bodyPost_ret (v := .bool false) (by simp [results, Tryz.results24, go_sem]) rfl ⟨by rw [HR.out], HB.out.trans (HB2.out.mono HB.out.size)⟩
        · rw [decide_eq_false h0] at hq
          have HR : Hid (decide (xs.map MCe.p = ys.map MCe.p) = false) := decide_eq_false (no_at HAx.out HAy.out (fun e => h0 (congrArg (fun (t : CeP) => t.1) e)))
          clear h0
          go_upto_region 6 with fail
          refine startT (by kernel_rfl) ?_
          refine' takeT (i := 0) (v := _) rfl (by kernel_rfl) (by kernel_rfl) (by kernel_rfl) (fun _ _ _ h => h) (by rfl) (Below.refl _ _) ?_ ?_; rotate_left
          · (intro W hSw; obtain ⟨⟨x0, x1, x2, x3, x4, x5, x6⟩, ⟨y0, y1, y2, y3, y4, y5, y6⟩, q1, q2⟩ := HK.out W (bel_undQ hSw); go_simp; all_goals (with_reducible rfl))
          (try simp only [Act.put, List.setIfInBounds_toArray, List.set_cons_zero, List.set_cons_succ])
          refine' takeT (i := 1) (v := _) rfl (by kernel_rfl) (by kernel_rfl) (by kernel_rfl) (fun _ _ _ h => h) (by rfl) (Below.refl _ _) ?_ ?_; rotate_left
          · (intro W hSw; obtain ⟨⟨x0, x1, x2, x3, x4, x5, x6⟩, ⟨y0, y1, y2, y3, y4, y5, y6⟩, q1, q2⟩ := HK.out W (bel_undQ hSw); go_simp; all_goals (with_reducible rfl))
          (try simp only [Act.put, List.setIfInBounds_toArray, List.set_cons_zero, List.set_cons_succ])
          refine' takeT (i := 2) (v := _) rfl (by kernel_rfl) (by kernel_rfl) (by kernel_rfl) (fun _ _ _ h => h) (by rfl) (Below.refl _ _) ?_ ?_; rotate_left
          · (intro W hSw; obtain ⟨⟨x0, x1, x2, x3, x4, x5, x6⟩, ⟨y0, y1, y2, y3, y4, y5, y6⟩, q1, q2⟩ := HK.out W (bel_undQ hSw); go_simp; all_goals (with_reducible rfl))
          (try simp only [Act.put, List.setIfInBounds_toArray, List.set_cons_zero, List.set_cons_succ])
          refine' takeT (i := 3) (v := _) rfl (by kernel_rfl) (by kernel_rfl) (by kernel_rfl) (fun _ _ _ h => h) (by rfl) (Below.refl _ _) ?_ ?_; rotate_left
          · (intro W hSw; obtain ⟨⟨x0, x1, x2, x3, x4, x5, x6⟩, ⟨y0, y1, y2, y3, y4, y5, y6⟩, q1, q2⟩ := HK.out W (bel_undQ hSw); go_simp; all_goals (with_reducible rfl))
          (try simp only [Act.put, List.setIfInBounds_toArray, List.set_cons_zero, List.set_cons_succ])
          refine' takeT (i := 4) (v := _) rfl (by kernel_rfl) (by kernel_rfl) (by kernel_rfl) (fun _ _ _ h => h) (by rfl) (Below.refl _ _) ?_ ?_; rotate_left
          · (intro W hSw; obtain ⟨⟨x0, x1, x2, x3, x4, x5, x6⟩, ⟨y0, y1, y2, y3, y4, y5, y6⟩, q1, q2⟩ := HK.out W (bel_undQ hSw); go_simp; all_goals (with_reducible rfl))
          (try simp only [Act.put, List.setIfInBounds_toArray, List.set_cons_zero, List.set_cons_succ])
          refine' takeT (i := 5) (v := _) rfl (by kernel_rfl) (by kernel_rfl) (by kernel_rfl) (fun _ _ _ h => h) (by rfl) (Below.refl _ _) ?_ ?_; rotate_left
          · (intro W hSw; obtain ⟨⟨x0, x1, x2, x3, x4, x5, x6⟩, ⟨y0, y1, y2, y3, y4, y5, y6⟩, q1, q2⟩ := HK.out W (bel_undQ hSw); go_simp; all_goals (with_reducible rfl))
          (try simp only [Act.put, List.setIfInBounds_toArray, List.set_cons_zero, List.set_cons_succ])
          refine' takeT (i := 6) (v := _) rfl (by kernel_rfl) (by kernel_rfl) (by kernel_rfl) (fun _ _ _ h => h) (by rfl) (Below.refl _ _) ?_ ?_; rotate_left
          · (intro W hSw; obtain ⟨⟨x0, x1, x2, x3, x4, x5, x6⟩, ⟨y0, y1, y2, y3, y4, y5, y6⟩, q1, q2⟩ := HK.out W (bel_undQ hSw); go_simp; all_goals (with_reducible rfl))
          (try simp only [Act.put, List.setIfInBounds_toArray, List.set_cons_zero, List.set_cons_succ])
          refine' takeT (i := 7) (v := _) rfl (by kernel_rfl) (by kernel_rfl) (by kernel_rfl) (fun _ _ _ h => h) (by rfl) (Below.refl _ _) ?_ ?_; rotate_left
          · (intro W hSw; obtain ⟨⟨x0, x1, x2, x3, x4, x5, x6⟩, ⟨y0, y1, y2, y3, y4, y5, y6⟩, q1, q2⟩ := HK.out W (bel_undQ hSw); go_simp; all_goals (with_reducible rfl))
          (try simp only [Act.put, List.setIfInBounds_toArray, List.set_cons_zero, List.set_cons_succ])
          refine' takeT (i := 8) (v := _) rfl (by kernel_rfl) (by kernel_rfl) (by kernel_rfl) (fun _ _ _ h => h) (by rfl) (Below.refl _ _) ?_ ?_; rotate_left
          · (intro W hSw; obtain ⟨⟨x0, x1, x2, x3, x4, x5, x6⟩, ⟨y0, y1, y2, y3, y4, y5, y6⟩, q1, q2⟩ := HK.out W (bel_undQ hSw); go_simp; all_goals (with_reducible rfl))
          (try simp only [Act.put, List.setIfInBounds_toArray, List.set_cons_zero, List.set_cons_succ])
          refine' takeT (i := 9) (v := _) rfl (by kernel_rfl) (by kernel_rfl) (by kernel_rfl) (fun _ _ _ h => h) (by rfl) (Below.refl _ _) ?_ ?_; rotate_left
          · (intro W hSw; obtain ⟨⟨x0, x1, x2, x3, x4, x5, x6⟩, ⟨y0, y1, y2, y3, y4, y5, y6⟩, q1, q2⟩ := HK.out W (bel_undQ hSw); go_simp; all_goals (with_reducible rfl))
          (try simp only [Act.put, List.setIfInBounds_toArray, List.set_cons_zero, List.set_cons_succ])
          refine' takeT (i := 10) (v := _) rfl (by kernel_rfl) (by kernel_rfl) (by kernel_rfl) (fun _ _ _ h => h) (by rfl) (Below.refl _ _) ?_ ?_; rotate_left
          · (intro W hSw; obtain ⟨⟨x0, x1, x2, x3, x4, x5, x6⟩, ⟨y0, y1, y2, y3, y4, y5, y6⟩, q1, q2⟩ := HK.out W (bel_undQ hSw); go_simp; all_goals (with_reducible rfl))
          (try simp only [Act.put, List.setIfInBounds_toArray, List.set_cons_zero, List.set_cons_succ])
          refine' takeT (i := 11) (v := _) rfl (by kernel_rfl) (by kernel_rfl) (by kernel_rfl) (fun _ _ _ h => h) (by rfl) (Below.refl _ _) ?_ ?_; rotate_left
          · (intro W hSw; obtain ⟨⟨x0, x1, x2, x3, x4, x5, x6⟩, ⟨y0, y1, y2, y3, y4, y5, y6⟩, q1, q2⟩ := HK.out W (bel_undQ hSw); go_simp; all_goals (with_reducible rfl))
          (try simp only [Act.put, List.setIfInBounds_toArray, List.set_cons_zero, List.set_cons_succ])
          refine' takeT (i := 12) (v := _) rfl (by kernel_rfl) (by kernel_rfl) (by kernel_rfl) (fun _ _ _ h => h) (by rfl) (Below.refl _ _) ?_ ?_; rotate_left
          · (intro W hSw; obtain ⟨⟨x0, x1, x2, x3, x4, x5, x6⟩, ⟨y0, y1, y2, y3, y4, y5, y6⟩, q1, q2⟩ := HK.out W (bel_undQ hSw); go_simp; all_goals (with_reducible rfl))
          (try simp only [Act.put, List.setIfInBounds_toArray, List.set_cons_zero, List.set_cons_succ])
          refine' takeT (i := 13) (v := _) rfl (by kernel_rfl) (by kernel_rfl) (by kernel_rfl) (fun _ _ _ h => h) (by rfl) (Below.refl _ _) ?_ ?_; rotate_left
          · (intro W hSw; obtain ⟨⟨x0, x1, x2, x3, x4, x5, x6⟩, ⟨y0, y1, y2, y3, y4, y5, y6⟩, q1, q2⟩ := HK.out W (bel_undQ hSw); go_simp; all_goals (with_reducible rfl))
          (try simp only [Act.put, List.setIfInBounds_toArray, List.set_cons_zero, List.set_cons_succ])
          refine skipT (i := 14) rfl (by kernel_rfl) (by kernel_rfl) (by kernel_rfl) (fun _ _ _ h => h) (by rfl) (Below.refl _ _) ?_
          (try simp only [Act.put, List.setIfInBounds_toArray, List.set_cons_zero, List.set_cons_succ])
          refine skipT (i := 15) rfl (by kernel_rfl) (by kernel_rfl) (by kernel_rfl) (fun _ _ _ h => h) (by rfl) (Below.refl _ _) ?_
          (try simp only [Act.put, List.setIfInBounds_toArray, List.set_cons_zero, List.set_cons_succ])
          refine skipT (i := 16) rfl (by kernel_rfl) (by kernel_rfl) (by kernel_rfl) (fun _ _ _ h => h) (by rfl) (Below.refl _ _) ?_
          (try simp only [Act.put, List.setIfInBounds_toArray, List.set_cons_zero, List.set_cons_succ])
          refine skipT (i := 17) rfl (by kernel_rfl) (by kernel_rfl) (by kernel_rfl) (fun _ _ _ h => h) (by rfl) (Below.refl _ _) ?_
          (try simp only [Act.put, List.setIfInBounds_toArray, List.set_cons_zero, List.set_cons_succ])
          refine skipT (i := 18) rfl (by kernel_rfl) (by kernel_rfl) (by kernel_rfl) (fun _ _ _ h => h) (by rfl) (Below.refl _ _) ?_
          (try simp only [Act.put, List.setIfInBounds_toArray, List.set_cons_zero, List.set_cons_succ])
          refine skipT (i := 19) rfl (by kernel_rfl) (by kernel_rfl) (by kernel_rfl) (fun _ _ _ h => h) (by rfl) (Below.refl _ _) ?_
          (try simp only [Act.put, List.setIfInBounds_toArray, List.set_cons_zero, List.set_cons_succ])
          refine skipT (i := 20) rfl (by kernel_rfl) (by kernel_rfl) (by kernel_rfl) (fun _ _ _ h => h) (by rfl) (Below.refl _ _) ?_
          (try simp only [Act.put, List.setIfInBounds_toArray, List.set_cons_zero, List.set_cons_succ])
          refine skipT (i := 21) rfl (by kernel_rfl) (by kernel_rfl) (by kernel_rfl) (fun _ _ _ h => h) (by rfl) (Below.refl _ _) ?_
          (try simp only [Act.put, List.setIfInBounds_toArray, List.set_cons_zero, List.set_cons_succ])
          refine skipT (i := 22) rfl (by kernel_rfl) (by kernel_rfl) (by kernel_rfl) (fun _ _ _ h => h) (by rfl) (Below.refl _ _) ?_
          (try simp only [Act.put, List.setIfInBounds_toArray, List.set_cons_zero, List.set_cons_succ])
          refine skipT (i := 23) rfl (by kernel_rfl) (by kernel_rfl) (by kernel_rfl) (fun _ _ _ h => h) (by rfl) (Below.refl _ _) ?_
          (try simp only [Act.put, List.setIfInBounds_toArray, List.set_cons_zero, List.set_cons_succ])
          refine skipT (i := 24) rfl (by kernel_rfl) (by kernel_rfl) (by kernel_rfl) (fun _ _ _ h => h) (by rfl) (Below.refl _ _) ?_
          (try simp only [Act.put, List.setIfInBounds_toArray, List.set_cons_zero, List.set_cons_succ])
          refine skipT (i := 25) rfl (by kernel_rfl) (by kernel_rfl) (by kernel_rfl) (fun _ _ _ h => h) (by rfl) (Below.refl _ _) ?_
          (try simp only [Act.put, List.setIfInBounds_toArray, List.set_cons_zero, List.set_cons_succ])
          refine' takeT (i := 26) (v := _) rfl (by kernel_rfl) (by kernel_rfl) (by kernel_rfl) (fun _ _ _ h => h) (by rfl) (Below.refl _ _) ?_ ?_; rotate_left
          · (intro W hSw; obtain ⟨⟨x0, x1, x2, x3, x4, x5, x6⟩, ⟨y0, y1, y2, y3, y4, y5, y6⟩, q1, q2⟩ := HK.out W (bel_undQ hSw); go_simp; all_goals (with_reducible rfl))
          (try simp only [Act.put, List.setIfInBounds_toArray, List.set_cons_zero, List.set_cons_succ])
          refine' takeT (i := 27) (v := _) rfl (by kernel_rfl) (by kernel_rfl) (by kernel_rfl) (fun _ _ _ h => h) (by rfl) (Below.refl _ _) ?_ ?_; rotate_left
          · (intro W hSw; obtain ⟨⟨x0, x1, x2, x3, x4, x5, x6⟩, ⟨y0, y1, y2, y3, y4, y5, y6⟩, q1, q2⟩ := HK.out W (bel_undQ hSw); go_simp; all_goals (with_reducible rfl))
          (try simp only [Act.put, List.setIfInBounds_toArray, List.set_cons_zero, List.set_cons_succ])
          refine skipT (i := 28) rfl (by kernel_rfl) (by kernel_rfl) (by kernel_rfl) (fun _ _ _ h => h) (by rfl) (Below.refl _ _) ?_
          (try simp only [Act.put, List.setIfInBounds_toArray, List.set_cons_zero, List.set_cons_succ])
          refine skipT (i := 29) rfl (by kernel_rfl) (by kernel_rfl) (by kernel_rfl) (fun _ _ _ h => h) (by rfl) (Below.refl _ _) ?_
          (try simp only [Act.put, List.setIfInBounds_toArray, List.set_cons_zero, List.set_cons_succ])
          refine skipT (i := 30) rfl (by kernel_rfl) (by kernel_rfl) (by kernel_rfl) (fun _ _ _ h => h) (by rfl) (Below.refl _ _) ?_
          (try simp only [Act.put, List.setIfInBounds_toArray, List.set_cons_zero, List.set_cons_succ])
          refine skipT (i := 31) rfl (by kernel_rfl) (by kernel_rfl) (by kernel_rfl) (fun _ _ _ h => h) (by rfl) (Below.refl _ _) ?_
          (try simp only [Act.put, List.setIfInBounds_toArray, List.set_cons_zero, List.set_cons_succ])
          refine skipT (i := 32) rfl (by kernel_rfl) (by kernel_rfl) (by kernel_rfl) (fun _ _ _ h => h) (by rfl) (Below.refl _ _) ?_
          (try simp only [Act.put, List.setIfInBounds_toArray, List.set_cons_zero, List.set_cons_succ])
          refine skipT (i := 33) rfl (by kernel_rfl) (by kernel_rfl) (by kernel_rfl) (fun _ _ _ h => h) (by rfl) (Below.refl _ _) ?_
          (try simp only [Act.put, List.setIfInBounds_toArray, List.set_cons_zero, List.set_cons_succ])
          refine skipT (i := 34) rfl (by kernel_rfl) (by kernel_rfl) (by kernel_rfl) (fun _ _ _ h => h) (by rfl) (Below.refl _ _) ?_
          (try simp only [Act.put, List.setIfInBounds_toArray, List.set_cons_zero, List.set_cons_succ])
          refine skipT (i := 35) rfl (by kernel_rfl) (by kernel_rfl) (by kernel_rfl) (fun _ _ _ h => h) (by rfl) (Below.refl _ _) ?_
          (try simp only [Act.put, List.setIfInBounds_toArray, List.set_cons_zero, List.set_cons_succ])
          refine skipT (i := 36) rfl (by kernel_rfl) (by kernel_rfl) (by kernel_rfl) (fun _ _ _ h => h) (by rfl) (Below.refl _ _) ?_
          (try simp only [Act.put, List.setIfInBounds_toArray, List.set_cons_zero, List.set_cons_succ])
          refine skipT (i := 37) rfl (by kernel_rfl) (by kernel_rfl) (by kernel_rfl) (fun _ _ _ h => h) (by rfl) (Below.refl _ _) ?_
          (try simp only [Act.put, List.setIfInBounds_toArray, List.set_cons_zero, List.set_cons_succ])
          refine skipT (i := 38) rfl (by kernel_rfl) (by kernel_rfl) (by kernel_rfl) (fun _ _ _ h => h) (by rfl) (Below.refl _ _) ?_
          (try simp only [Act.put, List.setIfInBounds_toArray, List.set_cons_zero, List.set_cons_succ])
          refine skipT (i := 39) rfl (by kernel_rfl) (by kernel_rfl) (by kernel_rfl) (fun _ _ _ h => h) (by rfl) (Below.refl _ _) ?_
          (try simp only [Act.put, List.setIfInBounds_toArray, List.set_cons_zero, List.set_cons_succ])
          refine skipT (i := 40) rfl (by kernel_rfl) (by kernel_rfl) (by kernel_rfl) (fun _ _ _ h => h) (by rfl) (Below.refl _ _) ?_
          (try simp only [Act.put, List.setIfInBounds_toArray, List.set_cons_zero, List.set_cons_succ])
          refine' takeT (i := 41) (v := _) rfl (by kernel_rfl) (by kernel_rfl) (by kernel_rfl) (fun _ _ _ h => h) (by rfl) (Below.refl _ _) ?_ ?_; rotate_left
          · (intro W hSw; obtain ⟨⟨x0, x1, x2, x3, x4, x5, x6⟩, ⟨y0, y1, y2, y3, y4, y5, y6⟩, q1, q2⟩ := HK.out W (bel_undQ hSw); go_simp; all_goals (with_reducible rfl))
          (try simp only [Act.put, List.setIfInBounds_toArray, List.set_cons_zero, List.set_cons_succ])
          refine wpAnyH_done (by kernel_rfl) ?_ _
          go_wp2
          refine bodyPost_ret (v := .bool false) (by simp [results, Tryz.results24, go_sem]) rfl ⟨by rw [HR.out], HB.out.trans ((bel_undQ (Below.refl _ _)).mono HB.out.size)⟩
      · obtain rfl : k = n := by omega
        have hltI : ¬ ((k : Int) < (k : Int)) := by omega
        have HR : Hid (decide (xs.map MCe.p = ys.map MCe.p) = true) := decide_eq_true (take_all HT.out ((List.length_map MCe.p).trans HX.out.1) ((List.length_map MCe.p).trans HY.out.1))
        go_wp2
        go_ret
        exact ⟨by rw [HR.out]; rfl, HB.out⟩
  · have hl' : ¬ (n : Int) = (n' : Int) := by omega
    have HR : Hid (decide (xs.map MCe.p = ys.map MCe.p) = false) := decide_eq_false (fun e => hl (by have h1 := ((List.length_map MCe.p).trans HX.out.1); have h2 := ((List.length_map MCe.p).trans HY.out.1); rw [e] at h1; omega))
    go_enter Tryz.func24, Tryz.ntmps24
    go_wp2
    go_ret
    exact ⟨by rw [HR.out]; rfl, Below.refl _ _⟩

end Go.Proofs.YtcgiicmmfleinaaGreatDoor

namespace Go.Proofs.YtcgiicmmfleinaaGreatDoor
open Go.RowKit NumMath Go.ChangeShapes Go.WideShapes Go.Deep
set_option linter.unusedVariables false
set_option maxRecDepth 100000

/-- the cells of a table, as the walk reads them -/
def ReadTb (W : World) (g o : Nat) (m : MTb) : Prop := W.cell? ⟨g, o, none⟩ = some (.int .i64 m.id) ∧ W.cell? ⟨g, o + 1, none⟩ = some (.string (strB m.nm)) ∧ W.cell? ⟨g, o + 2, none⟩ = some (.slice m.cs.a m.cs.n m.cs.c) ∧ W.cell? ⟨g, o + 3, none⟩ = some (.int .i64 m.ky) ∧ W.cell? ⟨g, o + 4, none⟩ = some (.slice m.ix.a m.ix.n m.ix.c)

theorem readTb {W : World} {g o : Nat} {m : MTb} (h : W.rangeAt g o (layTb.cells m)) : ReadTb W g o m := ⟨h 0 _ rfl, h 1 _ rfl, h 2 _ rfl, h 3 _ rfl, h 4 _ rfl⟩

/-- .. of a box -/
def BoxTb (W : World) (g : Nat) (m : MTb) : Prop := W.cell? ⟨g, 0, none⟩ = some (.int .i64 m.id) ∧ W.cell? ⟨g, 1, none⟩ = some (.string (strB m.nm)) ∧ W.cell? ⟨g, 2, none⟩ = some (.slice m.cs.a m.cs.n m.cs.c) ∧ W.cell? ⟨g, 3, none⟩ = some (.int .i64 m.ky) ∧ W.cell? ⟨g, 4, none⟩ = some (.slice m.ix.a m.ix.n m.ix.c)

theorem BoxTb.keep {W W' : World} {g : Nat} {m : MTb} (h : BoxTb W g m) (hb : W'.heap[g]? = W.heap[g]?) : BoxTb W' g m :=
  ⟨(World.cell?_of_block (a := ⟨g, _, none⟩) hb).trans h.1, (World.cell?_of_block (a := ⟨g, _, none⟩) hb).trans h.2.1, (World.cell?_of_block (a := ⟨g, _, none⟩) hb).trans h.2.2.1, (World.cell?_of_block (a := ⟨g, _, none⟩) hb).trans h.2.2.2.1, (World.cell?_of_block (a := ⟨g, _, none⟩) hb).trans h.2.2.2.2⟩

theorem boxes_tb (w : World) (x y : MTb) : w.heap.size < (((w.alloc (.cells #[.int .i64 x.id, .string (strB x.nm), .slice x.cs.a x.cs.n x.cs.c, .int .i64 x.ky, .slice x.ix.a x.ix.n x.ix.c] 48)).alloc (.cells #[.int .i64 y.id, .string (strB y.nm), .slice y.cs.a y.cs.n y.cs.c, .int .i64 y.ky, .slice y.ix.a y.ix.n y.ix.c] 48)).drew).heap.size ∧ w.heap.size + 1 < (((w.alloc (.cells #[.int .i64 x.id, .string (strB x.nm), .slice x.cs.a x.cs.n x.cs.c, .int .i64 x.ky, .slice x.ix.a x.ix.n x.ix.c] 48)).alloc (.cells #[.int .i64 y.id, .string (strB y.nm), .slice y.cs.a y.cs.n y.cs.c, .int .i64 y.ky, .slice y.ix.a y.ix.n y.ix.c] 48)).drew).heap.size ∧ BoxTb (((w.alloc (.cells #[.int .i64 x.id, .string (strB x.nm), .slice x.cs.a x.cs.n x.cs.c, .int .i64 x.ky, .slice x.ix.a x.ix.n x.ix.c] 48)).alloc (.cells #[.int .i64 y.id, .string (strB y.nm), .slice y.cs.a y.cs.n y.cs.c, .int .i64 y.ky, .slice y.ix.a y.ix.n y.ix.c] 48)).drew) w.heap.size x ∧ BoxTb (((w.alloc (.cells #[.int .i64 x.id, .string (strB x.nm), .slice x.cs.a x.cs.n x.cs.c, .int .i64 x.ky, .slice x.ix.a x.ix.n x.ix.c] 48)).alloc (.cells #[.int .i64 y.id, .string (strB y.nm), .slice y.cs.a y.cs.n y.cs.c, .int .i64 y.ky, .slice y.ix.a y.ix.n y.ix.c] 48)).drew) (w.heap.size + 1) y ∧ Below w.heap.size w (((w.alloc (.cells #[.int .i64 x.id, .string (strB x.nm), .slice x.cs.a x.cs.n x.cs.c, .int .i64 x.ky, .slice x.ix.a x.ix.n x.ix.c] 48)).alloc (.cells #[.int .i64 y.id, .string (strB y.nm), .slice y.cs.a y.cs.n y.cs.c, .int .i64 y.ky, .slice y.ix.a y.ix.n y.ix.c] 48)).drew) := by
  have hq := two_boxes w #[.int .i64 x.id, .string (strB x.nm), .slice x.cs.a x.cs.n x.cs.c, .int .i64 x.ky, .slice x.ix.a x.ix.n x.ix.c] #[.int .i64 y.id, .string (strB y.nm), .slice y.cs.a y.cs.n y.cs.c, .int .i64 y.ky, .slice y.ix.a y.ix.n y.ix.c] 48 48 (((w.alloc (.cells #[.int .i64 x.id, .string (strB x.nm), .slice x.cs.a x.cs.n x.cs.c, .int .i64 x.ky, .slice x.ix.a x.ix.n x.ix.c] 48)).alloc (.cells #[.int .i64 y.id, .string (strB y.nm), .slice y.cs.a y.cs.n y.cs.c, .int .i64 y.ky, .slice y.ix.a y.ix.n y.ix.c] 48)).drew) (Below.refl _ _).drew
  refine ⟨by simp; omega, by simp, ⟨hq.1 0 _ rfl, hq.1 1 _ rfl, hq.1 2 _ rfl, hq.1 3 _ rfl, hq.1 4 _ rfl⟩, ⟨hq.2 0 _ rfl, hq.2 1 _ rfl, hq.2 2 _ rfl, hq.2 3 _ rfl, hq.2 4 _ rfl⟩, ?_⟩
  exact ((new_below w _).trans ((new_below _ _).mono (new_below w _).size)).drew

set_option maxHeartbeats 8000000 in
theorem xsameTb_any (xs ys : List MTb) (a b : Option Addr) (n c n' c' : Nat) (w : World) (hx : IsY layTb w a n c xs) (hy : IsY layTb w b n' c' ys) (hxo : ∀ x ∈ xs, x.ok w) (hyo : ∀ x ∈ ys, x.ok w) :
    Calls Tryz.prog 25 #[.slice a n c, .slice b n' c'] w fun e w' => e = .returned (.bool (decide (xs.map MTb.b = ys.map MTb.b))) ∧ Below w.heap.size w w' := by
  have HX := hide hx
  have HY := hide hy
  have hm : (n : Int) ≤ 9223372036854775807 := by have := hx.2.1; have := hx.2.2.1; unfold maxLen at this; omega
  have hnc := hx.2.1
  have hnc' := hy.2.1
  have hcI : (c : Int) ≤ 9223372036854775807 := by have := hx.2.2.1; unfold maxLen at this; omega
  have hcI' : (c' : Int) ≤ 9223372036854775807 := by have := hy.2.2.1; unfold maxLen at this; omega
  have HXO := hide hxo
  have HYO := hide hyo
  clear hx hy hxo hyo
  by_cases hl : n = n'
  · subst hl
    go_enter Tryz.func25, Tryz.ntmps25
    go_wp2
    go_loopg [17] n (fun gk ix wr => ∃ k : Nat, gk = n - k ∧ ix = .int .i64 k ∧ k ≤ n ∧ (xs.map MTb.b).take k = (ys.map MTb.b).take k ∧ Below w.heap.size w wr)
    case atStart => exact ⟨0, rfl, rfl, Nat.zero_le _, rfl, Below.refl _ _⟩
    case round =>
      obtain ⟨k, rfl, rfl, hk, hT, hB⟩ := hrel
      have HT := hide hT
      have HB := hide hB
      clear hT hB
      by_cases hlt : k < n
      · have hltI : (k : Int) < (n : Int) := by omega
        obtain ⟨x, hx⟩ := at_of HX.out.1 hlt
        obtain ⟨y, hy⟩ := at_of HY.out.1 hlt
        obtain ⟨g1, o1, rfl, hg1, hC1⟩ := (HX.out.keep HB.out).at hlt
        obtain ⟨g2, o2, rfl, hg2, hC2⟩ := (HY.out.keep HB.out).at hlt
        have A1 := hide ((HXO.out x (List.mem_of_getElem? hx)).keep HB.out)
        have A2 := hide ((HYO.out y (List.mem_of_getElem? hy)).keep HB.out)
        have HK := hide (fun W (hW : Below wr.heap.size wr W) => And.intro (show ReadTb W g1 (o1 + k * 5) x from readTb (rangeY_same (hC1 k x hx) (hW.block g1 hg1))) (show ReadTb W g2 (o2 + k * 5) y from readTb (rangeY_same (hC2 k y hy) (hW.block g2 hg2))))
        have HAx : Hid ((xs.map MTb.b)[k]? = some x.b) := at_map hx
        have HAy : Hid ((ys.map MTb.b)[k]? = some y.b) := at_map hy
        have hcn : (x.cs.n : Int) ≤ 9223372036854775807 := by have := A1.out.cs.2.1; have := A1.out.cs.2.2.1; unfold maxLen at this; omega
        have hcn' : (y.cs.n : Int) ≤ 9223372036854775807 := by have := A2.out.cs.2.1; have := A2.out.cs.2.2.1; unfold maxLen at this; omega
        have hin : (x.ix.n : Int) ≤ 9223372036854775807 := by have := A1.out.ix.2.1; have := A1.out.ix.2.2.1; unfold maxLen at this; omega
        have hin' : (y.ix.n : Int) ≤ 9223372036854775807 := by have := A2.out.ix.2.1; have := A2.out.ix.2.2.1; unfold maxLen at this; omega
        clear hC1 hC2 hx hy
        go_upto_region 6 with fail
        go_cut [6, 7] (fun s6 s7 wx => ∃ p q, s6 = .pointer (some ⟨p, 0, none⟩) ∧ s7 = .pointer (some ⟨q, 0, none⟩) ∧ p < wx.heap.size ∧ q < wx.heap.size ∧ BoxTb wx p x ∧ BoxTb wx q y ∧ Below wr.heap.size wr wx)
        case first =>
          obtain ⟨⟨x0, x1, x2, x3, x4⟩, ⟨y0, y1, y2, y3, y4⟩⟩ := HK.out wr (Below.refl _ _)
          have HK1 := fun o => HK.out (wr.alloc o) (new_below wr o)
          have HK2 := fun o o2 => HK.out ((wr.alloc o).alloc o2) ((new_below wr o).trans ((new_below _ o2).mono (new_below wr o).size))
          have x0o := fun o => (HK1 o).1.1
          have x0p := fun o o2 => (HK2 o o2).1.1
          have x1o := fun o => (HK1 o).1.2.1
          have x1p := fun o o2 => (HK2 o o2).1.2.1
          have x2o := fun o => (HK1 o).1.2.2.1
          have x2p := fun o o2 => (HK2 o o2).1.2.2.1
          have x3o := fun o => (HK1 o).1.2.2.2.1
          have x3p := fun o o2 => (HK2 o o2).1.2.2.2.1
          have x4o := fun o => (HK1 o).1.2.2.2.2
          have x4p := fun o o2 => (HK2 o o2).1.2.2.2.2
          have y0o := fun o => (HK1 o).2.1
          have y0p := fun o o2 => (HK2 o o2).2.1
          have y1o := fun o => (HK1 o).2.2.1
          have y1p := fun o o2 => (HK2 o o2).2.2.1
          have y2o := fun o => (HK1 o).2.2.2.1
          have y2p := fun o o2 => (HK2 o o2).2.2.2.1
          have y3o := fun o => (HK1 o).2.2.2.2.1
          have y3p := fun o o2 => (HK2 o o2).2.2.2.2.1
          have y4o := fun o => (HK1 o).2.2.2.2.2
          have y4p := fun o o2 => (HK2 o o2).2.2.2.2.2
          clear HK1 HK2
          go_region
          all_goals (go_wp2_with fail; go_meet; first | exact ⟨_, _, rfl, rfl, (boxes_tb wr x y).1, (boxes_tb wr x y).2.1, (boxes_tb wr x y).2.2.1, (boxes_tb wr x y).2.2.2.1, (boxes_tb wr x y).2.2.2.2⟩ | exact ⟨_, _, rfl, rfl, (boxes_tb wr y x).2.1, (boxes_tb wr y x).1, (boxes_tb wr y x).2.2.2.1, (boxes_tb wr y x).2.2.1, (boxes_tb wr y x).2.2.2.2⟩)
        case rest =>
          obtain ⟨p, q, rfl, rfl, hp, hq, hP, hQ, hBc⟩ := hcut
          have HP := hide hP
          have HQ := hide hQ
          have HBc := hide hBc
          obtain ⟨x0, x1, x2, x3, x4⟩ := hP
          obtain ⟨y0, y1, y2, y3, y4⟩ := hQ
          clear hBc
          by_cases h0 : x.id = y.id
          · have d0 : (x.id == y.id) = true := by simpa using h0
            have c0 : decide (x.id = y.id) = true := by simpa using h0
            have b0 : (x.id != y.id) = false := by simpa using h0
            have Hh0 := hide h0
            clear h0
            by_cases h1 : (strB x.nm).toList = (strB y.nm).toList
            · have d1 : ((strB x.nm).toList == (strB y.nm).toList) = true := by simpa using h1
              have c1 : decide ((strB x.nm).toList = (strB y.nm).toList) = true := by simpa using h1
              have b1 : ((strB x.nm).toList != (strB y.nm).toList) = false := by simpa using h1
              have Hh1 := hide h1
              clear h1
              by_cases h2 : x.ky = y.ky
              · have d2 : (x.ky == y.ky) = true := by simpa using h2
                have c2 : decide (x.ky = y.ky) = true := by simpa using h2
                have b2 : (x.ky != y.ky) = false := by simpa using h2
                have Hh2 := hide h2
                clear h2
                by_cases h3 : (x.cs.n : Int) = (y.cs.n : Int)
                · have d3 : ((x.cs.n : Int) == (y.cs.n : Int)) = true := by simpa using h3
                  have c3 : decide ((x.cs.n : Int) = (y.cs.n : Int)) = true := by simpa using h3
                  have b3 : ((x.cs.n : Int) != (y.cs.n : Int)) = false := by simpa using h3
                  have Hh3 := hide h3
                  clear h3
                  by_cases h4 : (x.ix.n : Int) = (y.ix.n : Int)
                  · have d4 : ((x.ix.n : Int) == (y.ix.n : Int)) = true := by simpa using h4
                    have c4 : decide ((x.ix.n : Int) = (y.ix.n : Int)) = true := by simpa using h4
                    have b4 : ((x.ix.n : Int) != (y.ix.n : Int)) = false := by simpa using h4
                    have Hh4 := hide h4
                    clear h4
                    obtain ⟨wo, rfl⟩ : ∃ wo, wo = wr := ⟨_, rfl⟩
                    go_wp2
                    go_loopg [68] x.cs.n (fun gk ix wv => ∃ j : Nat, gk = x.cs.n - j ∧ ix = .int .i64 j ∧ j ≤ x.cs.n ∧ (x.cs.xs.map Colm.b).take j = (y.cs.xs.map Colm.b).take j ∧ Below wc.heap.size wc wv)
                    case atStart => exact ⟨0, rfl, rfl, Nat.zero_le _, rfl, Below.refl _ _⟩
                    case round =>
                      obtain ⟨j, rfl, rfl, hj, hTj, hBj⟩ := hrel
                      have HTj := hide hTj
                      have HBj := hide hBj
                      have HBk68 := hide (HBc.out.trans (hBj.mono HBc.out.size))
                      have HP68 := hide (HP.out.keep (hBj.block p (by have := hp; omega)))
                      have HQ68 := hide (HQ.out.keep (hBj.block q (by have := hq; omega)))
                      have hp68 : p < wr.heap.size := Nat.lt_of_lt_of_le hp hBj.size
                      have hq68 : q < wr.heap.size := Nat.lt_of_lt_of_le hq hBj.size
                      obtain ⟨x0, x1, x2, x3, x4⟩ := HP68.out
                      obtain ⟨y0, y1, y2, y3, y4⟩ := HQ68.out
                      clear hBj hTj
                      by_cases hjl : j < x.cs.n
                      · have hjI : (j : Int) < (x.cs.n : Int) := by omega
                        have hjI' : (j : Int) < (y.cs.n : Int) := by have := Hh3.out; omega
                        obtain ⟨u, hu⟩ := at_of A1.out.cs.1 hjl
                        obtain ⟨v, hv⟩ := at_of A2.out.cs.1 (show j < y.cs.n by omega)
                        obtain ⟨p1, s1, hv1, hp1, hD1⟩ := (A1.out.cs.keep HBk68.out).at hjl
                        obtain ⟨p2, s2, hv2, hp2, hD2⟩ := (A2.out.cs.keep HBk68.out).at (show j < y.cs.n by omega)
                        have e0 : wr.cell? ⟨p1, s1 + j * 3, none⟩ = some (.string (strB u.n)) := hD1 j u hu 0 _ rfl
                        have e1 : wr.cell? ⟨p1, s1 + j * 3 + 1, none⟩ = some (.int .i64 u.k) := hD1 j u hu 1 _ rfl
                        have e2 : wr.cell? ⟨p1, s1 + j * 3 + 2, none⟩ = some (.bool u.nn) := hD1 j u hu 2 _ rfl
                        have f0 : wr.cell? ⟨p2, s2 + j * 3, none⟩ = some (.string (strB v.n)) := hD2 j v hv 0 _ rfl
                        have f1 : wr.cell? ⟨p2, s2 + j * 3 + 1, none⟩ = some (.int .i64 v.k) := hD2 j v hv 1 _ rfl
                        have f2 : wr.cell? ⟨p2, s2 + j * 3 + 2, none⟩ = some (.bool v.nn) := hD2 j v hv 2 _ rfl
                        rw [hv1] at x2
                        rw [hv2] at y2
                        have HBx : Hid ((x.cs.xs.map Colm.b)[j]? = some u.b) := at_map hu
                        have HBy : Hid ((y.cs.xs.map Colm.b)[j]? = some v.b) := at_map hv
                        clear hu hv hD1 hD2 hv1 hv2
                        by_cases huv : u.b = v.b
                        · have hne : ∀ W, (binOp .neq 73 (.agg #[.string (strB u.n), .int .i64 u.k, .bool u.nn]) (.agg #[.string (strB v.n), .int .i64 v.k, .bool v.nn])).run Tryz.prog W = .ok (.bool false) W := fun W => by rw [neCo2]; simp [huv]
                          have Huv := hide huv
                          clear huv
                          go_wp2
                          go_quiet (fail)
                          go_wp2
                          go_roundg (x.cs.n - (j + 1))
                          case measure => omega
                          case rel => exact ⟨j + 1, rfl, by go_num, by omega, take_at HTj.out HBx.out HBy.out Huv.out, below_drewN HBj.out _⟩
                        · have hne : ∀ W, (binOp .neq 73 (.agg #[.string (strB u.n), .int .i64 u.k, .bool u.nn]) (.agg #[.string (strB v.n), .int .i64 v.k, .bool v.nn])).run Tryz.prog W = .ok (.bool true) W := fun W => by rw [neCo2]; simp [huv]
                          have HR : Hid (decide (xs.map MTb.b = ys.map MTb.b) = false) := decide_eq_false (no_at HAx.out HAy.out (fun e => no_at HBx.out HBy.out huv (congrArg (fun (t : TbP) => t.2.2.1) e)))
                          clear huv
                          go_wp2
                          go_quiet (fail)
                          go_wp2
                          refine bodyPost_ret (v := .bool false) (by simp [results, Tryz.results25, go_sem]) rfl ⟨by rw [HR.out], HB.out.trans ((below_drewN HBk68.out _).mono HB.out.size)⟩
                      · have hjI : ¬ (j : Int) < (x.cs.n : Int) := by omega
                        obtain rfl : j = x.cs.n := by omega
                        have HEcs : Hid (x.cs.xs.map Colm.b = y.cs.xs.map Colm.b) := take_all HTj.out ((List.length_map Colm.b).trans A1.out.cs.1) ((List.length_map Colm.b).trans (A2.out.cs.1.trans (by have := Hh3.out; omega)))
                        go_wp2
                        obtain ⟨w68, rfl⟩ : ∃ w68, w68 = wr := ⟨_, rfl⟩
                        go_loopg [86] x.ix.n (fun gk ix wv => ∃ j : Nat, gk = x.ix.n - j ∧ ix = .int .i64 j ∧ j ≤ x.ix.n ∧ (x.ix.xs).take j = (y.ix.xs).take j ∧ Below w68.heap.size w68 wv)
                        case atStart => exact ⟨0, rfl, rfl, Nat.zero_le _, rfl, Below.refl _ _⟩
                        case round =>
                          obtain ⟨j, rfl, rfl, hj, hTj, hBj⟩ := hrel
                          have HTj := hide hTj
                          have HBj := hide hBj
                          have HBk86 := hide (HBk68.out.trans (hBj.mono HBk68.out.size))
                          have HP86 := hide (HP68.out.keep (hBj.block p (by have := hp68; omega)))
                          have HQ86 := hide (HQ68.out.keep (hBj.block q (by have := hq68; omega)))
                          have hp86 : p < wr.heap.size := Nat.lt_of_lt_of_le hp68 hBj.size
                          have hq86 : q < wr.heap.size := Nat.lt_of_lt_of_le hq68 hBj.size
                          obtain ⟨x0, x1, x2, x3, x4⟩ := HP86.out
                          obtain ⟨y0, y1, y2, y3, y4⟩ := HQ86.out
                          clear hBj hTj
                          by_cases hjl : j < x.ix.n
                          · have hjI : (j : Int) < (x.ix.n : Int) := by omega
                            have hjI' : (j : Int) < (y.ix.n : Int) := by have := Hh4.out; omega
                            obtain ⟨u, hu⟩ := at_of A1.out.ix.1 hjl
                            obtain ⟨v, hv⟩ := at_of A2.out.ix.1 (show j < y.ix.n by omega)
                            obtain ⟨p1, s1, hv1, hp1, hD1⟩ := (A1.out.ix.keep HBk86.out).at hjl
                            obtain ⟨p2, s2, hv2, hp2, hD2⟩ := (A2.out.ix.keep HBk86.out).at (show j < y.ix.n by omega)
                            have e0 : wr.cell? ⟨p1, s1 + j, none⟩ = some (.int .i64 u) := by simpa [layIx] using hD1 j u hu 0 _ rfl
                            have f0 : wr.cell? ⟨p2, s2 + j, none⟩ = some (.int .i64 v) := by simpa [layIx] using hD2 j v hv 0 _ rfl
                            rw [hv1] at x4
                            rw [hv2] at y4
                            have HBx : Hid ((x.ix.xs)[j]? = some u) := hu
                            have HBy : Hid ((y.ix.xs)[j]? = some v) := hv
                            clear hu hv hD1 hD2 hv1 hv2
                            by_cases huv : u = v
                            · have dd1 : decide (u = v) = true := by simpa using huv
                              have dd2 : (u == v) = true := by simpa using huv
                              have Huv := hide huv
                              clear huv
                              go_wp2
                              go_quiet (fail)
                              go_wp2
                              go_roundg (x.ix.n - (j + 1))
                              case measure => omega
                              case rel => exact ⟨j + 1, rfl, by go_num, by omega, take_at HTj.out HBx.out HBy.out Huv.out, below_drewN HBj.out _⟩
                            · have dd1 : decide (u = v) = false := by simpa using huv
                              have dd2 : (u == v) = false := by simpa using huv
                              have HR : Hid (decide (xs.map MTb.b = ys.map MTb.b) = false) := decide_eq_false (no_at HAx.out HAy.out (fun e => no_at HBx.out HBy.out huv (congrArg (fun (t : TbP) => t.2.2.2.2) e)))
                              clear huv
                              go_wp2
                              go_quiet (fail)
                              go_wp2
                              refine bodyPost_ret (v := .bool false) (by simp [results, Tryz.results25, go_sem]) rfl ⟨by rw [HR.out], HB.out.trans ((below_drewN HBk86.out _).mono HB.out.size)⟩
                          · have hjI : ¬ (j : Int) < (x.ix.n : Int) := by omega
                            obtain rfl : j = x.ix.n := by omega
                            have HEix : Hid (x.ix.xs = y.ix.xs) := take_all HTj.out (A1.out.ix.1) ((A2.out.ix.1.trans (by have := Hh4.out; omega)))
                            go_wp2
                            have HE : Hid (x.b = y.b) := by
                              show ((x.id, (strB x.nm).toList, x.cs.xs.map Colm.b, x.ky, x.ix.xs)) = ((y.id, (strB y.nm).toList, y.cs.xs.map Colm.b, y.ky, y.ix.xs))
                              rw [Hh0.out, Hh1.out, HEcs.out, Hh2.out, HEix.out]
                            go_roundg (n - (k + 1))
                            case measure => omega
                            case rel => exact ⟨k + 1, rfl, by go_num, by omega, take_at HT.out HAx.out HAy.out HE.out, HB.out.trans (HBk86.out.mono HB.out.size)⟩
                  · have d4 : ((x.ix.n : Int) == (y.ix.n : Int)) = false := by simpa using h4
                    have c4 : decide ((x.ix.n : Int) = (y.ix.n : Int)) = false := by simpa using h4
                    have b4 : ((x.ix.n : Int) != (y.ix.n : Int)) = true := by simpa using h4
                    have HR : Hid (decide (xs.map MTb.b = ys.map MTb.b) = false) := decide_eq_false (no_at HAx.out HAy.out (fun e => h4 (by have e2 : x.ix.xs = y.ix.xs := congrArg (fun (t : TbP) => t.2.2.2.2) e; have e3 := congrArg List.length e2; rw [A1.out.ix.1, A2.out.ix.1] at e3; omega)))
                    have Hh4 := hide h4
                    clear h4
                    go_wp2
                    refine bodyPost_ret (v := .bool false) (by simp [results, Tryz.results25, go_sem]) rfl ⟨by rw [HR.out], HB.out.trans (HBc.out.mono HB.out.size)⟩
                · have d3 : ((x.cs.n : Int) == (y.cs.n : Int)) = false := by simpa using h3
                  have c3 : decide ((x.cs.n : Int) = (y.cs.n : Int)) = false := by simpa using h3
                  have b3 : ((x.cs.n : Int) != (y.cs.n : Int)) = true := by simpa using h3
                  have HR : Hid (decide (xs.map MTb.b = ys.map MTb.b) = false) := decide_eq_false (no_at HAx.out HAy.out (fun e => h3 (by have e2 : x.cs.xs.map Colm.b = y.cs.xs.map Colm.b := congrArg (fun (t : TbP) => t.2.2.1) e; have e3 := congrArg List.length e2; rw [List.length_map, List.length_map, A1.out.cs.1, A2.out.cs.1] at e3; omega)))
                  have Hh3 := hide h3
                  clear h3
                  go_wp2
                  refine bodyPost_ret (v := .bool false) (by simp [results, Tryz.results25, go_sem]) rfl ⟨by rw [HR.out], HB.out.trans (HBc.out.mono HB.out.size)⟩
              · have d2 : (x.ky == y.ky) = false := by simpa using h2
                have c2 : decide (x.ky = y.ky) = false := by simpa using h2
                have b2 : (x.ky != y.ky) = true := by simpa using h2
                have HR : Hid (decide (xs.map MTb.b = ys.map MTb.b) = false) := decide_eq_false (no_at HAx.out HAy.out (fun e => h2 (congrArg (fun (t : TbP) => t.2.2.2.1) e)))
                have Hh2 := hide h2
                clear h2
                go_wp2
                refine bodyPost_ret (v := .bool false) (by simp [results, Tryz.results25, go_sem]) rfl ⟨by rw [HR.out], HB.out.trans (HBc.out.mono HB.out.size)⟩
            · have d1 : ((strB x.nm).toList == (strB y.nm).toList) = false := by simpa using h1
              have c1 : decide ((strB x.nm).toList = (strB y.nm).toList) = false := by simpa using h1
              have b1 : ((strB x.nm).toList != (strB y.nm).toList) = true := by simpa using h1
              have HR : Hid (decide (xs.map MTb.b = ys.map MTb.b) = false) := decide_eq_false (no_at HAx.out HAy.out (fun e => h1 (congrArg (fun (t : TbP) => t.2.1) e)))
              have Hh1 := hide h1
              clear h1
              go_wp2
              refine bodyPost_ret (v := .bool false) (by simp [results, Tryz.results25, go_sem]) rfl ⟨by rw [HR.out], HB.out.trans (HBc.out.mono HB.out.size)⟩
          · have d0 : (x.id == y.id) = false := by simpa using h0
            have c0 : decide (x.id = y.id) = false := by simpa using h0
            have b0 : (x.id != y.id) = true := by simpa using h0
            have HR : Hid (decide (xs.map MTb.b = ys.map MTb.b) = false) := decide_eq_false (no_at HAx.out HAy.out (fun e => h0 (congrArg (fun (t : TbP) => t.1) e)))
            have Hh0 := hide h0
            clear h0
            go_wp2
            refine bodyPost_ret (v := .bool false) (by simp [results, Tryz.results25, go_sem]) rfl ⟨by rw [HR.out], HB.out.trans (HBc.out.mono HB.out.size)⟩
      · obtain rfl : k = n := by omega
        have hltI : ¬ ((k : Int) < (k : Int)) := by omega
        have HR : Hid (decide (xs.map MTb.b = ys.map MTb.b) = true) := decide_eq_true (take_all HT.out ((List.length_map MTb.b).trans HX.out.1) ((List.length_map MTb.b).trans HY.out.1))
        go_wp2
        go_ret
        exact ⟨by rw [HR.out]; rfl, HB.out⟩
  · have hl' : ¬ (n : Int) = (n' : Int) := by omega
    have HR : Hid (decide (xs.map MTb.b = ys.map MTb.b) = false) := decide_eq_false (fun e => hl (by have h1 := ((List.length_map MTb.b).trans HX.out.1); have h2 := ((List.length_map MTb.b).trans HY.out.1); rw [e] at h1; omega))
    go_enter Tryz.func25, Tryz.ntmps25
    go_wp2
    go_ret
    exact ⟨by rw [HR.out]; rfl, Below.refl _ _⟩

end Go.Proofs.YtcgiicmmfleinaaGreatDoor

namespace Go.Proofs.YtcgiicmmfleinaaGreatDoor
open Go.RowKit NumMath Go.ChangeShapes Go.WideShapes Go.Deep
set_option linter.unusedVariables false
set_option maxRecDepth 100000

/-- told again: the same answer, and nothing more is done -/
theorem doM_again (S : Mac) (c : Cmd) (h : c.cl ≠ 0) : doM (doM S c).2 c = ((doM S c).1, (doM S c).2) := by
  have key : ∀ x : Res × Mac, doM (noteM c x).2 c = ((noteM c x).1, (noteM c x).2) := by
    intro x
    unfold doM
    rw [if_neg h]
    simp [noteM]
  have e : doM S c = (match S.la c.cl with
    | none => noteM c (oneM S c)
    | some x => if x.1 = c.sq then (x.2, S) else if c.sq < x.1 then (errR 1, S) else noteM c (oneM S c)) := by
    conv => lhs; unfold doM
    rw [if_neg h]
    rfl
  rcases hl : S.la c.cl with _ | x
  · rw [hl] at e
    rw [e]
    exact key _
  · rw [hl] at e
    dsimp only at e
    by_cases h1 : x.1 = c.sq
    · rw [if_pos h1] at e
      rw [e]
      exact e
    · rw [if_neg h1] at e
      by_cases h2 : c.sq < x.1
      · rw [if_pos h2] at e
        rw [e]
        exact e
      · rw [if_neg h2] at e
        rw [e]
        exact key _

theorem list_7 {α : Type} {cs : List α} (h : cs.length = 7) : ∃ c0 c1 c2 c3 c4 c5 c6, cs = [c0, c1, c2, c3, c4, c5, c6] := by
  match cs, h with
  | [c0, c1, c2, c3, c4, c5, c6], _ => exact ⟨c0, c1, c2, c3, c4, c5, c6, rfl⟩

theorem open_staW {H : Type} {enc : TypeId × Value → H} {w : World} {base : Nat} {spare : Nat → Bool} {held : Bool} {fuel : Nat} {c0 c1 c2 : Value} {x : DataW H × List MemPlace}
    (h : DataW.trod enc Tryz.prog w base spare held fuel 80 [c0, c1, c2] = some x) (hw : Wt 80 x.1) : ∃ m : Sta, [c0, c1, c2] = laySt.cells m ∧ True := by
  obtain ⟨xs, k, _, rfl, hl, hlen, hf⟩ := DataW.trod_struct Tryz.underlying80 h
  obtain ⟨yg0, g0, eg0⟩ := fldO (show DataW.trod enc Tryz.prog w base spare held k 31 (([c0, c1, c2].drop 0).take (Tryz.prog.cellsOf 31)) = xs[0]? from hf 0 _ rfl) (by rw [hlen]; decide)
  rw [show Tryz.prog.cellsOf 31 = 1 by kernel_rfl] at g0
  simp only [List.drop, List.take] at g0
  obtain ⟨yg1, g1, eg1⟩ := fldO (show DataW.trod enc Tryz.prog w base spare held k 3 (([c0, c1, c2].drop 1).take (Tryz.prog.cellsOf 3)) = xs[1]? from hf 1 _ rfl) (by rw [hlen]; decide)
  rw [show Tryz.prog.cellsOf 3 = 1 by kernel_rfl] at g1
  simp only [List.drop, List.take] at g1
  obtain ⟨yg2, g2, eg2⟩ := fldO (show DataW.trod enc Tryz.prog w base spare held k 31 (([c0, c1, c2].drop 2).take (Tryz.prog.cellsOf 31)) = xs[2]? from hf 2 _ rfl) (by rw [hlen]; decide)
  rw [show Tryz.prog.cellsOf 31 = 1 by kernel_rfl] at g2
  simp only [List.drop, List.take] at g2
  obtain ⟨n0, e0, _, f0⟩ := DataW.trod_int Tryz.underlying31 g0
  obtain ⟨n1, e1, _, f1⟩ := DataW.trod_int Tryz.underlying3 g1
  obtain ⟨n2, e2, _, f2⟩ := DataW.trod_int Tryz.underlying31 g2
  simp at e0 e1 e2
  subst e0 e1 e2
  refine ⟨⟨n0, n1, n2⟩, ?_, trivial⟩
  rfl

theorem open_staL {H : Type} {enc : TypeId × Value → H} {w : World} {base : Nat} {spare : Nat → Bool} {held : Bool} {fuel : Nat} {a : Option Addr} {len cap : Nat} {x : DataW H × List MemPlace}
    (h : DataW.trod enc Tryz.prog w base spare held fuel 32 [.slice a len cap] = some x) (hw : Wt 32 x.1) : ∃ ms, IsY laySt w a len cap ms ∧ (∀ m ∈ ms, True) ∧ len * 24 ≤ 140737488355328 := by
  have hr : len * Tryz.prog.bytesOf 80 ≤ reachBytes := (wt_slice Tryz.underlying32 h hw).1
  rw [show Tryz.prog.bytesOf 80 = 24 by kernel_rfl] at hr
  have hq : reachBytes ≤ 140737488355328 := by decide
  obtain ⟨ms, h1, h2⟩ := openY laySt ⟨0, 0, 0⟩ (show Tryz.prog.cellsOf laySt.e = 3 by kernel_rfl) (slice_lens Tryz.underlying32 h).1 (fun m => True) (fun i hi => by
    obtain ⟨ad, cs', n, y, e, g1, g2, g3⟩ := (wt_slice Tryz.underlying32 h hw).2 i hi
    have hl := cellsH g1
    rw [show Tryz.prog.cellsOf 80 = 3 by kernel_rfl] at hl
    obtain ⟨c0, c1, c2, rfl⟩ := list_3 hl
    obtain ⟨m, em, hm⟩ := open_staW g2 g3
    exact ⟨ad, _, m, e, g1, hm, em⟩)
  exact ⟨ms, h1, h2, by omega⟩

theorem open_veW {H : Type} {enc : TypeId × Value → H} {w : World} {base : Nat} {spare : Nat → Bool} {held : Bool} {fuel : Nat} {c0 c1 c2 c3 c4 : Value} {x : DataW H × List MemPlace}
    (h : DataW.trod enc Tryz.prog w base spare held fuel 135 [c0, c1, c2, c3, c4] = some x) (hw : Wt 135 x.1) : ∃ m : MVe, [c0, c1, c2, c3, c4] = layVe.cells m ∧ m.ok w := by
  obtain ⟨xs, k, _, rfl, hl, hlen, hf⟩ := DataW.trod_struct Tryz.underlying135 h
  obtain ⟨yg0, g0, eg0⟩ := fldO (show DataW.trod enc Tryz.prog w base spare held k 31 (([c0, c1, c2, c3, c4].drop 0).take (Tryz.prog.cellsOf 31)) = xs[0]? from hf 0 _ rfl) (by rw [hlen]; decide)
  rw [show Tryz.prog.cellsOf 31 = 1 by kernel_rfl] at g0
  simp only [List.drop, List.take] at g0
  obtain ⟨yg1, g1, eg1⟩ := fldO (show DataW.trod enc Tryz.prog w base spare held k 31 (([c0, c1, c2, c3, c4].drop 1).take (Tryz.prog.cellsOf 31)) = xs[1]? from hf 1 _ rfl) (by rw [hlen]; decide)
  rw [show Tryz.prog.cellsOf 31 = 1 by kernel_rfl] at g1
  simp only [List.drop, List.take] at g1
  obtain ⟨yg2, g2, eg2⟩ := fldO (show DataW.trod enc Tryz.prog w base spare held k 4 (([c0, c1, c2, c3, c4].drop 2).take (Tryz.prog.cellsOf 4)) = xs[2]? from hf 2 _ rfl) (by rw [hlen]; decide)
  rw [show Tryz.prog.cellsOf 4 = 1 by kernel_rfl] at g2
  simp only [List.drop, List.take] at g2
  obtain ⟨yg3, g3, eg3⟩ := fldO (show DataW.trod enc Tryz.prog w base spare held k 39 (([c0, c1, c2, c3, c4].drop 3).take (Tryz.prog.cellsOf 39)) = xs[3]? from hf 3 _ rfl) (by rw [hlen]; decide)
  rw [show Tryz.prog.cellsOf 39 = 1 by kernel_rfl] at g3
  simp only [List.drop, List.take] at g3
  obtain ⟨yg4, g4, eg4⟩ := fldO (show DataW.trod enc Tryz.prog w base spare held k 44 (([c0, c1, c2, c3, c4].drop 4).take (Tryz.prog.cellsOf 44)) = xs[4]? from hf 4 _ rfl) (by rw [hlen]; decide)
  rw [show Tryz.prog.cellsOf 44 = 1 by kernel_rfl] at g4
  simp only [List.drop, List.take] at g4
  obtain ⟨n0, e0, _, f0⟩ := DataW.trod_int Tryz.underlying31 g0
  obtain ⟨n1, e1, _, f1⟩ := DataW.trod_int Tryz.underlying31 g1
  obtain ⟨n2, e2, _⟩ := DataW.trod_bool Tryz.underlying4 g2
  obtain ⟨a3, l3, p3, rfl⟩ := slice_of Tryz.underlying39 g3
  obtain ⟨t3, ht3, hl3⟩ := open_bytesK g3 (wt_field Tryz.underlying135 hw (i := 3) rfl eg3)
  obtain ⟨a4, l4, p4, rfl⟩ := slice_of Tryz.underlying44 g4
  obtain ⟨t4, ht4, hl4, hb4⟩ := open_txL g4 (wt_field Tryz.underlying135 hw (i := 4) rfl eg4)
  simp at e0 e1 e2
  subst e0 e1 e2
  refine ⟨⟨n0, n1, n2, ⟨t3, a3, l3, p3⟩, ⟨a4, l4, p4, t4⟩⟩, ?_, ⟨ht3, ht4, fun x hx => (hl4 x hx).1⟩⟩
  rfl

theorem open_veL {H : Type} {enc : TypeId × Value → H} {w : World} {base : Nat} {spare : Nat → Bool} {held : Bool} {fuel : Nat} {a : Option Addr} {len cap : Nat} {x : DataW H × List MemPlace}
    (h : DataW.trod enc Tryz.prog w base spare held fuel 133 [.slice a len cap] = some x) (hw : Wt 133 x.1) : ∃ ms, IsY layVe w a len cap ms ∧ (∀ m ∈ ms, m.ok w) ∧ len * 72 ≤ 140737488355328 := by
  have hr : len * Tryz.prog.bytesOf 135 ≤ reachBytes := (wt_slice Tryz.underlying133 h hw).1
  rw [show Tryz.prog.bytesOf 135 = 72 by kernel_rfl] at hr
  have hq : reachBytes ≤ 140737488355328 := by decide
  obtain ⟨ms, h1, h2⟩ := openY layVe ⟨0, 0, false, ⟨[], none, 0, 0⟩, ⟨none, 0, 0, []⟩⟩ (show Tryz.prog.cellsOf layVe.e = 5 by kernel_rfl) (slice_lens Tryz.underlying133 h).1 (fun m => m.ok w) (fun i hi => by
    obtain ⟨ad, cs', n, y, e, g1, g2, g3⟩ := (wt_slice Tryz.underlying133 h hw).2 i hi
    have hl := cellsH g1
    rw [show Tryz.prog.cellsOf 135 = 5 by kernel_rfl] at hl
    obtain ⟨c0, c1, c2, c3, c4, rfl⟩ := list_5 hl
    obtain ⟨m, em, hm⟩ := open_veW g2 g3
    exact ⟨ad, _, m, e, g1, hm, em⟩)
  exact ⟨ms, h1, h2, by omega⟩

theorem open_ceW {H : Type} {enc : TypeId × Value → H} {w : World} {base : Nat} {spare : Nat → Bool} {held : Bool} {fuel : Nat} {c0 c1 c2 c3 c4 c5 c6 : Value} {x : DataW H × List MemPlace}
    (h : DataW.trod enc Tryz.prog w base spare held fuel 137 [c0, c1, c2, c3, c4, c5, c6] = some x) (hw : Wt 137 x.1) : ∃ m : MCe, [c0, c1, c2, c3, c4, c5, c6] = layCe.cells m ∧ m.ok w := by
  obtain ⟨xs, k, _, rfl, hl, hlen, hf⟩ := DataW.trod_struct Tryz.underlying137 h
  obtain ⟨yg0, g0, eg0⟩ := fldO (show DataW.trod enc Tryz.prog w base spare held k 39 (([c0, c1, c2, c3, c4, c5, c6].drop 0).take (Tryz.prog.cellsOf 39)) = xs[0]? from hf 0 _ rfl) (by rw [hlen]; decide)
  rw [show Tryz.prog.cellsOf 39 = 1 by kernel_rfl] at g0
  simp only [List.drop, List.take] at g0
  obtain ⟨yg1, g1, eg1⟩ := fldO (show DataW.trod enc Tryz.prog w base spare held k 133 (([c0, c1, c2, c3, c4, c5, c6].drop 1).take (Tryz.prog.cellsOf 133)) = xs[1]? from hf 1 _ rfl) (by rw [hlen]; decide)
  rw [show Tryz.prog.cellsOf 133 = 1 by kernel_rfl] at g1
  simp only [List.drop, List.take] at g1
  obtain ⟨yg2, g2, eg2⟩ := fldO (show DataW.trod enc Tryz.prog w base spare held k 135 (([c0, c1, c2, c3, c4, c5, c6].drop 2).take (Tryz.prog.cellsOf 135)) = xs[2]? from hf 2 _ rfl) (by rw [hlen]; decide)
  rw [show Tryz.prog.cellsOf 135 = 5 by kernel_rfl] at g2
  simp only [List.drop, List.take] at g2
  obtain ⟨a0, l0, p0, rfl⟩ := slice_of Tryz.underlying39 g0
  obtain ⟨t0, ht0, hl0⟩ := open_bytesK g0 (wt_field Tryz.underlying137 hw (i := 0) rfl eg0)
  obtain ⟨a1, l1, p1, rfl⟩ := slice_of Tryz.underlying133 g1
  obtain ⟨t1, ht1, hl1, hb1⟩ := open_veL g1 (wt_field Tryz.underlying137 hw (i := 1) rfl eg1)
  obtain ⟨m2, em2, hm2⟩ := open_veW g2 (wt_field Tryz.underlying137 hw (i := 2) rfl eg2)
  simp [layVe] at em2
  obtain ⟨rfl, rfl, rfl, rfl, rfl⟩ := em2
  refine ⟨⟨⟨t0, a0, l0, p0⟩, ⟨a1, l1, p1, t1⟩, m2⟩, ?_, ⟨ht0, ht1, hl1, hm2⟩⟩
  rfl

theorem open_ceL {H : Type} {enc : TypeId × Value → H} {w : World} {base : Nat} {spare : Nat → Bool} {held : Bool} {fuel : Nat} {a : Option Addr} {len cap : Nat} {x : DataW H × List MemPlace}
    (h : DataW.trod enc Tryz.prog w base spare held fuel 53 [.slice a len cap] = some x) (hw : Wt 53 x.1) : ∃ ms, IsY layCe w a len cap ms ∧ (∀ m ∈ ms, m.ok w) ∧ len * 120 ≤ 140737488355328 := by
  have hr : len * Tryz.prog.bytesOf 137 ≤ reachBytes := (wt_slice Tryz.underlying53 h hw).1
  rw [show Tryz.prog.bytesOf 137 = 120 by kernel_rfl] at hr
  have hq : reachBytes ≤ 140737488355328 := by decide
  obtain ⟨ms, h1, h2⟩ := openY layCe ⟨⟨[], none, 0, 0⟩, ⟨none, 0, 0, []⟩, ⟨0, 0, false, ⟨[], none, 0, 0⟩, ⟨none, 0, 0, []⟩⟩⟩ (show Tryz.prog.cellsOf layCe.e = 7 by kernel_rfl) (slice_lens Tryz.underlying53 h).1 (fun m => m.ok w) (fun i hi => by
    obtain ⟨ad, cs', n, y, e, g1, g2, g3⟩ := (wt_slice Tryz.underlying53 h hw).2 i hi
    have hl := cellsH g1
    rw [show Tryz.prog.cellsOf 137 = 7 by kernel_rfl] at hl
    obtain ⟨c0, c1, c2, c3, c4, c5, c6, rfl⟩ := list_7 hl
    obtain ⟨m, em, hm⟩ := open_ceW g2 g3
    exact ⟨ad, _, m, e, g1, hm, em⟩)
  exact ⟨ms, h1, h2, by omega⟩

/-- a result's seven cells -/
def MRr.cellsR (m : MRr) : List Value := [.int .i64 m.er, .int .u64 m.tx, .int .u64 m.ts, .bool m.fl, .slice m.ss.a m.ss.n m.ss.c, .slice m.ce.a m.ce.n m.ce.c, .slice m.tb.a m.tb.n m.tb.c]

theorem open_reW {H : Type} {enc : TypeId × Value → H} {w : World} {base : Nat} {spare : Nat → Bool} {held : Bool} {fuel : Nat} {c0 c1 c2 c3 c4 c5 c6 : Value} {x : DataW H × List MemPlace}
    (h : DataW.trod enc Tryz.prog w base spare held fuel 55 [c0, c1, c2, c3, c4, c5, c6] = some x) (hw : Wt 55 x.1) : ∃ m : MRr, [c0, c1, c2, c3, c4, c5, c6] = m.cellsR ∧ m.ok w := by
  obtain ⟨xs, k, _, rfl, hl, hlen, hf⟩ := DataW.trod_struct Tryz.underlying55 h
  obtain ⟨yg0, g0, eg0⟩ := fldO (show DataW.trod enc Tryz.prog w base spare held k 52 (([c0, c1, c2, c3, c4, c5, c6].drop 0).take (Tryz.prog.cellsOf 52)) = xs[0]? from hf 0 _ rfl) (by rw [hlen]; decide)
  rw [show Tryz.prog.cellsOf 52 = 1 by kernel_rfl] at g0
  simp only [List.drop, List.take] at g0
  obtain ⟨yg1, g1, eg1⟩ := fldO (show DataW.trod enc Tryz.prog w base spare held k 31 (([c0, c1, c2, c3, c4, c5, c6].drop 1).take (Tryz.prog.cellsOf 31)) = xs[1]? from hf 1 _ rfl) (by rw [hlen]; decide)
  rw [show Tryz.prog.cellsOf 31 = 1 by kernel_rfl] at g1
  simp only [List.drop, List.take] at g1
  obtain ⟨yg2, g2, eg2⟩ := fldO (show DataW.trod enc Tryz.prog w base spare held k 31 (([c0, c1, c2, c3, c4, c5, c6].drop 2).take (Tryz.prog.cellsOf 31)) = xs[2]? from hf 2 _ rfl) (by rw [hlen]; decide)
  rw [show Tryz.prog.cellsOf 31 = 1 by kernel_rfl] at g2
  simp only [List.drop, List.take] at g2
  obtain ⟨yg3, g3, eg3⟩ := fldO (show DataW.trod enc Tryz.prog w base spare held k 4 (([c0, c1, c2, c3, c4, c5, c6].drop 3).take (Tryz.prog.cellsOf 4)) = xs[3]? from hf 3 _ rfl) (by rw [hlen]; decide)
  rw [show Tryz.prog.cellsOf 4 = 1 by kernel_rfl] at g3
  simp only [List.drop, List.take] at g3
  obtain ⟨yg4, g4, eg4⟩ := fldO (show DataW.trod enc Tryz.prog w base spare held k 32 (([c0, c1, c2, c3, c4, c5, c6].drop 4).take (Tryz.prog.cellsOf 32)) = xs[4]? from hf 4 _ rfl) (by rw [hlen]; decide)
  rw [show Tryz.prog.cellsOf 32 = 1 by kernel_rfl] at g4
  simp only [List.drop, List.take] at g4
  obtain ⟨yg5, g5, eg5⟩ := fldO (show DataW.trod enc Tryz.prog w base spare held k 53 (([c0, c1, c2, c3, c4, c5, c6].drop 5).take (Tryz.prog.cellsOf 53)) = xs[5]? from hf 5 _ rfl) (by rw [hlen]; decide)
  rw [show Tryz.prog.cellsOf 53 = 1 by kernel_rfl] at g5
  simp only [List.drop, List.take] at g5
  obtain ⟨yg6, g6, eg6⟩ := fldO (show DataW.trod enc Tryz.prog w base spare held k 36 (([c0, c1, c2, c3, c4, c5, c6].drop 6).take (Tryz.prog.cellsOf 36)) = xs[6]? from hf 6 _ rfl) (by rw [hlen]; decide)
  rw [show Tryz.prog.cellsOf 36 = 1 by kernel_rfl] at g6
  simp only [List.drop, List.take] at g6
  obtain ⟨n0, e0, _, f0⟩ := DataW.trod_int Tryz.underlying52 g0
  obtain ⟨n1, e1, _, f1⟩ := DataW.trod_int Tryz.underlying31 g1
  obtain ⟨n2, e2, _, f2⟩ := DataW.trod_int Tryz.underlying31 g2
  obtain ⟨n3, e3, _⟩ := DataW.trod_bool Tryz.underlying4 g3
  obtain ⟨a4, l4, p4, rfl⟩ := slice_of Tryz.underlying32 g4
  obtain ⟨t4, ht4, hl4, hb4⟩ := open_staL g4 (wt_field Tryz.underlying55 hw (i := 4) rfl eg4)
  obtain ⟨a5, l5, p5, rfl⟩ := slice_of Tryz.underlying53 g5
  obtain ⟨t5, ht5, hl5, hb5⟩ := open_ceL g5 (wt_field Tryz.underlying55 hw (i := 5) rfl eg5)
  obtain ⟨a6, l6, p6, rfl⟩ := slice_of Tryz.underlying36 g6
  obtain ⟨t6, ht6, hl6, hb6⟩ := open_tbL g6 (wt_field Tryz.underlying55 hw (i := 6) rfl eg6)
  simp at e0 e1 e2 e3
  subst e0 e1 e2 e3
  refine ⟨⟨n0, n1, n2, n3, ⟨a4, l4, p4, t4⟩, ⟨a5, l5, p5, t5⟩, ⟨a6, l6, p6, t6⟩⟩, ?_, ⟨ht4, ht5, ht6, hl5, fun x hx => (hl6 x hx).1⟩⟩
  rfl

theorem open_cmd15 {H : Type} {enc : TypeId × Value → H} {w : World} {base : Nat} {spare : Nat → Bool} {held : Bool} {fuel : Nat} {cs : Array Value} (hz : cs.size = 21) {x : DataW H × List MemPlace}
    (h : DataW.trod enc Tryz.prog w base spare held fuel 50 cs.toList = some x) (hw : Wt 50 x.1) : ∃ m : MCmd, cs = #[.int .u64 m.cl, .int .u64 m.sq, .int .i64 m.kd, .int .u64 m.tx, .int .u64 m.ts, .bool m.fl, .int .u64 m.lk.l.tx, .int .i64 m.lk.l.lv, .int .i64 m.lk.l.md, .slice m.lk.la m.lk.ln m.lk.lc, .slice m.lk.ha m.lk.hn m.lk.hc, .slice m.lo.a m.lo.n m.lo.c, .slice m.hi.a m.hi.n m.hi.c, .slice m.txs.a m.txs.n m.txs.c, .slice m.ws.a m.ws.n m.ws.c, .slice m.ks.a m.ks.n m.ks.c, .int .i64 m.tb.id, .string (strB m.tb.nm), .slice m.tb.cs.a m.tb.cs.n m.tb.cs.c, .int .i64 m.tb.ky, .slice m.tb.ix.a m.tb.ix.n m.tb.ix.c] ∧ m.handed w := by
  obtain ⟨c0, c1, c2, c3, c4, c5, c6, c7, c8, c9, c10, c11, c12, c13, c14, c15, c16, c17, c18, c19, c20, e⟩ := list_21 (cs := cs.toList) (by simpa using hz)
  rw [e] at h
  obtain ⟨m, em, hm⟩ := open_cmW h hw
  exact ⟨m, by rw [← Array.toArray_toList (xs := cs), e, em]; rfl, hm⟩

theorem open_res15 {H : Type} {enc : TypeId × Value → H} {w : World} {base : Nat} {spare : Nat → Bool} {held : Bool} {fuel : Nat} {cs : Array Value} (hz : cs.size = 7) {x : DataW H × List MemPlace}
    (h : DataW.trod enc Tryz.prog w base spare held fuel 55 cs.toList = some x) (hw : Wt 55 x.1) : ∃ m : MRr, cs = #[.int .i64 m.er, .int .u64 m.tx, .int .u64 m.ts, .bool m.fl, .slice m.ss.a m.ss.n m.ss.c, .slice m.ce.a m.ce.n m.ce.c, .slice m.tb.a m.tb.n m.tb.c] ∧ m.ok w := by
  obtain ⟨c0, c1, c2, c3, c4, c5, c6, e⟩ := list_7 (cs := cs.toList) (by simpa using hz)
  rw [e] at h
  obtain ⟨m, em, hm⟩ := open_reW h hw
  exact ⟨m, by rw [← Array.toArray_toList (xs := cs), e, em]; rfl, hm⟩

end Go.Proofs.YtcgiicmmfleinaaGreatDoor

namespace Go.Proofs.YtcgiicmmfleinaaGreatDoor
open Go.RowKit NumMath Go.ChangeShapes Go.WideShapes Go.Deep
set_option linter.unusedVariables false
set_option maxRecDepth 100000

set_option maxHeartbeats 8000000 in
theorem xsameR_any (x y : MRr) (w : World) (h : x.ok w) (k : y.ok w) :
    Calls Tryz.prog 9 #[.agg #[.int .i64 x.er, .int .u64 x.tx, .int .u64 x.ts, .bool x.fl, .slice x.ss.a x.ss.n x.ss.c, .slice x.ce.a x.ce.n x.ce.c, .slice x.tb.a x.tb.n x.tb.c], .agg #[.int .i64 y.er, .int .u64 y.tx, .int .u64 y.ts, .bool y.fl, .slice y.ss.a y.ss.n y.ss.c, .slice y.ce.a y.ce.n y.ce.c, .slice y.tb.a y.tb.n y.tb.c]] w fun e w' => e = .returned (.bool (decide (x.p = y.p))) ∧ Below w.heap.size w w' := by
  have HBn : Hid (Below w.heap.size w ((w.alloc (.cells #[.int .i64 x.er, .int .u64 x.tx, .int .u64 x.ts, .bool x.fl, .slice x.ss.a x.ss.n x.ss.c, .slice x.ce.a x.ce.n x.ce.c, .slice x.tb.a x.tb.n x.tb.c] 55)).alloc (.cells #[.int .i64 y.er, .int .u64 y.tx, .int .u64 y.ts, .bool y.fl, .slice y.ss.a y.ss.n y.ss.c, .slice y.ce.a y.ce.n y.ce.c, .slice y.tb.a y.tb.n y.tb.c] 55))) := (new_below w _).trans ((new_below _ _).mono (new_below w _).size)
  have hsn : (x.ss.n : Int) ≤ 9223372036854775807 := by have := h.ss.2.1; have := h.ss.2.2.1; unfold maxLen at this; omega
  have hsn' : (y.ss.n : Int) ≤ 9223372036854775807 := by have := k.ss.2.1; have := k.ss.2.2.1; unfold maxLen at this; omega
  have HCc := hide (fun W (hb : Below w.heap.size w W) => xsameC_any x.ce.xs y.ce.xs x.ce.a y.ce.a x.ce.n x.ce.c y.ce.n y.ce.c W (h.ce.keep hb) (k.ce.keep hb) (fun p hp => (h.co p hp).keep hb) (fun q hq => (k.co q hq).keep hb))
  have HCt := hide (fun W (hb : Below w.heap.size w W) => xsameTb_any x.tb.xs y.tb.xs x.tb.a y.tb.a x.tb.n x.tb.c y.tb.n y.tb.c W (h.tb.keep hb) (k.tb.keep hb) (fun p hp => (h.tok p hp).keep hb) (fun q hq => (k.tok q hq).keep hb))
  have H := hide h
  have K := hide k
  clear h k
  by_cases h0 : x.er = y.er
  · have d0 : (x.er == y.er) = true := by simpa using h0
    have c0 : decide (x.er = y.er) = true := by simpa using h0
    have b0 : (x.er != y.er) = false := by simpa using h0
    have Hh0 := hide h0
    clear h0
    by_cases h1 : x.tx = y.tx
    · have d1 : (x.tx == y.tx) = true := by simpa using h1
      have c1 : decide (x.tx = y.tx) = true := by simpa using h1
      have b1 : (x.tx != y.tx) = false := by simpa using h1
      have Hh1 := hide h1
      clear h1
      by_cases h2 : x.ts = y.ts
      · have d2 : (x.ts == y.ts) = true := by simpa using h2
        have c2 : decide (x.ts = y.ts) = true := by simpa using h2
        have b2 : (x.ts != y.ts) = false := by simpa using h2
        have Hh2 := hide h2
        clear h2
        by_cases h3 : x.fl = y.fl
        · have d3 : (x.fl == y.fl) = true := by simpa using h3
          have c3 : decide (x.fl = y.fl) = true := by simpa using h3
          have b3 : (x.fl != y.fl) = false := by simpa using h3
          have Hh3 := hide h3
          clear h3
          by_cases h4 : (x.ss.n : Int) = (y.ss.n : Int)
          · have d4 : ((x.ss.n : Int) == (y.ss.n : Int)) = true := by simpa using h4
            have c4 : decide ((x.ss.n : Int) = (y.ss.n : Int)) = true := by simpa using h4
            have b4 : ((x.ss.n : Int) != (y.ss.n : Int)) = false := by simpa using h4
            have Hh4 := hide h4
            clear h4
            go_enter Tryz.func9, Tryz.ntmps9
            go_wp2
            go_loopg [44] x.ss.n (fun gk ix wv => ∃ j : Nat, gk = x.ss.n - j ∧ ix = .int .i64 j ∧ j ≤ x.ss.n ∧ x.ss.xs.take j = y.ss.xs.take j ∧ Below ((w.alloc (.cells #[.int .i64 x.er, .int .u64 x.tx, .int .u64 x.ts, .bool x.fl, .slice x.ss.a x.ss.n x.ss.c, .slice x.ce.a x.ce.n x.ce.c, .slice x.tb.a x.tb.n x.tb.c] 55)).alloc (.cells #[.int .i64 y.er, .int .u64 y.tx, .int .u64 y.ts, .bool y.fl, .slice y.ss.a y.ss.n y.ss.c, .slice y.ce.a y.ce.n y.ce.c, .slice y.tb.a y.tb.n y.tb.c] 55)).heap.size ((w.alloc (.cells #[.int .i64 x.er, .int .u64 x.tx, .int .u64 x.ts, .bool x.fl, .slice x.ss.a x.ss.n x.ss.c, .slice x.ce.a x.ce.n x.ce.c, .slice x.tb.a x.tb.n x.tb.c] 55)).alloc (.cells #[.int .i64 y.er, .int .u64 y.tx, .int .u64 y.ts, .bool y.fl, .slice y.ss.a y.ss.n y.ss.c, .slice y.ce.a y.ce.n y.ce.c, .slice y.tb.a y.tb.n y.tb.c] 55)) wv)
            case atStart => exact ⟨0, rfl, rfl, Nat.zero_le _, rfl, Below.refl _ _⟩
            case round =>
              obtain ⟨j, rfl, rfl, hj, hTj, hBj⟩ := hrel
              have HTj := hide hTj
              have HBj := hide hBj
              have HBr := hide (HBn.out.trans (hBj.mono HBn.out.size))
              clear hBj hTj
              have hq := two_boxes w #[.int .i64 x.er, .int .u64 x.tx, .int .u64 x.ts, .bool x.fl, .slice x.ss.a x.ss.n x.ss.c, .slice x.ce.a x.ce.n x.ce.c, .slice x.tb.a x.tb.n x.tb.c] #[.int .i64 y.er, .int .u64 y.tx, .int .u64 y.ts, .bool y.fl, .slice y.ss.a y.ss.n y.ss.c, .slice y.ce.a y.ce.n y.ce.c, .slice y.tb.a y.tb.n y.tb.c] 55 55 _ HBj.out
              have x0wr : wr.cell? ⟨w.heap.size, 0, none⟩ = some (.int .i64 x.er) := hq.1 0 _ rfl
              have y0wr : wr.cell? ⟨w.heap.size + 1, 0, none⟩ = some (.int .i64 y.er) := hq.2 0 _ rfl
              have x1wr : wr.cell? ⟨w.heap.size, 1, none⟩ = some (.int .u64 x.tx) := hq.1 1 _ rfl
              have y1wr : wr.cell? ⟨w.heap.size + 1, 1, none⟩ = some (.int .u64 y.tx) := hq.2 1 _ rfl
              have x2wr : wr.cell? ⟨w.heap.size, 2, none⟩ = some (.int .u64 x.ts) := hq.1 2 _ rfl
              have y2wr : wr.cell? ⟨w.heap.size + 1, 2, none⟩ = some (.int .u64 y.ts) := hq.2 2 _ rfl
              have x3wr : wr.cell? ⟨w.heap.size, 3, none⟩ = some (.bool x.fl) := hq.1 3 _ rfl
              have y3wr : wr.cell? ⟨w.heap.size + 1, 3, none⟩ = some (.bool y.fl) := hq.2 3 _ rfl
              have x4wr : wr.cell? ⟨w.heap.size, 4, none⟩ = some (.slice x.ss.a x.ss.n x.ss.c) := hq.1 4 _ rfl
              have y4wr : wr.cell? ⟨w.heap.size + 1, 4, none⟩ = some (.slice y.ss.a y.ss.n y.ss.c) := hq.2 4 _ rfl
              have x5wr : wr.cell? ⟨w.heap.size, 5, none⟩ = some (.slice x.ce.a x.ce.n x.ce.c) := hq.1 5 _ rfl
              have y5wr : wr.cell? ⟨w.heap.size + 1, 5, none⟩ = some (.slice y.ce.a y.ce.n y.ce.c) := hq.2 5 _ rfl
              have x6wr : wr.cell? ⟨w.heap.size, 6, none⟩ = some (.slice x.tb.a x.tb.n x.tb.c) := hq.1 6 _ rfl
              have y6wr : wr.cell? ⟨w.heap.size + 1, 6, none⟩ = some (.slice y.tb.a y.tb.n y.tb.c) := hq.2 6 _ rfl
              clear hq
              by_cases hjl : j < x.ss.n
              · have hjI : (j : Int) < (x.ss.n : Int) := by omega
                have hjI' : (j : Int) < (y.ss.n : Int) := by have := Hh4.out; omega
                obtain ⟨u, hu⟩ := at_of H.out.ss.1 hjl
                obtain ⟨v, hv⟩ := at_of K.out.ss.1 (show j < y.ss.n by omega)
                obtain ⟨p1, s1, hv1, hp1, hD1⟩ := (H.out.ss.keep HBr.out).at hjl
                obtain ⟨p2, s2, hv2, hp2, hD2⟩ := (K.out.ss.keep HBr.out).at (show j < y.ss.n by omega)
                have e0 : wr.cell? ⟨p1, s1 + j * 3, none⟩ = some (.int .u64 u.tx) := hD1 j u hu 0 _ rfl
                have e1 : wr.cell? ⟨p1, s1 + j * 3 + 1, none⟩ = some (.int .i64 u.st) := hD1 j u hu 1 _ rfl
                have e2 : wr.cell? ⟨p1, s1 + j * 3 + 2, none⟩ = some (.int .u64 u.ts) := hD1 j u hu 2 _ rfl
                have f0 : wr.cell? ⟨p2, s2 + j * 3, none⟩ = some (.int .u64 v.tx) := hD2 j v hv 0 _ rfl
                have f1 : wr.cell? ⟨p2, s2 + j * 3 + 1, none⟩ = some (.int .i64 v.st) := hD2 j v hv 1 _ rfl
                have f2 : wr.cell? ⟨p2, s2 + j * 3 + 2, none⟩ = some (.int .u64 v.ts) := hD2 j v hv 2 _ rfl
                rw [hv1] at x4wr
                rw [hv2] at y4wr
                have HBx := hide hu
                have HBy := hide hv
                clear hu hv hD1 hD2 hv1 hv2
                by_cases huv : u = v
                · subst huv
                  have hne : ∀ W, (binOp .neq 80 (.agg #[.int .u64 u.tx, .int .i64 u.st, .int .u64 u.ts]) (.agg #[.int .u64 u.tx, .int .i64 u.st, .int .u64 u.ts])).run Tryz.prog W = .ok (.bool false) W := fun W => by rw [neSt2]; simp
                  go_wp2
                  go_quiet (fail)
                  go_wp2
                  go_roundg (x.ss.n - (j + 1))
                  case measure => omega
                  case rel => exact ⟨j + 1, rfl, by go_num, by omega, take_at HTj.out HBx.out HBy.out rfl, below_drewN HBj.out _⟩
                · have hne : ∀ W, (binOp .neq 80 (.agg #[.int .u64 u.tx, .int .i64 u.st, .int .u64 u.ts]) (.agg #[.int .u64 v.tx, .int .i64 v.st, .int .u64 v.ts])).run Tryz.prog W = .ok (.bool true) W := fun W => by rw [neSt2]; simp [huv]
                  have HR : Hid (decide (x.p = y.p) = false) := decide_eq_false (fun e => no_at HBx.out HBy.out huv (congrArg (fun t => t.2.2.2.2.1) (show ((x.er, x.tx, x.ts, x.fl, x.ss.xs, x.ce.xs.map MCe.p, x.tb.xs.map MTb.b)) = ((y.er, y.tx, y.ts, y.fl, y.ss.xs, y.ce.xs.map MCe.p, y.tb.xs.map MTb.b)) from e)))
                  clear huv
                  go_wp2
                  go_quiet (fail)
                  go_wp2
                  refine bodyPost_ret (v := .bool false) (by simp [results, Tryz.results9, go_sem]) rfl ⟨by rw [HR.out], below_drewN HBr.out _⟩
              · have hjI : ¬ (j : Int) < (x.ss.n : Int) := by omega
                obtain rfl : j = x.ss.n := by omega
                have HEs : Hid (x.ss.xs = y.ss.xs) := take_all HTj.out H.out.ss.1 (K.out.ss.1.trans (by have := Hh4.out; omega))
                by_cases hc : x.ce.xs.map MCe.p = y.ce.xs.map MCe.p
                · rw [show decide (x.ce.xs.map MCe.p = y.ce.xs.map MCe.p) = true from decide_eq_true hc] at HCc
                  have Hc := hide hc
                  clear hc
                  by_cases ht : x.tb.xs.map MTb.b = y.tb.xs.map MTb.b
                  · rw [show decide (x.tb.xs.map MTb.b = y.tb.xs.map MTb.b) = true from decide_eq_true ht] at HCt
                    have HR : Hid (decide (x.p = y.p) = true) := decide_eq_true (by show ((x.er, x.tx, x.ts, x.fl, x.ss.xs, x.ce.xs.map MCe.p, x.tb.xs.map MTb.b)) = ((y.er, y.tx, y.ts, y.fl, y.ss.xs, y.ce.xs.map MCe.p, y.tb.xs.map MTb.b)); rw [Hh0.out, Hh1.out, Hh2.out, Hh3.out, HEs.out, Hc.out, ht])
                    clear ht
                    go_wp2_with (first
                      | (go_at_call 24; go_must (refine (HCc.out _ HBr.out).mono ?_ <;> skip); rintro e w5 ⟨rfl, hb⟩; have HBr := hide (HBr.out.trans (hb.mono HBr.out.size)); have HBj := hide (HBj.out.trans (hb.mono HBj.out.size)); clear hb; have hq := two_boxes w #[.int .i64 x.er, .int .u64 x.tx, .int .u64 x.ts, .bool x.fl, .slice x.ss.a x.ss.n x.ss.c, .slice x.ce.a x.ce.n x.ce.c, .slice x.tb.a x.tb.n x.tb.c] #[.int .i64 y.er, .int .u64 y.tx, .int .u64 y.ts, .bool y.fl, .slice y.ss.a y.ss.n y.ss.c, .slice y.ce.a y.ce.n y.ce.c, .slice y.tb.a y.tb.n y.tb.c] 55 55 _ HBj.out; have x0w5 : w5.cell? ⟨w.heap.size, 0, none⟩ = some (.int .i64 x.er) := hq.1 0 _ rfl; have y0w5 : w5.cell? ⟨w.heap.size + 1, 0, none⟩ = some (.int .i64 y.er) := hq.2 0 _ rfl; have x1w5 : w5.cell? ⟨w.heap.size, 1, none⟩ = some (.int .u64 x.tx) := hq.1 1 _ rfl; have y1w5 : w5.cell? ⟨w.heap.size + 1, 1, none⟩ = some (.int .u64 y.tx) := hq.2 1 _ rfl; have x2w5 : w5.cell? ⟨w.heap.size, 2, none⟩ = some (.int .u64 x.ts) := hq.1 2 _ rfl; have y2w5 : w5.cell? ⟨w.heap.size + 1, 2, none⟩ = some (.int .u64 y.ts) := hq.2 2 _ rfl; have x3w5 : w5.cell? ⟨w.heap.size, 3, none⟩ = some (.bool x.fl) := hq.1 3 _ rfl; have y3w5 : w5.cell? ⟨w.heap.size + 1, 3, none⟩ = some (.bool y.fl) := hq.2 3 _ rfl; have x4w5 : w5.cell? ⟨w.heap.size, 4, none⟩ = some (.slice x.ss.a x.ss.n x.ss.c) := hq.1 4 _ rfl; have y4w5 : w5.cell? ⟨w.heap.size + 1, 4, none⟩ = some (.slice y.ss.a y.ss.n y.ss.c) := hq.2 4 _ rfl; have x5w5 : w5.cell? ⟨w.heap.size, 5, none⟩ = some (.slice x.ce.a x.ce.n x.ce.c) := hq.1 5 _ rfl; have y5w5 : w5.cell? ⟨w.heap.size + 1, 5, none⟩ = some (.slice y.ce.a y.ce.n y.ce.c) := hq.2 5 _ rfl; have x6w5 : w5.cell? ⟨w.heap.size, 6, none⟩ = some (.slice x.tb.a x.tb.n x.tb.c) := hq.1 6 _ rfl; have y6w5 : w5.cell? ⟨w.heap.size + 1, 6, none⟩ = some (.slice y.tb.a y.tb.n y.tb.c) := hq.2 6 _ rfl; clear hq)
                      | (go_at_call 25; go_must (refine (HCt.out _ HBr.out).mono ?_ <;> skip); rintro e w6 ⟨rfl, hb⟩; have HBr := hide (HBr.out.trans (hb.mono HBr.out.size)); clear hb))
                    go_ret
                    exact ⟨by rw [HR.out]; rfl, HBr.out⟩
                  · rw [show decide (x.tb.xs.map MTb.b = y.tb.xs.map MTb.b) = false from decide_eq_false ht] at HCt
                    have HR : Hid (decide (x.p = y.p) = false) := decide_eq_false (fun e => ht (congrArg (fun t => t.2.2.2.2.2.2) (show ((x.er, x.tx, x.ts, x.fl, x.ss.xs, x.ce.xs.map MCe.p, x.tb.xs.map MTb.b)) = ((y.er, y.tx, y.ts, y.fl, y.ss.xs, y.ce.xs.map MCe.p, y.tb.xs.map MTb.b)) from e)))
                    clear ht
                    go_wp2_with (first
                      | (go_at_call 24; go_must (refine (HCc.out _ HBr.out).mono ?_ <;> skip); rintro e w5 ⟨rfl, hb⟩; have HBr := hide (HBr.out.trans (hb.mono HBr.out.size)); have HBj := hide (HBj.out.trans (hb.mono HBj.out.size)); clear hb; have hq := two_boxes w #[.int .i64 x.er, .int .u64 x.tx, .int .u64 x.ts, .bool x.fl, .slice x.ss.a x.ss.n x.ss.c, .slice x.ce.a x.ce.n x.ce.c, .slice x.tb.a x.tb.n x.tb.c] #[.int .i64 y.er, .int .u64 y.tx, .int .u64 y.ts, .bool y.fl, .slice y.ss.a y.ss.n y.ss.c, .slice y.ce.a y.ce.n y.ce.c, .slice y.tb.a y.tb.n y.tb.c] 55 55 _ HBj.out; have x0w5 : w5.cell? ⟨w.heap.size, 0, none⟩ = some (.int .i64 x.er) := hq.1 0 _ rfl; have y0w5 : w5.cell? ⟨w.heap.size + 1, 0, none⟩ = some (.int .i64 y.er) := hq.2 0 _ rfl; have x1w5 : w5.cell? ⟨w.heap.size, 1, none⟩ = some (.int .u64 x.tx) := hq.1 1 _ rfl; have y1w5 : w5.cell? ⟨w.heap.size + 1, 1, none⟩ = some (.int .u64 y.tx) := hq.2 1 _ rfl; have x2w5 : w5.cell? ⟨w.heap.size, 2, none⟩ = some (.int .u64 x.ts) := hq.1 2 _ rfl; have y2w5 : w5.cell? ⟨w.heap.size + 1, 2, none⟩ = some (.int .u64 y.ts) := hq.2 2 _ rfl; have x3w5 : w5.cell? ⟨w.heap.size, 3, none⟩ = some (.bool x.fl) := hq.1 3 _ rfl; have y3w5 : w5.cell? ⟨w.heap.size + 1, 3, none⟩ = some (.bool y.fl) := hq.2 3 _ rfl; have x4w5 : w5.cell? ⟨w.heap.size, 4, none⟩ = some (.slice x.ss.a x.ss.n x.ss.c) := hq.1 4 _ rfl; have y4w5 : w5.cell? ⟨w.heap.size + 1, 4, none⟩ = some (.slice y.ss.a y.ss.n y.ss.c) := hq.2 4 _ rfl; have x5w5 : w5.cell? ⟨w.heap.size, 5, none⟩ = some (.slice x.ce.a x.ce.n x.ce.c) := hq.1 5 _ rfl; have y5w5 : w5.cell? ⟨w.heap.size + 1, 5, none⟩ = some (.slice y.ce.a y.ce.n y.ce.c) := hq.2 5 _ rfl; have x6w5 : w5.cell? ⟨w.heap.size, 6, none⟩ = some (.slice x.tb.a x.tb.n x.tb.c) := hq.1 6 _ rfl; have y6w5 : w5.cell? ⟨w.heap.size + 1, 6, none⟩ = some (.slice y.tb.a y.tb.n y.tb.c) := hq.2 6 _ rfl; clear hq)
                      | (go_at_call 25; go_must (refine (HCt.out _ HBr.out).mono ?_ <;> skip); rintro e w6 ⟨rfl, hb⟩; have HBr := hide (HBr.out.trans (hb.mono HBr.out.size)); clear hb))
                    go_ret
                    exact ⟨by rw [HR.out]; rfl, HBr.out⟩
                · rw [show decide (x.ce.xs.map MCe.p = y.ce.xs.map MCe.p) = false from decide_eq_false hc] at HCc
                  have HR : Hid (decide (x.p = y.p) = false) := decide_eq_false (fun e => hc (congrArg (fun t => t.2.2.2.2.2.1) (show ((x.er, x.tx, x.ts, x.fl, x.ss.xs, x.ce.xs.map MCe.p, x.tb.xs.map MTb.b)) = ((y.er, y.tx, y.ts, y.fl, y.ss.xs, y.ce.xs.map MCe.p, y.tb.xs.map MTb.b)) from e)))
                  clear hc
                  go_wp2_with (first
                    | (go_at_call 24; go_must (refine (HCc.out _ HBr.out).mono ?_ <;> skip); rintro e w5 ⟨rfl, hb⟩; have HBr := hide (HBr.out.trans (hb.mono HBr.out.size)); have HBj := hide (HBj.out.trans (hb.mono HBj.out.size)); clear hb; have hq := two_boxes w #[.int .i64 x.er, .int .u64 x.tx, .int .u64 x.ts, .bool x.fl, .slice x.ss.a x.ss.n x.ss.c, .slice x.ce.a x.ce.n x.ce.c, .slice x.tb.a x.tb.n x.tb.c] #[.int .i64 y.er, .int .u64 y.tx, .int .u64 y.ts, .bool y.fl, .slice y.ss.a y.ss.n y.ss.c, .slice y.ce.a y.ce.n y.ce.c, .slice y.tb.a y.tb.n y.tb.c] 55 55 _ HBj.out; have x0w5 : w5.cell? ⟨w.heap.size, 0, none⟩ = some (.int .i64 x.er) := hq.1 0 _ rfl; have y0w5 : w5.cell? ⟨w.heap.size + 1, 0, none⟩ = some (.int .i64 y.er) := hq.2 0 _ rfl; have x1w5 : w5.cell? ⟨w.heap.size, 1, none⟩ = some (.int .u64 x.tx) := hq.1 1 _ rfl; have y1w5 : w5.cell? ⟨w.heap.size + 1, 1, none⟩ = some (.int .u64 y.tx) := hq.2 1 _ rfl; have x2w5 : w5.cell? ⟨w.heap.size, 2, none⟩ = some (.int .u64 x.ts) := hq.1 2 _ rfl; have y2w5 : w5.cell? ⟨w.heap.size + 1, 2, none⟩ = some (.int .u64 y.ts) := hq.2 2 _ rfl; have x3w5 : w5.cell? ⟨w.heap.size, 3, none⟩ = some (.bool x.fl) := hq.1 3 _ rfl; have y3w5 : w5.cell? ⟨w.heap.size + 1, 3, none⟩ = some (.bool y.fl) := hq.2 3 _ rfl; have x4w5 : w5.cell? ⟨w.heap.size, 4, none⟩ = some (.slice x.ss.a x.ss.n x.ss.c) := hq.1 4 _ rfl; have y4w5 : w5.cell? ⟨w.heap.size + 1, 4, none⟩ = some (.slice y.ss.a y.ss.n y.ss.c) := hq.2 4 _ rfl; have x5w5 : w5.cell? ⟨w.heap.size, 5, none⟩ = some (.slice x.ce.a x.ce.n x.ce.c) := hq.1 5 _ rfl; have y5w5 : w5.cell? ⟨w.heap.size + 1, 5, none⟩ = some (.slice y.ce.a y.ce.n y.ce.c) := hq.2 5 _ rfl; have x6w5 : w5.cell? ⟨w.heap.size, 6, none⟩ = some (.slice x.tb.a x.tb.n x.tb.c) := hq.1 6 _ rfl; have y6w5 : w5.cell? ⟨w.heap.size + 1, 6, none⟩ = some (.slice y.tb.a y.tb.n y.tb.c) := hq.2 6 _ rfl; clear hq)
                    | (go_at_call 25; go_must (refine (HCt.out _ HBr.out).mono ?_ <;> skip); rintro e w6 ⟨rfl, hb⟩; have HBr := hide (HBr.out.trans (hb.mono HBr.out.size)); clear hb))
                  go_ret
                  exact ⟨by rw [HR.out]; rfl, HBr.out⟩
          · have d4 : ((x.ss.n : Int) == (y.ss.n : Int)) = false := by simpa using h4
            have c4 : decide ((x.ss.n : Int) = (y.ss.n : Int)) = false := by simpa using h4
            have b4 : ((x.ss.n : Int) != (y.ss.n : Int)) = true := by simpa using h4
            have HR : Hid (decide (x.p = y.p) = false) := decide_eq_false (fun e => h4 (by have e3 := congrArg List.length (congrArg (fun t => t.2.2.2.2.1) (show ((x.er, x.tx, x.ts, x.fl, x.ss.xs, x.ce.xs.map MCe.p, x.tb.xs.map MTb.b)) = ((y.er, y.tx, y.ts, y.fl, y.ss.xs, y.ce.xs.map MCe.p, y.tb.xs.map MTb.b)) from e)); dsimp only at e3; rw [H.out.ss.1, K.out.ss.1] at e3; omega))
            have Hh4 := hide h4
            clear h4
            go_enter Tryz.func9, Tryz.ntmps9
            go_wp2
            go_ret
            exact ⟨by rw [HR.out]; rfl, HBn.out⟩
        · have d3 : (x.fl == y.fl) = false := by simpa using h3
          have c3 : decide (x.fl = y.fl) = false := by simpa using h3
          have b3 : (x.fl != y.fl) = true := by simpa using h3
          have HR : Hid (decide (x.p = y.p) = false) := decide_eq_false (fun e => h3 (congrArg (fun t => t.2.2.2.1) (show ((x.er, x.tx, x.ts, x.fl, x.ss.xs, x.ce.xs.map MCe.p, x.tb.xs.map MTb.b)) = ((y.er, y.tx, y.ts, y.fl, y.ss.xs, y.ce.xs.map MCe.p, y.tb.xs.map MTb.b)) from e)))
          have Hh3 := hide h3
          clear h3
          go_enter Tryz.func9, Tryz.ntmps9
          go_wp2
          go_ret
          exact ⟨by rw [HR.out]; rfl, HBn.out⟩
      · have d2 : (x.ts == y.ts) = false := by simpa using h2
        have c2 : decide (x.ts = y.ts) = false := by simpa using h2
        have b2 : (x.ts != y.ts) = true := by simpa using h2
        have HR : Hid (decide (x.p = y.p) = false) := decide_eq_false (fun e => h2 (congrArg (fun t => t.2.2.1) (show ((x.er, x.tx, x.ts, x.fl, x.ss.xs, x.ce.xs.map MCe.p, x.tb.xs.map MTb.b)) = ((y.er, y.tx, y.ts, y.fl, y.ss.xs, y.ce.xs.map MCe.p, y.tb.xs.map MTb.b)) from e)))
        have Hh2 := hide h2
        clear h2
        go_enter Tryz.func9, Tryz.ntmps9
        go_wp2
        go_ret
        exact ⟨by rw [HR.out]; rfl, HBn.out⟩
    · have d1 : (x.tx == y.tx) = false := by simpa using h1
      have c1 : decide (x.tx = y.tx) = false := by simpa using h1
      have b1 : (x.tx != y.tx) = true := by simpa using h1
      have HR : Hid (decide (x.p = y.p) = false) := decide_eq_false (fun e => h1 (congrArg (fun t => t.2.1) (show ((x.er, x.tx, x.ts, x.fl, x.ss.xs, x.ce.xs.map MCe.p, x.tb.xs.map MTb.b)) = ((y.er, y.tx, y.ts, y.fl, y.ss.xs, y.ce.xs.map MCe.p, y.tb.xs.map MTb.b)) from e)))
      have Hh1 := hide h1
      clear h1
      go_enter Tryz.func9, Tryz.ntmps9
      go_wp2
      go_ret
      exact ⟨by rw [HR.out]; rfl, HBn.out⟩
  · have d0 : (x.er == y.er) = false := by simpa using h0
    have c0 : decide (x.er = y.er) = false := by simpa using h0
    have b0 : (x.er != y.er) = true := by simpa using h0
    have HR : Hid (decide (x.p = y.p) = false) := decide_eq_false (fun e => h0 (congrArg (fun t => t.1) (show ((x.er, x.tx, x.ts, x.fl, x.ss.xs, x.ce.xs.map MCe.p, x.tb.xs.map MTb.b)) = ((y.er, y.tx, y.ts, y.fl, y.ss.xs, y.ce.xs.map MCe.p, y.tb.xs.map MTb.b)) from e)))
    have Hh0 := hide h0
    clear h0
    go_enter Tryz.func9, Tryz.ntmps9
    go_wp2
    go_ret
    exact ⟨by rw [HR.out]; rfl, HBn.out⟩

end Go.Proofs.YtcgiicmmfleinaaGreatDoor

namespace Go.Proofs.YtcgiicmmfleinaaGreatDoor
open Go.RowKit NumMath Go.ChangeShapes Go.WideShapes Go.Deep
set_option linter.unusedVariables false
set_option maxRecDepth 100000

theorem nmade_any (w : World) : Calls Tryz.prog 26 #[.pointer none] w fun e w' => e = .returned (.bool false) ∧ w' = w := by
  go_enter Tryz.func26, Tryz.ntmps26
  go_wp2
  go_ret
  exact ⟨rfl, rfl⟩

theorem nclock_any (w : World) : Calls Tryz.prog 12 #[.pointer none] w fun e w' => e = .returned (.int .u64 0) ∧ w' = w := by
  go_enter Tryz.func12, Tryz.ntmps12
  go_wp2_with (first
    | (go_at_call 26; go_must (refine (nmade_any _).mono ?_); rintro e w' ⟨rfl, hw⟩; have hw := hw.symm; subst hw))
  go_ret
  exact ⟨rfl, rfl⟩

theorem nlocks_any (w : World) : Calls Tryz.prog 13 #[.pointer none] w fun e w' => e = .returned (.pointer none) ∧ w' = w := by
  go_enter Tryz.func13, Tryz.ntmps13
  go_wp2_with (first
    | (go_at_call 26; go_must (refine (nmade_any _).mono ?_); rintro e w' ⟨rfl, hw⟩; have hw := hw.symm; subst hw))
  go_ret
  exact ⟨rfl, rfl⟩

set_option maxHeartbeats 2000000 in
theorem ndo_any (m : MCmd) (w : World) : Calls Tryz.prog 10 #[.pointer none, .agg #[.int .u64 m.cl, .int .u64 m.sq, .int .i64 m.kd, .int .u64 m.tx, .int .u64 m.ts, .bool m.fl, .int .u64 m.lk.l.tx, .int .i64 m.lk.l.lv, .int .i64 m.lk.l.md, .slice m.lk.la m.lk.ln m.lk.lc, .slice m.lk.ha m.lk.hn m.lk.hc, .slice m.lo.a m.lo.n m.lo.c, .slice m.hi.a m.hi.n m.hi.c, .slice m.txs.a m.txs.n m.txs.c, .slice m.ws.a m.ws.n m.ws.c, .slice m.ks.a m.ks.n m.ks.c, .int .i64 m.tb.id, .string (strB m.tb.nm), .slice m.tb.cs.a m.tb.cs.n m.tb.cs.c, .int .i64 m.tb.ky, .slice m.tb.ix.a m.tb.ix.n m.tb.ix.c]] w fun e w' => e = .returned (.agg #[.int .i64 1, .int .u64 0, .int .u64 0, .bool false, .slice none 0 0, .slice none 0 0, .slice none 0 0]) ∧ Below w.heap.size w w' := by
  have HB : Hid (Below w.heap.size w ((w.alloc (.cells #[.int .u64 m.cl, .int .u64 m.sq, .int .i64 m.kd, .int .u64 m.tx, .int .u64 m.ts, .bool m.fl, .int .u64 m.lk.l.tx, .int .i64 m.lk.l.lv, .int .i64 m.lk.l.md, .slice m.lk.la m.lk.ln m.lk.lc, .slice m.lk.ha m.lk.hn m.lk.hc, .slice m.lo.a m.lo.n m.lo.c, .slice m.hi.a m.hi.n m.hi.c, .slice m.txs.a m.txs.n m.txs.c, .slice m.ws.a m.ws.n m.ws.c, .slice m.ks.a m.ks.n m.ks.c, .int .i64 m.tb.id, .string (strB m.tb.nm), .slice m.tb.cs.a m.tb.cs.n m.tb.cs.c, .int .i64 m.tb.ky, .slice m.tb.ix.a m.tb.ix.n m.tb.ix.c] 50)).alloc (.cells #[.int .i64 1, .int .u64 0, .int .u64 0, .bool false, .slice none 0 0, .slice none 0 0, .slice none 0 0] 55))) := (new_below w _).trans ((new_below _ _).mono (new_below w _).size)
  go_enter Tryz.func10, Tryz.ntmps10
  go_wp2_with (first
    | (go_at_call 26; go_must (refine (nmade_any _).mono ?_); rintro e w' ⟨rfl, hw⟩; have hw := hw.symm; subst hw))
  obtain ⟨W, hW⟩ : ∃ W, W = ((w.alloc (.cells #[.int .u64 m.cl, .int .u64 m.sq, .int .i64 m.kd, .int .u64 m.tx, .int .u64 m.ts, .bool m.fl, .int .u64 m.lk.l.tx, .int .i64 m.lk.l.lv, .int .i64 m.lk.l.md, .slice m.lk.la m.lk.ln m.lk.lc, .slice m.lk.ha m.lk.hn m.lk.hc, .slice m.lo.a m.lo.n m.lo.c, .slice m.hi.a m.hi.n m.hi.c, .slice m.txs.a m.txs.n m.txs.c, .slice m.ws.a m.ws.n m.ws.c, .slice m.ks.a m.ks.n m.ks.c, .int .i64 m.tb.id, .string (strB m.tb.nm), .slice m.tb.cs.a m.tb.cs.n m.tb.cs.c, .int .i64 m.tb.ky, .slice m.tb.ix.a m.tb.ix.n m.tb.ix.c] 50)).alloc (.cells #[.int .i64 1, .int .u64 0, .int .u64 0, .bool false, .slice none 0 0, .slice none 0 0, .slice none 0 0] 55)) := ⟨_, rfl⟩
  have hq := two_boxes w #[.int .u64 m.cl, .int .u64 m.sq, .int .i64 m.kd, .int .u64 m.tx, .int .u64 m.ts, .bool m.fl, .int .u64 m.lk.l.tx, .int .i64 m.lk.l.lv, .int .i64 m.lk.l.md, .slice m.lk.la m.lk.ln m.lk.lc, .slice m.lk.ha m.lk.hn m.lk.hc, .slice m.lo.a m.lo.n m.lo.c, .slice m.hi.a m.hi.n m.hi.c, .slice m.txs.a m.txs.n m.txs.c, .slice m.ws.a m.ws.n m.ws.c, .slice m.ks.a m.ks.n m.ks.c, .int .i64 m.tb.id, .string (strB m.tb.nm), .slice m.tb.cs.a m.tb.cs.n m.tb.cs.c, .int .i64 m.tb.ky, .slice m.tb.ix.a m.tb.ix.n m.tb.ix.c] #[.int .i64 1, .int .u64 0, .int .u64 0, .bool false, .slice none 0 0, .slice none 0 0, .slice none 0 0] 50 55 W (hW ▸ Below.refl _ _)
  have hB : Below w.heap.size w W := hW ▸ HB.out
  rw [← hW]
  have r0 : W.cell? ⟨w.heap.size + 1, 0, none⟩ = some (.int .i64 1) := hq.2 0 _ rfl
  have r1 : W.cell? ⟨w.heap.size + 1, 1, none⟩ = some (.int .u64 0) := hq.2 1 _ rfl
  have r2 : W.cell? ⟨w.heap.size + 1, 2, none⟩ = some (.int .u64 0) := hq.2 2 _ rfl
  have r3 : W.cell? ⟨w.heap.size + 1, 3, none⟩ = some (.bool false) := hq.2 3 _ rfl
  have r4 : W.cell? ⟨w.heap.size + 1, 4, none⟩ = some (.slice none 0 0) := hq.2 4 _ rfl
  have r5 : W.cell? ⟨w.heap.size + 1, 5, none⟩ = some (.slice none 0 0) := hq.2 5 _ rfl
  have r6 : W.cell? ⟨w.heap.size + 1, 6, none⟩ = some (.slice none 0 0) := hq.2 6 _ rfl
  exact bodyPost_ret (v := .agg #[.int .i64 1, .int .u64 0, .int .u64 0, .bool false, .slice none 0 0, .slice none 0 0, .slice none 0 0]) (by simp [results, Tryz.results10, go_sem, r0, r1, r2, r3, r4, r5, r6]) rfl ⟨rfl, hB⟩

/-- how many locks are held -/
theorem mheld_any {F : Nat → Prop} {base : Nat} {a : Mm} {z : Nat} {S : Mac} {w : World} (h : IsMm F base w a z S) (hz : z ≤ 1000) :
    Calls Tryz.prog 15 #[.pointer (some ⟨a.q, 0, none⟩)] w fun e w' => ∃ la c, e = .returned (.slice la S.tab.held.length c) ∧ Below w.heap.size w w' := by
  obtain ⟨ha, n1, c1, wa, n2, c2, e1, e2, hT⟩ := h.tb.read
  have hl : a.hs.length = S.tab.held.length := by rw [← h.th, List.length_map]
  refine (pheld_any w a.q ha n1 c1 wa n2 c2 a.hs a.ws hT (by have := hT.h.1; have := h.i.nh; omega) (fun m hm => ?_)).mono ?_
  · have := h.i.tu m.l (List.mem_append_left _ (by rw [← h.th]; exact List.mem_map_of_mem hm))
    have h1 := (hT.ho m hm).lo.1
    have h2 := (hT.ho m hm).hi.1
    omega
  · rintro e w' ⟨la, k, c, ys, rfl, g1, g2, g3, g4⟩
    have : k = S.tab.held.length := by
      have e3 := congrArg List.length g2
      rw [List.length_map, List.length_map, g1.len.1, hl] at e3
      exact e3
    subst this
    exact ⟨la, c, rfl, g4⟩

end Go.Proofs.YtcgiicmmfleinaaGreatDoor
