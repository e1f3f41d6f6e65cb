/- SameLocks, SameEdges: what they answer. -/
import Derived.Test.YtcgiicmmfleinaaGreatDoorLkA
namespace Go.Proofs.YtcgiicmmfleinaaGreatDoor
open Go.RowKit NumMath Go.ChangeShapes Go.WideShapes Go.Deep
set_option linter.unusedVariables false
set_option maxRecDepth 100000

theorem map_take_eq {xs ys : List ML} {k : Nat} {m m' : ML} (hx : xs[k]? = some m) (hy : ys[k]? = some m') (h : (xs.take k).map ML.l = (ys.take k).map ML.l) (e : m.l = m'.l) : (xs.take (k + 1)).map ML.l = (ys.take (k + 1)).map ML.l := by
  rw [List.take_add_one, List.take_add_one, hx, hy, List.map_append, List.map_append, h]
  simp [e]

theorem map_ne {xs ys : List ML} {k : Nat} {m m' : ML} (hx : xs[k]? = some m) (hy : ys[k]? = some m') (e : ¬ m.l = m'.l) : ¬ xs.map ML.l = ys.map ML.l := by
  intro h
  have := congrArg (fun l => l[k]?) h
  simp only [List.getElem?_map, hx, hy, Option.map_some] at this
  exact e (Option.some.inj this)

set_option maxHeartbeats 4000000 in
theorem sameLocks_any (a : Option Addr) (n c : Nat) (xs : List ML) (b : Option Addr) (m d : Nat) (ys : List ML) (w : World) (h1 : IsY layK w a n c xs) (h2 : IsY layK w b m d ys) (o1 : ∀ x ∈ xs, x.ok w) (o2 : ∀ x ∈ ys, x.ok w) :
    Calls Tryz.prog 14 #[.slice a n c, .slice b m d] w fun e w' => e = .returned (.bool (decide (xs.map ML.l = ys.map ML.l))) ∧ Below w.heap.size w w' := by
  have H1 := hide h1
  have H2 := hide h2
  have O1 := hide o1
  have O2 := hide o2
  have l1 := h1.1
  have l2 := h2.1
  have hm1 : (n : Int) ≤ 9223372036854775807 := by have := h1.2.1; have := h1.2.2.1; unfold maxLen at this; omega
  have hm2 : (m : Int) ≤ 9223372036854775807 := by have := h2.2.1; have := h2.2.2.1; unfold maxLen at this; omega
  obtain ⟨z, hz⟩ : ∃ z, decide (xs.map ML.l = ys.map ML.l) = z := ⟨_, rfl⟩
  rw [hz]
  have HZ := hide hz
  clear h1 h2 o1 o2 hz
  by_cases hnm : n = m
  · subst hnm
    go_enter Tryz.func14, Tryz.ntmps14
    go_wp2
    go_loopw [13] (fun i wr => ∃ k : Nat, i = .int .i64 k ∧ k ≤ n ∧ (xs.take k).map ML.l = (ys.take k).map ML.l ∧ Below w.heap.size w wr) (fun i _ => n - (intOf i).toNat)
    case atStart => exact ⟨0, rfl, Nat.zero_le _, rfl, Below.refl _ _⟩
    case round =>
      obtain ⟨k, rfl, hk, hS, hB⟩ := hrel
      have HB := hide hB
      have HS := hide hS
      have hsw := hB.size
      clear hS
      by_cases hlt : k < n
      · have hlt' : (k : Int) < (n : Int) := by omega
        obtain ⟨p, hp⟩ := ml_at (hs := xs) (k := k) (by omega)
        obtain ⟨p', hp'⟩ := ml_at (hs := ys) (k := k) (by omega)
        obtain ⟨g, off, e1, hg, hC⟩ := H1.out.at hlt
        obtain ⟨g', off', e2, hg', hC'⟩ := H2.out.at hlt
        subst e1 e2
        have HV : Hid (∀ V, Below wr.drew.heap.size wr.drew V → (V.cell? ⟨g, off + k * 5, none⟩ = some (.int .u64 p.l.tx) ∧ V.cell? ⟨g, off + k * 5 + 1, none⟩ = some (.int .i64 p.l.lv) ∧ V.cell? ⟨g, off + k * 5 + 2, none⟩ = some (.int .i64 p.l.md) ∧ V.cell? ⟨g, off + k * 5 + 3, none⟩ = some (.slice p.la p.ln p.lc) ∧ V.cell? ⟨g, off + k * 5 + 4, none⟩ = some (.slice p.ha p.hn p.hc)) ∧ (V.cell? ⟨g', off' + k * 5, none⟩ = some (.int .u64 p'.l.tx) ∧ V.cell? ⟨g', off' + k * 5 + 1, none⟩ = some (.int .i64 p'.l.lv) ∧ V.cell? ⟨g', off' + k * 5 + 2, none⟩ = some (.int .i64 p'.l.md) ∧ V.cell? ⟨g', off' + k * 5 + 3, none⟩ = some (.slice p'.la p'.ln p'.lc) ∧ V.cell? ⟨g', off' + k * 5 + 4, none⟩ = some (.slice p'.ha p'.hn p'.hc))) := fun V hV => by
          have hV2 := hB.trans ((below_undrew hV).mono hsw)
          have q := at5_of (rangeY_same (hC k p hp) (hV2.block g hg))
          have q' := at5_of (rangeY_same (hC' k p' hp') (hV2.block g' hg'))
          exact ⟨⟨q.c0, q.c1, q.c2, q.c3, q.c4⟩, ⟨q'.c0, q'.c1, q'.c2, q'.c3, q'.c4⟩⟩
        have hbd : Below w.heap.size w wr.drew := hB.drew
        have HSm := hide (same_any p p' wr.drew ((O1.out p (List.mem_of_getElem? hp)).keep hbd) ((O2.out p' (List.mem_of_getElem? hp')).keep hbd))
        have HP := hide hp
        have HP' := hide hp'
        clear hC hC' hp hp' hbd hB
        go_wp2
        refine startX 99 (by kernel_rfl) ?_
        refine' takeX (E := 99) (i := 0) (v := _) rfl (by kernel_rfl) (by kernel_rfl) (by kernel_rfl) (by kernel_rfl) (fun _ _ _ h => h) (by rfl) (Below.refl _ _) ?_ ?_; rotate_left
        · (intro V hSV; obtain ⟨⟨x0, x1, x2, x3, x4⟩, ⟨y0, y1, y2, y3, y4⟩⟩ := HV.out V hSV; go_simp; all_goals (with_reducible rfl))
        (try simp only [Act.put, List.setIfInBounds_toArray, List.set_cons_zero, List.set_cons_succ])
        refine' takeX (E := 99) (i := 1) (v := _) rfl (by kernel_rfl) (by kernel_rfl) (by kernel_rfl) (by kernel_rfl) (fun _ _ _ h => h) (by rfl) (Below.refl _ _) ?_ ?_; rotate_left
        · (intro V hSV; obtain ⟨⟨x0, x1, x2, x3, x4⟩, ⟨y0, y1, y2, y3, y4⟩⟩ := HV.out V hSV; go_simp; all_goals (with_reducible rfl))
        (try simp only [Act.put, List.setIfInBounds_toArray, List.set_cons_zero, List.set_cons_succ])
        refine' takeX (E := 99) (i := 2) (v := _) rfl (by kernel_rfl) (by kernel_rfl) (by kernel_rfl) (by kernel_rfl) (fun _ _ _ h => h) (by rfl) (Below.refl _ _) ?_ ?_; rotate_left
        · (intro V hSV; obtain ⟨⟨x0, x1, x2, x3, x4⟩, ⟨y0, y1, y2, y3, y4⟩⟩ := HV.out V hSV; go_simp; all_goals (with_reducible rfl))
        (try simp only [Act.put, List.setIfInBounds_toArray, List.set_cons_zero, List.set_cons_succ])
        refine' takeX (E := 99) (i := 3) (v := _) rfl (by kernel_rfl) (by kernel_rfl) (by kernel_rfl) (by kernel_rfl) (fun _ _ _ h => h) (by rfl) (Below.refl _ _) ?_ ?_; rotate_left
        · (intro V hSV; obtain ⟨⟨x0, x1, x2, x3, x4⟩, ⟨y0, y1, y2, y3, y4⟩⟩ := HV.out V hSV; go_simp; all_goals (with_reducible rfl))
        (try simp only [Act.put, List.setIfInBounds_toArray, List.set_cons_zero, List.set_cons_succ])
        refine' takeX (E := 99) (i := 4) (v := _) rfl (by kernel_rfl) (by kernel_rfl) (by kernel_rfl) (by kernel_rfl) (fun _ _ _ h => h) (by rfl) (Below.refl _ _) ?_ ?_; rotate_left
        · (intro V hSV; obtain ⟨⟨x0, x1, x2, x3, x4⟩, ⟨y0, y1, y2, y3, y4⟩⟩ := HV.out V hSV; go_simp; all_goals (with_reducible rfl))
        (try simp only [Act.put, List.setIfInBounds_toArray, List.set_cons_zero, List.set_cons_succ])
        refine' takeX (E := 99) (i := 5) (v := _) rfl (by kernel_rfl) (by kernel_rfl) (by kernel_rfl) (by kernel_rfl) (fun _ _ _ h => h) (by rfl) (Below.refl _ _) ?_ ?_; rotate_left
        · (intro V hSV; obtain ⟨⟨x0, x1, x2, x3, x4⟩, ⟨y0, y1, y2, y3, y4⟩⟩ := HV.out V hSV; go_simp; all_goals (with_reducible rfl))
        (try simp only [Act.put, List.setIfInBounds_toArray, List.set_cons_zero, List.set_cons_succ])
        refine' takeX (E := 99) (i := 6) (v := _) rfl (by kernel_rfl) (by kernel_rfl) (by kernel_rfl) (by kernel_rfl) (fun _ _ _ h => h) (by rfl) (Below.refl _ _) ?_ ?_; rotate_left
        · (intro V hSV; obtain ⟨⟨x0, x1, x2, x3, x4⟩, ⟨y0, y1, y2, y3, y4⟩⟩ := HV.out V hSV; go_simp; all_goals (with_reducible rfl))
        (try simp only [Act.put, List.setIfInBounds_toArray, List.set_cons_zero, List.set_cons_succ])
        refine' takeX (E := 99) (i := 7) (v := _) rfl (by kernel_rfl) (by kernel_rfl) (by kernel_rfl) (by kernel_rfl) (fun _ _ _ h => h) (by rfl) (Below.refl _ _) ?_ ?_; rotate_left
        · (intro V hSV; obtain ⟨⟨x0, x1, x2, x3, x4⟩, ⟨y0, y1, y2, y3, y4⟩⟩ := HV.out V hSV; go_simp; all_goals (with_reducible rfl))
        (try simp only [Act.put, List.setIfInBounds_toArray, List.set_cons_zero, List.set_cons_succ])
        cases hsm : decide (p.l = p'.l) with
        | true =>
          rw [hsm] at HSm
          have HEq := hide (map_take_eq HP.out HP'.out HS.out (of_decide_eq_true hsm))
          clear hsm
          refine callX (i := 8) rfl (by kernel_rfl) (fun K hK => ?_)
          go_simp
          refine HSm.out.mono ?_
          rintro e w2 ⟨rfl, hb2⟩
          have HB2 := hide (below_undrew hb2)
          refine hK.out _ _ (fun _ => hb2) ?_
          clear hK K
          (try simp only [Act.put, List.setIfInBounds_toArray, List.set_cons_zero, List.set_cons_succ])
          refine callX (i := 9) rfl (by kernel_rfl) (fun K hK => ?_)
          go_simp
          refine hK.out _ _ (fun _ => hb2) ?_
          clear hK K hb2
          (try simp only [Act.put, List.setIfInBounds_toArray, List.set_cons_zero, List.set_cons_succ])
          refine doneX (by kernel_rfl) ?_ _
          go_wp2
          go_roundw
          case rel => exact ⟨k + 1, by go_num, by omega, HEq.out, HB.out.trans (HB2.out.mono hsw)⟩
          case measure => simp [intOf]; omega
        | false =>
          rw [hsm] at HSm
          have HZ2 := hide (show z = false by rw [← HZ.out]; exact decide_eq_false (map_ne HP.out HP'.out (of_decide_eq_false hsm)))
          clear hsm
          refine callX (i := 8) rfl (by kernel_rfl) (fun K hK => ?_)
          go_simp
          refine HSm.out.mono ?_
          rintro e w2 ⟨rfl, hb2⟩
          have HB2 := hide (below_undrew hb2)
          refine hK.out _ _ (fun _ => hb2) ?_
          clear hK K
          (try simp only [Act.put, List.setIfInBounds_toArray, List.set_cons_zero, List.set_cons_succ])
          refine callX (i := 9) rfl (by kernel_rfl) (fun K hK => ?_)
          go_simp
          refine hK.out _ _ (fun _ => hb2) ?_
          clear hK K hb2
          (try simp only [Act.put, List.setIfInBounds_toArray, List.set_cons_zero, List.set_cons_succ])
          refine doneX (by kernel_rfl) ?_ _
          go_wp2
          go_ret
          exact ⟨by rw [HZ2.out]; rfl, HB.out.trans (HB2.out.mono hsw)⟩
      · obtain rfl : k = n := by omega
        have hs := HS.out
        rw [List.take_of_length_le (by omega), List.take_of_length_le (by omega)] at hs
        have HZ2 := hide (show z = true by rw [← HZ.out]; exact decide_eq_true hs)
        clear hB hs
        go_wp2
        go_ret
        exact ⟨by rw [HZ2.out]; rfl, HB.out⟩
  · have hne : ((n : Int) == (m : Int)) = false := by simp; omega
    have hneN : (n == m) = false := by simp [hnm]
    have HZ2 := hide (show z = false by
      rw [← HZ.out]
      exact decide_eq_false (fun e => by have := congrArg List.length e; rw [List.length_map, List.length_map] at this; omega))
    go_enter Tryz.func14, Tryz.ntmps14
    go_wp2
    go_ret
    exact ⟨by rw [HZ2.out]; rfl, Below.refl _ _⟩

end Go.Proofs.YtcgiicmmfleinaaGreatDoor
