/- The law WaitJust. -/
import Derived.Test.YtahfaddldnfngaaWpS
namespace Go.Proofs.Ytahfaddldnfngaa
open Go.RowKit NumMath Go.ChangeShapes Go.WideShapes Go.Deep
set_option linter.unusedVariables false
set_option maxRecDepth 100000

theorem cycle_len (l : List (Int × Int)) (fr : Int) : decide (0 < (cycleW l fr).length) = decide (fr ∈ afterW l fr) ∧ (∀ x, (cycleW l fr)[0]? = some x → x = fr) := by
  by_cases h : fr ∈ afterW l fr
  · obtain ⟨h1, _, _, _⟩ := cycleW_some l fr h
    cases hc : cycleW l fr with
    | nil => rw [hc] at h1; cases h1
    | cons x r =>
      rw [hc] at h1
      cases h1
      exact ⟨by simp [h], fun y hy => by cases hy; rfl⟩
  · rw [cycleW_none l fr h]
    exact ⟨by simp [h], fun y hy => by cases hy⟩

/-- whether an edge is among those -/
def amongE (l : List (Int × Int)) (e : Int × Int) : Bool := l.any (fun x => x == e)

theorem among_more {l : List (Int × Int)} {j : Nat} {x : Int × Int} (h : l[j]? = some x) (e : Int × Int) : amongE (l.take (j + 1)) e = (amongE (l.take j) e || x == e) := by
  unfold amongE
  rw [List.take_add_one, h, List.any_append]
  simp

theorem among_mem {l : List (Int × Int)} {e : Int × Int} (h : e ∈ l) : amongE l e = true := List.any_eq_true.2 ⟨e, h, by simp⟩

theorem kwrap_iJ (n : Int) (h1 : -9223372036854775808 ≤ n) (h2 : n ≤ 9223372036854775807) : IntKind.i64.wrap n = n := by
  simp [IntKind.wrap, IntKind.bits, IntKind.signed]
  split <;> omega

theorem mod_nat (k n : Nat) (hn : 0 < n) (hb : (n : Int) ≤ 9223372036854775807) (hk : k < n) : ((k : Int) + 1).tmod (n : Int) = (((k + 1) % n : Nat) : Int) := by
  rw [show (k : Int) + 1 = ((k + 1 : Nat) : Int) by omega, Int.ofNat_tmod]

set_option maxHeartbeats 4000000 in
theorem wjust_any (a : Option Addr) (len cap : Nat) (l : List (Int × Int)) (fr : Int) (w : World) (h : IsEdges w a len cap l) (hfr : U64 fr) :
    Calls Try.prog 5 #[.slice a len cap, .int .u64 fr] w fun e w' => e = .returned (.bool true) ∧ Below w.heap.size w w' := by
  have H := hide h
  have hll := h.1.1
  have hm : (len : Int) ≤ 9223372036854775807 := by have := h.1.2.1; have := h.1.2.2.1; unfold maxLen at this; omega
  clear h
  by_cases hl : (40 : Int) < (len : Int)
  · go_enter Try.func5, Try.ntmps5
    go_wp2_with (first
      | (go_at_call 7; go_must (refine (awake13_any _).mono ?_); rintro e w1 ⟨rfl, hb⟩; have HB1 := hide hb; clear hb))
    go_ret
    exact ⟨rfl, HB1.out⟩
  · have hl2 : len ≤ 40 := by omega
    obtain ⟨hdz, hd0⟩ := cycle_len l fr
    have HD0 := hide hd0
    have HSt := hide (cycleW_step l fr)
    clear hd0
    cases hz : decide (fr ∈ afterW l fr) with
    | false =>
      rw [hz] at hdz
      have hC : cycleW l fr = [] := List.length_eq_zero_iff.1 (by have := of_decide_eq_false hdz; omega)
      have HC := hide hC
      have HZ := hide hz
      clear hdz hC hz
      go_enter Try.func5, Try.ntmps5
      go_wp2_with (first
        | (go_at_call 9; go_must (refine (preach_any a len cap l fr fr w2 HE2.out (by omega) hfr).mono ?_); rintro e w3 ⟨rfl, hb⟩; rw [HZ.out]; have HB3 := hide (HB2.out.trans (hb.mono HB2.out.size)); clear hb)
        | (go_at_call 12; go_must (refine (pcycle_any a len cap l fr w1 HE1.out (by omega) hfr).mono ?_); rintro e w2 ⟨v2, rfl, ho, hb⟩; rw [HC.out] at ho; obtain ⟨ua, un, uc, rfl⟩ := ho.any3; obtain rfl : un = 0 := ho.len.1.symm; have HB2 := hide (HB1.out.trans (hb.mono HB1.out.size)); have HE2 := hide (HE1.out.keep hb); clear ho hb)
        | (go_at_call 7; go_must (refine (awake13_any _).mono ?_); rintro e w1 ⟨rfl, hb⟩; have HB1 := hide hb; have HE1 := hide (H.out.keep hb); clear hb))
      go_loopw [41] (fun i wr => i = .int .i64 0 ∧ Below w3.heap.size w3 wr) (fun _ _ => 0)
      case atStart => exact ⟨rfl, Below.refl _ _⟩
      case round =>
        obtain ⟨rfl, hB⟩ := hrel
        have HB := hide hB
        clear hB
        go_wp2
        go_ret
        exact ⟨rfl, HB3.out.trans (HB.out.mono HB3.out.size)⟩
    | true =>
      rw [hz] at hdz
      have hpos := of_decide_eq_true hdz
      have HZ := hide hz
      clear hdz hz
      go_enter Try.func5, Try.ntmps5
      go_wp2_with (first
        | (go_at_call 9; go_must (refine (preach_any a len cap l fr fr w2 HE2.out (by omega) hfr).mono ?_); rintro e w3 ⟨rfl, hb⟩; rw [HZ.out]; have HB3 := hide (HB2.out.trans (hb.mono HB2.out.size)); have HU3 := hide (HU2.out.keep hb); have HE3 := hide (HE2.out.keep hb); have y0 := (hb.cell (p := ⟨g, off, none⟩) hg).trans hcx; clear hb)
        | (go_at_call 12; go_must (refine (pcycle_any a len cap l fr w1 HE1.out (by omega) hfr).mono ?_); rintro e w2 ⟨v2, rfl, ho, hb⟩; obtain ⟨ua, un, uc, rfl⟩ := ho.any3; have hul := ho.len; obtain ⟨g, off, x, rfl, hg, hx, hcx⟩ := isU_at ho.is (show 0 < un by omega); rw [HD0.out x hx, Nat.add_zero] at hcx; have hun : (0 : Int) < (un : Int) := (by omega); have hunN : 0 < un := (by omega); have HU2 := hide ho.is; have HB2 := hide (HB1.out.trans (hb.mono HB1.out.size)); have HE2 := hide (HE1.out.keep hb); clear ho hb hx)
        | (go_at_call 7; go_must (refine (awake13_any _).mono ?_); rintro e w1 ⟨rfl, hb⟩; have HB1 := hide hb; have HE1 := hide (H.out.keep hb); clear hb))
      have hum : (uc : Int) ≤ 9223372036854775807 := by have := hul.2.2; unfold maxLen at this; omega
      have hun2 : (un : Int) ≠ 0 := by omega
      go_loopw [41] (fun i wr => ∃ k : Nat, i = .int .i64 k ∧ k ≤ un ∧ Below w3.heap.size w3 wr) (fun i _ => un - (intOf i).toNat)
      case atStart => exact ⟨0, rfl, Nat.zero_le _, Below.refl _ _⟩
      case round =>
        clear hcx y0
        obtain ⟨k, rfl, hk, hB⟩ := hrel
        have HB := hide hB
        by_cases hlt : k < un
        · have hlt' : (k : Int) < (un : Int) := by omega
          obtain ⟨m, hmd⟩ : ∃ m, m = (k + 1) % un := ⟨_, rfl⟩
          have hmod : m < un := by rw [hmd]; exact Nat.mod_lt _ hunN
          have hmod' : (m : Int) < (un : Int) := by omega
          obtain ⟨g1, off1, x, e1, hg1, hx, hcx⟩ := isU_at HU3.out hlt
          cases e1
          obtain ⟨g2, off2, y, e2, hg2, hy, hcy⟩ := isU_at HU3.out hmod
          cases e2
          have hstep := HSt.out k (by omega)
          rw [hul.1, ← hmd] at hstep
          have hxy : (x, y) ∈ l := by
            simp only [List.getD_eq_getElem?_getD, hx, hy, Option.getD_some] at hstep
            exact hstep
          have HXY := hide hxy
          have HV : Hid (∀ V, Below wr.drew.heap.size wr.drew V → V.cell? ⟨g, off + k, none⟩ = some (.int .u64 x) ∧ V.cell? ⟨g, off + m, none⟩ = some (.int .u64 y)) := fun V hV =>
            have hV2 := hB.trans ((below_undrew hV).mono hB.size)
            ⟨(hV2.cell (p := ⟨g, off + k, none⟩) hg1).trans hcx, (hV2.cell (p := ⟨g, off + m, none⟩) hg1).trans hcy⟩
          have hrem : ((k : Int) + 1).tmod (un : Int) = (m : Int) := by rw [hmd]; exact mod_nat k un hunN (by omega) hlt
          have hwr : IntKind.i64.wrap ((k : Int) + 1) = (k : Int) + 1 := kwrap_iJ _ (by omega) (by omega)
          have hun0 : ¬ un = 0 := by omega
          clear hmd
          clear hcx hcy hx hy hxy hstep hB
          go_wp2
          refine startX 14 (by kernel_rfl) ?_
          refine' takeX (E := 14) (i := 0) (v := _) rfl (by kernel_rfl) (by kernel_rfl) (by kernel_rfl) (by kernel_rfl) (fun _ _ _ h => h) (by rfl) (Below.refl _ _) ?_ ?_; rotate_left
          · (intro V hSV; obtain ⟨y1, y2⟩ := HV.out V hSV; go_simp; all_goals (with_reducible rfl))
          (try simp only [Act.put, List.setIfInBounds_toArray, List.set_cons_zero, List.set_cons_succ])
          refine' takeX (E := 14) (i := 1) (v := _) rfl (by kernel_rfl) (by kernel_rfl) (by kernel_rfl) (by kernel_rfl) (fun _ _ _ h => h) (by rfl) (Below.refl _ _) ?_ ?_; rotate_left
          · (intro V hSV; obtain ⟨y1, y2⟩ := HV.out V hSV; go_simp; all_goals (with_reducible rfl))
          (try simp only [Act.put, List.setIfInBounds_toArray, List.set_cons_zero, List.set_cons_succ])
          refine' takeX (E := 14) (i := 2) (v := _) rfl (by kernel_rfl) (by kernel_rfl) (by kernel_rfl) (by kernel_rfl) (fun _ _ _ h => h) (by rfl) (Below.refl _ _) ?_ ?_; rotate_left
          · (intro V hSV; obtain ⟨y1, y2⟩ := HV.out V hSV; go_simp; all_goals (with_reducible rfl))
          (try simp only [Act.put, List.setIfInBounds_toArray, List.set_cons_zero, List.set_cons_succ])
          refine' takeX (E := 14) (i := 3) (v := _) rfl (by kernel_rfl) (by kernel_rfl) (by kernel_rfl) (by kernel_rfl) (fun _ _ _ h => h) (by rfl) (Below.refl _ _) ?_ ?_; rotate_left
          · (intro V hSV; obtain ⟨y1, y2⟩ := HV.out V hSV; go_simp; all_goals (with_reducible rfl))
          (try simp only [Act.put, List.setIfInBounds_toArray, List.set_cons_zero, List.set_cons_succ])
          refine' takeX (E := 14) (i := 4) (v := _) rfl (by kernel_rfl) (by kernel_rfl) (by kernel_rfl) (by kernel_rfl) (fun _ _ _ h => h) (by rfl) (Below.refl _ _) ?_ ?_; rotate_left
          · (intro V hSV; obtain ⟨y1, y2⟩ := HV.out V hSV; go_simp; all_goals (with_reducible rfl))
          (try simp only [Act.put, List.setIfInBounds_toArray, List.set_cons_zero, List.set_cons_succ])
          refine' takeX (E := 14) (i := 5) (v := _) rfl (by kernel_rfl) (by kernel_rfl) (by kernel_rfl) (by kernel_rfl) (fun _ _ _ h => h) (by rfl) (Below.refl _ _) ?_ ?_; rotate_left
          · (intro V hSV; obtain ⟨y1, y2⟩ := HV.out V hSV; go_simp; all_goals (with_reducible rfl))
          (try simp only [Act.put, List.setIfInBounds_toArray, List.set_cons_zero, List.set_cons_succ])
          refine' takeX (E := 14) (i := 6) (v := _) rfl (by kernel_rfl) (by kernel_rfl) (by kernel_rfl) (by kernel_rfl) (fun _ _ _ h => h) (by rfl) (Below.refl _ _) ?_ ?_; rotate_left
          · (intro V hSV; obtain ⟨y1, y2⟩ := HV.out V hSV; go_simp; all_goals (with_reducible rfl))
          (try simp only [Act.put, List.setIfInBounds_toArray, List.set_cons_zero, List.set_cons_succ])
          refine' takeX (E := 14) (i := 7) (v := _) rfl (by kernel_rfl) (by kernel_rfl) (by kernel_rfl) (by kernel_rfl) (fun _ _ _ h => h) (by rfl) (Below.refl _ _) ?_ ?_; rotate_left
          · (intro V hSV; obtain ⟨y1, y2⟩ := HV.out V hSV; go_simp; all_goals (with_reducible rfl))
          (try simp only [Act.put, List.setIfInBounds_toArray, List.set_cons_zero, List.set_cons_succ])
          refine' takeX (E := 14) (i := 8) (v := _) rfl (by kernel_rfl) (by kernel_rfl) (by kernel_rfl) (by kernel_rfl) (fun _ _ _ h => h) (by rfl) (Below.refl _ _) ?_ ?_; rotate_left
          · (intro V hSV; obtain ⟨y1, y2⟩ := HV.out V hSV; go_simp; all_goals (with_reducible rfl))
          (try simp only [Act.put, List.setIfInBounds_toArray, List.set_cons_zero, List.set_cons_succ])
          refine' takeX (E := 14) (i := 9) (v := _) rfl (by kernel_rfl) (by kernel_rfl) (by kernel_rfl) (by kernel_rfl) (fun _ _ _ h => h) (by rfl) (Below.refl _ _) ?_ ?_; rotate_left
          · (intro V hSV; obtain ⟨y1, y2⟩ := HV.out V hSV; go_simp; all_goals (with_reducible rfl))
          (try simp only [Act.put, List.setIfInBounds_toArray, List.set_cons_zero, List.set_cons_succ])
          refine' takeX (E := 14) (i := 10) (v := _) rfl (by kernel_rfl) (by kernel_rfl) (by kernel_rfl) (by kernel_rfl) (fun _ _ _ h => h) (by rfl) (Below.refl _ _) ?_ ?_; rotate_left
          · (intro V hSV; obtain ⟨y1, y2⟩ := HV.out V hSV; go_simp; all_goals (with_reducible rfl))
          (try simp only [Act.put, List.setIfInBounds_toArray, List.set_cons_zero, List.set_cons_succ])
          refine' takeX (E := 14) (i := 11) (v := _) rfl (by kernel_rfl) (by kernel_rfl) (by kernel_rfl) (by kernel_rfl) (fun _ _ _ h => h) (by rfl) (Below.refl _ _) ?_ ?_; rotate_left
          · (intro V hSV; obtain ⟨y1, y2⟩ := HV.out V hSV; go_simp; all_goals (with_reducible rfl))
          (try simp only [Act.put, List.setIfInBounds_toArray, List.set_cons_zero, List.set_cons_succ])
          refine' takeX (E := 14) (i := 12) (v := _) rfl (by kernel_rfl) (by kernel_rfl) (by kernel_rfl) (by kernel_rfl) (fun _ _ _ h => h) (by rfl) (Below.refl _ _) ?_ ?_; rotate_left
          · (intro V hSV; obtain ⟨y1, y2⟩ := HV.out V hSV; go_simp; all_goals (with_reducible rfl))
          (try simp only [Act.put, List.setIfInBounds_toArray, List.set_cons_zero, List.set_cons_succ])
          obtain ⟨W4, hW4⟩ : ∃ W4, W4 = (wr.alloc (.cells #[.int .u64 x, .int .u64 y] 35)).drew := ⟨_, rfl⟩
          have hb4 : Below wr.heap.size wr W4 := by rw [hW4]; exact (new_below _ _).drew
          have hs4 : W4.heap.size = wr.heap.size + 1 := by rw [hW4]; show (wr.alloc _).heap.size = _; simp
          have hc4 : W4.rangeAt wr.heap.size 0 [.int .u64 x, .int .u64 y] := by rw [hW4]; exact rangeY_same (rangeY_new wr wr.heap.size #[.int .u64 x, .int .u64 y] 35 rfl) rfl
          refine callX (i := 13) rfl (by kernel_rfl) (fun K hK => ?_)
          go_simp
          refine hK.out _ _ (fun _ => have t := (new_below wr (.cells #[.int .u64 0, .int .u64 0] 35)).drew; ⟨t.os, t.tape, t.output, t.size, t.block⟩) ?_
          clear hK K
          (try simp only [Act.put, List.setIfInBounds_toArray, List.set_cons_zero, List.set_cons_succ])
          refine callX (i := 14) rfl (by kernel_rfl) (fun K hK => ?_)
          go_simp
          rw [← hW4]
          refine hK.out _ _ (fun h => absurd rfl h) ?_
          clear hK K hW4
          (try simp only [Act.put, List.setIfInBounds_toArray, List.set_cons_zero, List.set_cons_succ])
          refine doneX (by kernel_rfl) ?_ _
          go_wp2
          have HB4 := hide (HB.out.trans (hb4.mono HB.out.size))
          have HC4 := hide hc4
          obtain ⟨wo, hwo⟩ : ∃ wo, wo = wr.heap.size := ⟨_, rfl⟩
          rw [← hwo] at hs4 HC4 ⊢
          have HS4 := hide hs4
          clear hwo hc4 hb4 HV HB
          clear wr
          go_loopw [8, 59] (fun b i wx => ∃ j : Nat, b = .bool (amongE (l.take j) (x, y)) ∧ i = .int .i64 j ∧ j ≤ len ∧ Below W4.heap.size W4 wx) (fun _ i _ => len - (intOf i).toNat)
          case atStart => exact ⟨0, rfl, rfl, Nat.zero_le _, Below.refl _ _⟩
          case round =>
            obtain ⟨j, rfl, rfl, hj, hB⟩ := hrel
            have HBx := hide hB
            by_cases hjl : j < len
            · have hjl' : (j : Int) < (len : Int) := by omega
              obtain ⟨x1, y1, hxy1⟩ := pair_at (l := l) (j := j) (by omega)
              have HAm := hide (among_more hxy1 (x, y))
              obtain ⟨g0, off0, rfl, hg0, hC0⟩ := HE3.out.1.at hjl
              have hbw3 := HB4.out.trans (hB.mono HB4.out.size)
              have d := rangeY_same (hC0 j _ hxy1) (hbw3.block g0 hg0)
              have d0 : wr.cell? ⟨g0, off0 + j * 2, none⟩ = some (.int .u64 x1) := d 0 _ rfl
              have d1 : wr.cell? ⟨g0, off0 + j * 2 + 1, none⟩ = some (.int .u64 y1) := d 1 _ rfl
              have hcw := rangeY_same HC4.out (hB.block wo (by omega))
              have c0 : wr.cell? ⟨wo, 0, none⟩ = some (.int .u64 x) := hcw 0 _ rfl
              have c1 : wr.cell? ⟨wo, 1, none⟩ = some (.int .u64 y) := hcw 1 _ rfl
              have hwo : wo < wr.heap.size := by have := hB.size; omega
              have hne : ¬ wr.heap.size = wo := by omega
              have hne2 : ¬ wo = wr.heap.size := by omega
              clear hcw d hC0 hxy1 hbw3 hB
              cases ham : amongE (l.take j) (x, y) with
              | true =>
                rw [ham] at HAm
                clear ham
                go_wp2
                go_roundw
                case rel => exact ⟨j + 1, by rw [HAm.out]; simp, by go_num, by omega, HBx.out.trans ((new_below _ _).mono HBx.out.size)⟩
                case measure => simp [intOf]; omega
              | false =>
                rw [ham] at HAm
                clear ham
                cases hee : ((x1, y1) == (x, y)) with
                | true =>
                  rw [hee] at HAm
                  have hee2 : (x1, y1) = (x, y) := eq_of_beq hee
                  obtain ⟨rfl, rfl⟩ := Prod.mk.inj hee2
                  clear hee hee2
                  go_wp2
                  go_roundw
                  case rel => exact ⟨j + 1, by rw [HAm.out]; simp, by go_num, by omega, HBx.out.trans ((new_below _ _).mono HBx.out.size)⟩
                  case measure => simp [intOf]; omega
                | false =>
                  rw [hee] at HAm
                  have hee2 : ¬ (x1 = x ∧ y1 = y) := fun e => (beq_eq_false_iff_ne.1 hee) (by rw [e.1, e.2])
                  clear hee
                  by_cases h1 : x1 = x
                  · subst h1
                    have h2 : ¬ y1 = y := fun e => hee2 ⟨rfl, e⟩
                    have h2' : (y1 == y) = false := by simp [h2]
                    go_wp2
                    go_roundw
                    case rel => exact ⟨j + 1, by rw [HAm.out]; simp, by go_num, by omega, HBx.out.trans ((new_below _ _).mono HBx.out.size)⟩
                    case measure => simp [intOf]; omega
                  · have h1' : (x1 == x) = false := by simp [h1]
                    go_wp2
                    go_roundw
                    case rel => exact ⟨j + 1, by rw [HAm.out]; simp, by go_num, by omega, HBx.out.trans ((new_below _ _).mono HBx.out.size)⟩
                    case measure => simp [intOf]; omega
            · obtain rfl : j = len := by omega
              rw [List.take_of_length_le (by omega), among_mem HXY.out]
              clear hB
              go_wp2
              go_roundw
              case rel => exact ⟨k + 1, by go_num, by omega, HB4.out.trans (HBx.out.mono HB4.out.size)⟩
              case measure => simp [intOf]; omega
        · obtain rfl : k = un := by omega
          clear hB
          go_wp2
          go_ret
          exact ⟨rfl, HB3.out.trans (HB.out.mono HB3.out.size)⟩

end Go.Proofs.Ytahfaddldnfngaa
