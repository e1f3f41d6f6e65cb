/- The reference's Cmp of any two lists of values: cmpL. -/
import Derived.Test.YtfihjhcjkgpgfaaOkeyCmp
namespace Go.Proofs.Ytfihjhcjkgpgfaa
open Go.RowKit NumMath
set_option linter.unusedVariables false

set_option maxHeartbeats 1000000 in
theorem rcmp_any (a : Option Addr) (la ca : Nat) (xs : List Val) (b : Option Addr) (lb cb : Nat) (ys : List Val) (w : World) (h : IsVals w a la ca xs) (h' : IsVals w b lb cb ys) :
    Calls Try.prog 14 #[.slice a la ca, .slice b lb cb] w fun e w' => e = .returned (.int .i64 (cmpL xs ys)) ∧ Below w.heap.size w w' := by
  have HV := hide h
  have HW := hide h'
  obtain ⟨hl, hlc, hm, _, _⟩ := h
  obtain ⟨hl', hlc', hm', _, _⟩ := h'
  unfold maxLen at hm hm'
  have HL : Hid (xs.length = la) := hl
  have HM : Hid (ys.length = lb) := hl'
  clear hl hl'
  go_enter Try.func14, Try.ntmps14
  go_wp2
  go_loopw [9] (fun i wr => ∃ k : Nat, k ≤ la ∧ k ≤ lb ∧ i = .int .i64 k ∧ Below w.heap.size w wr ∧ cmpL xs ys = cmpL (xs.drop k) (ys.drop k)) (fun i _ => la - (intOf i).toNat)
  case atStart => exact ⟨0, Nat.zero_le _, Nat.zero_le _, rfl, Below.refl _ _, rfl⟩
  case round =>
    obtain ⟨k, hk, hk', rfl, hb, hall⟩ := hrel
    have HA := hide hall
    clear hall
    have hsz := hb.size
    by_cases hlt1 : k < la
    · have hk1 : k < xs.length := by rw [HL.out]; exact hlt1
      by_cases hlt2 : k < lb
      · obtain ⟨g, off, rfl, hg, hc⟩ := HV.out.at hlt1
        obtain ⟨g', off', rfl, hg', hc'⟩ := HW.out.at hlt2
        have hk2 : k < ys.length := by rw [HM.out]; exact hlt2
        obtain ⟨⟨ak, an, az⟩, hv, c0, c1, c2⟩ := (hc.below hb hg).row hk1
        obtain ⟨⟨bk, bn, bz⟩, hv', d0, d1, d2⟩ := (hc'.below hb hg').row hk2
        have HT := hide (cmpL_step xs ys k hk1 hk2)
        have HN := hide (cmpL_stop xs ys k hk1 hk2)
        have HC := hide (order_at ak an az bk bn bz)
        rw [hv, hv'] at HT HN
        clear hv hv' hk1 hk2 hc hc'
        dsimp only at *
        generalize cmpV ⟨ak, an, az⟩ ⟨bk, bn, bz⟩ = r at *
        by_cases hr : r = 0
        · subst hr
          go_wp2
          go_region_with (go_at_call 12; refine (HC.out _).mono ?_; rintro e w1 ⟨rfl, hb1⟩)
          all_goals
            go_wp2
            go_roundw
            case rel => exact ⟨k + 1, by omega, by omega, by go_num, hb.trans ((below_undrew hb1).mono hsz), by rw [HA.out]; exact HT.out trivial⟩
            case measure => simp [intOf]; omega
        · have hr' : (r == 0) = false := by simp [hr]
          go_wp2
          go_region_with (go_at_call 12; refine (HC.out _).mono ?_; rintro e w1 ⟨rfl, hb1⟩)
          all_goals
            go_wp2
            go_ret
            exact ⟨ret1 (by rw [HA.out]; exact (HN.out hr).symm), hb.trans ((below_undrew hb1).mono hsz)⟩
      · have HX := hide (cmpL_long xs ys k hk1 (by rw [HM.out]; omega))
        clear hk1
        go_wp2
        go_ret
        exact ⟨ret1 (by rw [HA.out, HX.out]), hb⟩
    · have hkl : k = la := by omega
      by_cases hlt2 : k < lb
      · have HX := hide (cmpL_short xs ys k (by rw [HL.out]; omega) (by rw [HM.out]; omega))
        subst hkl
        go_wp2
        go_ret
        exact ⟨ret1 (by rw [HA.out, HX.out]), hb⟩
      · have HX := hide (cmpL_both xs ys k (by rw [HL.out]; omega) (by rw [HM.out]; omega))
        subst hkl
        go_wp2
        go_ret
        exact ⟨ret1 (by rw [HA.out, HX.out]), hb⟩

end Go.Proofs.Ytfihjhcjkgpgfaa
