/- okey.Cmp and the reference's Cmp of any two lists of values: one answer, cmpL. -/
import Derived.Test.YtfihjhcjkgpgfaaOkeyLists
namespace Go.Proofs.Ytfihjhcjkgpgfaa
open Go.RowKit NumMath
set_option linter.unusedVariables false

/-- the order of lists: the first two values that differ tell; else the shorter is less -/
def cmpL : List Val → List Val → Int
  | [], [] => 0
  | [], _ :: _ => -1
  | _ :: _, [] => 1
  | a :: r, b :: t => if cmpV a b = 0 then cmpL r t else cmpV a b

theorem drop_at (xs : List Val) (k : Nat) (h : k < xs.length) : xs.drop k = xs.getD k val0 :: xs.drop (k + 1) := by
  rw [List.drop_eq_getElem_cons h]
  simp [List.getD, List.getElem?_eq_getElem h]

theorem cmpL_step (xs ys : List Val) (k : Nat) (h1 : k < xs.length) (h2 : k < ys.length) (h : cmpV (xs.getD k val0) (ys.getD k val0) = 0) : cmpL (xs.drop k) (ys.drop k) = cmpL (xs.drop (k + 1)) (ys.drop (k + 1)) := by
  rw [drop_at xs k h1, drop_at ys k h2, cmpL, if_pos h]

theorem cmpL_stop (xs ys : List Val) (k : Nat) (h1 : k < xs.length) (h2 : k < ys.length) (h : ¬ cmpV (xs.getD k val0) (ys.getD k val0) = 0) : cmpL (xs.drop k) (ys.drop k) = cmpV (xs.getD k val0) (ys.getD k val0) := by
  rw [drop_at xs k h1, drop_at ys k h2, cmpL, if_neg h]

theorem cmpL_long (xs ys : List Val) (k : Nat) (h1 : k < xs.length) (h2 : ys.length ≤ k) : cmpL (xs.drop k) (ys.drop k) = 1 := by
  rw [drop_at xs k h1, List.drop_eq_nil_of_le h2, cmpL]

theorem cmpL_short (xs ys : List Val) (k : Nat) (h1 : xs.length ≤ k) (h2 : k < ys.length) : cmpL (xs.drop k) (ys.drop k) = -1 := by
  rw [drop_at ys k h2, List.drop_eq_nil_of_le h1, cmpL]

theorem cmpL_both (xs ys : List Val) (k : Nat) (h1 : xs.length ≤ k) (h2 : ys.length ≤ k) : cmpL (xs.drop k) (ys.drop k) = 0 := by
  rw [List.drop_eq_nil_of_le h1, List.drop_eq_nil_of_le h2, cmpL]

theorem cmpL_end (xs ys : List Val) (k : Nat) (h : k = min xs.length ys.length) : cmpL (xs.drop k) (ys.drop k) = cmpI xs.length ys.length := by
  by_cases h1 : xs.length < ys.length
  · rw [cmpL_short xs ys k (by omega) (by omega), cmpI_lt (by omega)]
  · by_cases h2 : ys.length < xs.length
    · rw [cmpL_long xs ys k (by omega) (by omega), cmpI_gt (by omega)]
    · rw [cmpL_both xs ys k (by omega) (by omega), cmpI_eq (by omega) (by omega)]

set_option maxHeartbeats 1000000 in
theorem cmp_any (a : Option Addr) (la ca : Nat) (xs : List Val) (b : Option Addr) (lb cb : Nat) (ys : List Val) (w : World) (h : IsVals w a la ca xs) (h' : IsVals w b lb cb ys) :
    Calls Try.prog 13 #[.slice a la ca, .slice b lb cb] w fun e w' => e = .returned (.int .i64 (cmpL xs ys)) ∧ Below w.heap.size w w' := by
  have HV := hide h
  have HW := hide h'
  obtain ⟨hl, hlc, hm, _, _⟩ := h
  obtain ⟨hl', hlc', hm', _, _⟩ := h'
  unfold maxLen at hm hm'
  have HL : Hid (xs.length = la) := hl
  have HM : Hid (ys.length = lb) := hl'
  clear hl hl'
  go_enter Try.func13, Try.ntmps13
  go_wp2
  all_goals
    go_loopw [12] (fun i wr => ∃ k : Nat, k ≤ min la lb ∧ i = .int .i64 k ∧ Below w.heap.size w wr ∧ cmpL xs ys = cmpL (xs.drop k) (ys.drop k)) (fun i _ => min la lb - (intOf i).toNat)
    case atStart => exact ⟨0, Nat.zero_le _, rfl, Below.refl _ _, rfl⟩
    case round =>
      obtain ⟨k, hk, rfl, hb, hall⟩ := hrel
      have HA := hide hall
      clear hall
      have hsz := hb.size
      by_cases hlt : k < min la lb
      · have hlt1 : k < la := by omega
        have hlt2 : k < lb := by omega
        obtain ⟨g, off, rfl, hg, hc⟩ := HV.out.at hlt1
        obtain ⟨g', off', rfl, hg', hc'⟩ := HW.out.at hlt2
        have hk1 : k < xs.length := by rw [HL.out]; exact hlt1
        have hk2 : k < ys.length := by rw [HM.out]; exact hlt2
        obtain ⟨⟨ak, an, az⟩, hv, c0, c1, c2⟩ := (hc.below hb hg).row hk1
        obtain ⟨⟨bk, bn, bz⟩, hv', d0, d1, d2⟩ := (hc'.below hb hg').row hk2
        have HT := hide (cmpL_step xs ys k hk1 hk2)
        have HN := hide (cmpL_stop xs ys k hk1 hk2)
        have HC := hide (compare_at ak an az bk bn bz)
        rw [hv, hv'] at HT HN
        clear hv hv' hk1 hk2 hc hc'
        dsimp only at *
        generalize cmpV ⟨ak, an, az⟩ ⟨bk, bn, bz⟩ = r at *
        by_cases hr : r = 0
        · subst hr
          go_wp2
          go_region_with (go_at_call 25; refine (HC.out _).mono ?_; rintro e w1 ⟨rfl, hb1⟩)
          all_goals
            go_wp2
            go_roundw
            case rel => exact ⟨k + 1, by omega, by go_num, hb.trans ((below_undrew hb1).mono hsz), by rw [HA.out]; exact HT.out trivial⟩
            case measure => simp [intOf]; omega
        · have hr' : (r == 0) = false := by simp [hr]
          go_wp2
          go_region_with (go_at_call 25; refine (HC.out _).mono ?_; rintro e w1 ⟨rfl, hb1⟩)
          all_goals
            go_wp2
            go_ret
            exact ⟨ret1 (by rw [HA.out]; exact (HN.out hr).symm), hb.trans ((below_undrew hb1).mono hsz)⟩
      · have hkl : k = min la lb := by omega
        go_wp2_with (go_at_call 26; refine (ccmp_int _ _ _).mono ?_; rintro e w' ⟨rfl, hw⟩; have hw := hw.symm; subst hw)
        go_ret
        refine ⟨ret1 ?_, hb⟩
        rw [HA.out, cmpL_end xs ys k (by rw [HL.out, HM.out]; exact hkl), HL.out, HM.out]

end Go.Proofs.Ytfihjhcjkgpgfaa
