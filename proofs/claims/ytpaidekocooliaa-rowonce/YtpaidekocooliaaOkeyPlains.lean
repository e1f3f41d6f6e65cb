/- The reference's Plains: a list of values without what doesn't count, in memory of the call's own. -/
import Derived.Test.YtpaidekocooliaaOkeyOwnV
namespace Go.Proofs.Ytpaidekocooliaa
open Go.RowKit NumMath
set_option linter.unusedVariables false

theorem plains_take (xs : List Val) (k : Nat) (h : k < xs.length) : (xs.take (k + 1)).map plainV = (xs.take k).map plainV ++ [plainV (xs.getD k val0)] := by
  rw [List.take_add_one, List.map_append]
  simp [List.getD, List.getElem?_eq_getElem h]

set_option maxHeartbeats 1000000 in
theorem plains_any (a : Option Addr) (len cap : Nat) (xs : List Val) (w : World) (h : IsVals w a len cap xs) (hbig : len ≤ 1000000000) :
    Calls Try.prog 31 #[.slice a len cap] w fun e w' => ∃ v, e = .returned v ∧ OwnV w' w.heap.size v (xs.map plainV) ∧ Below w.heap.size w w' := by
  have HV := hide h
  obtain ⟨hl, hlc, hm, hfit, _⟩ := h
  unfold maxLen at hm
  have HL : Hid (xs.length = len) := hl
  clear hl hfit
  go_enter Try.func31, Try.ntmps31
  go_wp2
  go_loopw [3, 8] (fun v i wr => ∃ k : Nat, k ≤ len ∧ i = .int .i64 k ∧ OwnV wr w.heap.size v ((xs.take k).map plainV) ∧ Below w.heap.size w wr) (fun _ i _ => len - (intOf i).toNat)
  case atStart => exact ⟨0, Nat.zero_le _, rfl, ownV_nil _ _, Below.refl _ _⟩
  case round =>
    obtain ⟨k, hk, rfl, hown, hb⟩ := hrel
    have HO := hide hown
    have hsz := hb.size
    have hlen : ((xs.take k).map plainV).length ≤ 1000000000 := by
      rw [List.length_map, List.length_take]
      omega
    have HLn := hide hlen
    clear hown hlen
    by_cases hlt : k < len
    · obtain ⟨g, off, rfl, hg, hc⟩ := HV.out.at hlt
      have hk' : k < xs.length := by rw [HL.out]; exact hlt
      have HT := hide (plains_take xs k hk')
      obtain ⟨⟨vk, vn, vs⟩, hv, c0, c1, c2⟩ := (hc.below hb hg).row hk'
      rw [hv] at HT
      clear hv hk' hc
      dsimp only at *
      have HP := hide (plain_any vk vn vs)
      generalize plainV ⟨vk, vn, vs⟩ = pv at *
      obtain ⟨pk, pn, ps⟩ := pv
      unfold Val.v at HP
      dsimp only at HP
      go_wp2_with (first
        | (go_at_call 24; refine (HP.out _).mono ?_; rintro e w2 ⟨rfl, hb2⟩; have HO2 := hide ((HO.out.alloc _).keep hb2); have hb2' := (hb.alloc hsz _).trans (hb2.mono (by simp; omega)); have hsz2 := hb2'.size; clear hb2)
        | (at_builtin; go_must (refine wp_appV _ rfl (.tmp 12) (.tmp 15) rfl w.heap.size _ _ rfl (HO2.out.alloc _) _ 0 1 1 [⟨pk, pn, ps⟩] rfl rfl (cellsV_new _ ⟨pk, pn, ps⟩ _ (by simp)) (by have := HLn.out; simp only [List.length_singleton]; omega) (by simp; omega) ?_); intro v3 w3 hown3 hg3 hb3; have HO3 := hide hown3; have hb3' := (hb2'.alloc hsz2 _).trans hb3; clear hown3 hg3 hb3))
      go_roundw
      case rel => exact ⟨k + 1, by omega, by go_num, by have h2 := HO3.out; rw [HT.out]; exact h2, hb3'⟩
      case measure => simp [intOf]; omega
    · have hkl : k = len := by omega
      subst hkl
      go_wp2
      go_ret
      refine ⟨_, rfl, ?_, hb⟩
      have h2 := HO.out
      rw [List.take_of_length_le (by rw [HL.out]; exact Nat.le_refl _)] at h2
      exact h2

end Go.Proofs.Ytpaidekocooliaa
