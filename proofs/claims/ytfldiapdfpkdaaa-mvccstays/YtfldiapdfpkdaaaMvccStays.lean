/- MvccStays: for every list of deeds, every time, every key and every later time plenumlaw12.MvccStays returns true (of more than 40 deeds, of a key of more than 50 bytes, and of a version with more than 100 bytes or more than 10 keys it asks nothing): behind a clearing what is read from its time on is the same, but that a dead version may be none. No condition. -/
import Derived.Test.YtfldiapdfpkdaaaRows
import Derived.WalkKit
import Derived.ProofKit
import Derived.OpenShut
import Derived.ShutString
import Derived.ChangeOld
import Derived.Below
import Derived.SizedLaws
import Derived.Test.YtfldiapdfpkdaaaQsK
namespace Go.Proofs.Ytfldiapdfpkdaaa.mvccStays
open Go.ChangeShapes Go.WideShapes Go.ChangeAt Go.RowKit
open Go.ChangeMaps (open_string shut_string)
set_option linter.unusedVariables false

theorem own : ownKnob Try.prog.godebug = none := by kernel_rfl
theorem laidOut : laidOutB Try.prog = true := by kernel_rfl

open NumMath

set_option maxRecDepth 100000 in
set_option maxHeartbeats 4000000 in
theorem walk (a0 : Option Addr) (len0 cap0 : Nat) (x0 : List MD) (a1 : Int) (a2 : Option Addr) (len2 cap2 : Nat) (x2 : List Int) (a3 : Int) (w : World) (w0 : IsDeeds12 w a0 len0 cap0 x0) (w1 : (Lit.int .u64 a1).wf = true) (w2 : IsBytes w a2 len2 cap2 x2) (w3 : (Lit.int .u64 a3).wf = true) :
    Calls Try.prog 5 #[.slice a0 len0 cap0, .int .u64 a1, .slice a2 len2 cap2, .int .u64 a3] w fun e w' => e = .returned (.bool true) ∧ Below w.heap.size w w' := by
  have HW0 := hide w0
  have HW2 := hide w2
  have hm2 : (len2 : Int) ≤ 9223372036854775807 := by have := w2.2.1; have := w2.2.2.1; unfold maxLen at this; omega
  clear w0 w1 w2 w3
  by_cases g1 : (50 : Int) < (len2 : Int)
  · go_enter Try.func5, Try.ntmps5
    go_wp2_with (first
      | (go_at_call 8; refine (awake12_any _).mono ?_; rintro e wa ⟨rfl, hba⟩; have HB1 := hide hba; clear hba))
    go_ret
    exact ⟨rfl, HB1.out⟩
  by_cases g2 : a3 < a1
  · go_enter Try.func5, Try.ntmps5
    go_wp2_with (first
      | (go_at_call 8; refine (awake12_any _).mono ?_; rintro e wa ⟨rfl, hba⟩; have HB1 := hide hba; clear hba))
    go_ret
    exact ⟨rfl, HB1.out⟩
  have hl2 : len2 ≤ 50 := by omega
  cases hgr : greatD x0 with
  | true =>
    have HGr := hide hgr
    clear hgr
    go_enter Try.func5, Try.ntmps5
    go_wp2_with (first
      | (go_at_call 9; refine (both_any a0 len0 cap0 x0 _ (HW0.out.keep HB1.out)).mono ?_; rintro e wb ⟨p, mb, q, j, rfl, -, hbb⟩; rw [HGr.out]; have HB3 := hide (HB1.out.trans (hbb.mono HB1.out.size)); clear hbb)
      | (go_at_call 8; refine (awake12_any _).mono ?_; rintro e wa ⟨rfl, hba⟩; have HB1 := hide hba; clear hba))
    go_ret
    exact ⟨rfl, HB3.out⟩
  | false =>
    have HGr := hide hgr
    clear hgr
    go_enter Try.func5, Try.ntmps5
    go_wp2_with (first
      | (go_at_call 9; refine (both_any a0 len0 cap0 x0 _ (HW0.out.keep HB1.out)).mono ?_; rintro e wb ⟨p, mb, q, j, rfl, hst, hbb⟩; rw [HGr.out]; obtain ⟨hj, hst⟩ := hst HGr.out; obtain ⟨st, hsol, hgo⟩ := hst.sol hj; have HSo := hide hsol; have HGo := hide hgo; have HB3 := hide (HB1.out.trans (hbb.mono HB1.out.size)); clear hbb hst hsol hgo)
      | (go_at_call 8; refine (awake12_any _).mono ?_; rintro e wa ⟨rfl, hba⟩; have HB1 := hide hba; clear hba))
    have HAg := hide (at_gcP HGo.out.sort HGo.out.live HGo.out.desc a1 a3 (by omega) x2)
    cases hA : atC st x2 a3 with
    | none =>
      have HA1 := hide hA
      have HA2 : Hid (atC ((stepL (setVs (gcV a1)) (keysC st) (keysC st).length st).filter liveC) x2 a3 = none) := by
        rcases HAg.out with h | ⟨h, _⟩
        · exact h.trans hA
        · exact h
      clear hA
      go_wp2_with (first
        | (go_at_call 15; refine (sameV_dd m m2 _ _ _ (by exact HMa.out) (by exact HMb.out) (HM.out.trans HM2.out.symm) (by rw [HM.out]) (by rw [HM2.out])).mono ?_; rintro e w8 ⟨rfl, hb8⟩; have HB8 := hide (HB7.out.trans (hb8.mono HB7.out.size)); clear hb8)
        | (go_at_call 13; have hchk := HS6.out; clear hchk; refine (sol_at HS6.out (by omega) a2 len2 cap2 x2 (HW2.out.keep (HB1.out.trans (HB6.out.mono HB1.out.size))) (by omega) a3).mono ?_; rintro e w7 ⟨m2, rfl, hm2, hft2, hb7⟩; rw [HA2.out] at hm2 ⊢; have HM2 : Hid (m2.v = ver0) := hm2; have HB7 := hide ((HB1.out.trans (HB6.out.mono HB1.out.size)).trans ((hb7.mono (Nat.le_trans HB1.out.size HB6.out.size)).trans ((new_below w7 (.cells #[.int .u64 m2.v.ts, .int .u64 m2.v.tx, .bool m2.v.dd, .slice m2.va m2.vn m2.vc, .slice m2.ka m2.kn m2.kc] 36)).mono (Nat.le_trans (Nat.le_trans HB1.out.size HB6.out.size) hb7.size)))); have HX7 := hide ((HX6.out.keep hb7).keep (new_below w7 (.cells #[.int .u64 m2.v.ts, .int .u64 m2.v.tx, .bool m2.v.dd, .slice m2.va m2.vn m2.vc, .slice m2.ka m2.kn m2.kc] 36))); have HX72 := hide (bxV_new w7 m2 _ rfl); have HMa := hide ((HM6.out.now.keep hb7).keep (new_below w7 (.cells #[.int .u64 m2.v.ts, .int .u64 m2.v.tx, .bool m2.v.dd, .slice m2.va m2.vn m2.vc, .slice m2.ka m2.kn m2.kc] 36))); have HMb := hide (hft2.now.keep (new_below w7 (.cells #[.int .u64 m2.v.ts, .int .u64 m2.v.tx, .bool m2.v.dd, .slice m2.va m2.vn m2.vc, .slice m2.ka m2.kn m2.kc] 36))); obtain ⟨e0, e1, e2, e3, e4⟩ := HX7.out.x; rw [HM.out] at e2; clear hm2 hft2 hb7 HM5 HX5)
        | (go_at_call 21; refine (sol_gcT (HT5.out) (by omega) HGo.out a1).mono ?_; rintro e w6 ⟨rfl, h6, hk6⟩; have HS6 := hide h6; have HX6 := hide (HX5.out.keepM hk6 (Hle.out)); have HM6 := hide (HM5.out.step hk6 (fun k hk => .inl hk)); have HB6 := hide h6.below; clear h6 hk6)
        | (go_at_call 13; refine (sol_at HSo.out (by omega) a2 len2 cap2 x2 (HW2.out.keep HB3.out) (by omega) a3).mono ?_; rintro e w5 ⟨m, rfl, hm, hft, hb5⟩; rw [HA1.out] at hm ⊢; have HM : Hid (m.v = ver0) := hm; have HT5 := hide ((HSo.out.solT.keep hb5).keep (new_below w5 (.cells #[.int .u64 m.v.ts, .int .u64 m.v.tx, .bool m.v.dd, .slice m.va m.vn m.vc, .slice m.ka m.kn m.kc] 36))); have HB5 := hide ((HB3.out.trans (hb5.mono HB3.out.size)).trans ((new_below w5 (.cells #[.int .u64 m.v.ts, .int .u64 m.v.tx, .bool m.v.dd, .slice m.va m.vn m.vc, .slice m.ka m.kn m.kc] 36)).mono (Nat.le_trans HB3.out.size hb5.size))); have HX5 := hide (bxV_new w5 m _ rfl); have HM5 := hide (hft.keep (new_below w5 (.cells #[.int .u64 m.v.ts, .int .u64 m.v.tx, .bool m.v.dd, .slice m.va m.vn m.vc, .slice m.ka m.kn m.kc] 36))); have Hle := hide hb5.size; clear hm hft hb5))
      go_ret
      exact ⟨rfl, HB8.out⟩
    | some v0 =>
      have HA1 := hide hA
      clear hA
      obtain ⟨ts0, tx0, dd0, val0, ks0⟩ := v0
      rcases HAg.out with h | ⟨h, v1, h1, h2⟩
      · have HA2 := hide (h.trans HA1.out)
        clear h
        cases dd0 with
        | false =>
          go_wp2_with (first
            | (go_at_call 15; refine (sameV_dd m m2 _ _ _ (by exact HMa.out) (by exact HMb.out) (HM.out.trans HM2.out.symm) (by rw [HM.out]) (by rw [HM2.out])).mono ?_; rintro e w8 ⟨rfl, hb8⟩; have HB8 := hide (HB7.out.trans (hb8.mono HB7.out.size)); clear hb8)
            | (go_at_call 13; have hchk := HS6.out; clear hchk; refine (sol_at HS6.out (by omega) a2 len2 cap2 x2 (HW2.out.keep (HB1.out.trans (HB6.out.mono HB1.out.size))) (by omega) a3).mono ?_; rintro e w7 ⟨m2, rfl, hm2, hft2, hb7⟩; rw [HA2.out] at hm2 ⊢; have HM2 : Hid (m2.v = ⟨ts0, tx0, false, val0, ks0⟩) := hm2; have HB7 := hide ((HB1.out.trans (HB6.out.mono HB1.out.size)).trans ((hb7.mono (Nat.le_trans HB1.out.size HB6.out.size)).trans ((new_below w7 (.cells #[.int .u64 m2.v.ts, .int .u64 m2.v.tx, .bool m2.v.dd, .slice m2.va m2.vn m2.vc, .slice m2.ka m2.kn m2.kc] 36)).mono (Nat.le_trans (Nat.le_trans HB1.out.size HB6.out.size) hb7.size)))); have HX7 := hide ((HX6.out.keep hb7).keep (new_below w7 (.cells #[.int .u64 m2.v.ts, .int .u64 m2.v.tx, .bool m2.v.dd, .slice m2.va m2.vn m2.vc, .slice m2.ka m2.kn m2.kc] 36))); have HX72 := hide (bxV_new w7 m2 _ rfl); have HMa := hide ((HM6.out.now.keep hb7).keep (new_below w7 (.cells #[.int .u64 m2.v.ts, .int .u64 m2.v.tx, .bool m2.v.dd, .slice m2.va m2.vn m2.vc, .slice m2.ka m2.kn m2.kc] 36))); have HMb := hide (hft2.now.keep (new_below w7 (.cells #[.int .u64 m2.v.ts, .int .u64 m2.v.tx, .bool m2.v.dd, .slice m2.va m2.vn m2.vc, .slice m2.ka m2.kn m2.kc] 36))); obtain ⟨e0, e1, e2, e3, e4⟩ := HX7.out.x; rw [HM.out] at e2; clear hm2 hft2 hb7 HM5 HX5)
            | (go_at_call 21; refine (sol_gcT (HT5.out) (by omega) HGo.out a1).mono ?_; rintro e w6 ⟨rfl, h6, hk6⟩; have HS6 := hide h6; have HX6 := hide (HX5.out.keepM hk6 (Hle.out)); have HM6 := hide (HM5.out.step hk6 (fun k hk => .inl hk)); have HB6 := hide h6.below; clear h6 hk6)
            | (go_at_call 13; refine (sol_at HSo.out (by omega) a2 len2 cap2 x2 (HW2.out.keep HB3.out) (by omega) a3).mono ?_; rintro e w5 ⟨m, rfl, hm, hft, hb5⟩; rw [HA1.out] at hm ⊢; have HM : Hid (m.v = ⟨ts0, tx0, false, val0, ks0⟩) := hm; have HT5 := hide ((HSo.out.solT.keep hb5).keep (new_below w5 (.cells #[.int .u64 m.v.ts, .int .u64 m.v.tx, .bool m.v.dd, .slice m.va m.vn m.vc, .slice m.ka m.kn m.kc] 36))); have HB5 := hide ((HB3.out.trans (hb5.mono HB3.out.size)).trans ((new_below w5 (.cells #[.int .u64 m.v.ts, .int .u64 m.v.tx, .bool m.v.dd, .slice m.va m.vn m.vc, .slice m.ka m.kn m.kc] 36)).mono (Nat.le_trans HB3.out.size hb5.size))); have HX5 := hide (bxV_new w5 m _ rfl); have HM5 := hide (hft.keep (new_below w5 (.cells #[.int .u64 m.v.ts, .int .u64 m.v.tx, .bool m.v.dd, .slice m.va m.vn m.vc, .slice m.ka m.kn m.kc] 36))); have Hle := hide hb5.size; clear hm hft hb5))
          go_ret
          exact ⟨rfl, HB8.out⟩
        | true =>
          go_wp2_with (first
            | (go_at_call 15; refine (sameV_dd m m2 _ _ _ (by exact HMa.out) (by exact HMb.out) (HM.out.trans HM2.out.symm) (by rw [HM.out]) (by rw [HM2.out])).mono ?_; rintro e w8 ⟨rfl, hb8⟩; have HB8 := hide (HB7.out.trans (hb8.mono HB7.out.size)); clear hb8)
            | (go_at_call 13; have hchk := HS6.out; clear hchk; refine (sol_at HS6.out (by omega) a2 len2 cap2 x2 (HW2.out.keep (HB1.out.trans (HB6.out.mono HB1.out.size))) (by omega) a3).mono ?_; rintro e w7 ⟨m2, rfl, hm2, hft2, hb7⟩; rw [HA2.out] at hm2 ⊢; have HM2 : Hid (m2.v = ⟨ts0, tx0, true, val0, ks0⟩) := hm2; have HB7 := hide ((HB1.out.trans (HB6.out.mono HB1.out.size)).trans ((hb7.mono (Nat.le_trans HB1.out.size HB6.out.size)).trans ((new_below w7 (.cells #[.int .u64 m2.v.ts, .int .u64 m2.v.tx, .bool m2.v.dd, .slice m2.va m2.vn m2.vc, .slice m2.ka m2.kn m2.kc] 36)).mono (Nat.le_trans (Nat.le_trans HB1.out.size HB6.out.size) hb7.size)))); have HX7 := hide ((HX6.out.keep hb7).keep (new_below w7 (.cells #[.int .u64 m2.v.ts, .int .u64 m2.v.tx, .bool m2.v.dd, .slice m2.va m2.vn m2.vc, .slice m2.ka m2.kn m2.kc] 36))); have HX72 := hide (bxV_new w7 m2 _ rfl); have HMa := hide ((HM6.out.now.keep hb7).keep (new_below w7 (.cells #[.int .u64 m2.v.ts, .int .u64 m2.v.tx, .bool m2.v.dd, .slice m2.va m2.vn m2.vc, .slice m2.ka m2.kn m2.kc] 36))); have HMb := hide (hft2.now.keep (new_below w7 (.cells #[.int .u64 m2.v.ts, .int .u64 m2.v.tx, .bool m2.v.dd, .slice m2.va m2.vn m2.vc, .slice m2.ka m2.kn m2.kc] 36))); obtain ⟨e0, e1, e2, e3, e4⟩ := HX7.out.x; rw [HM.out] at e2; clear hm2 hft2 hb7 HM5 HX5)
            | (go_at_call 21; refine (sol_gcT (HT5.out) (by omega) HGo.out a1).mono ?_; rintro e w6 ⟨rfl, h6, hk6⟩; have HS6 := hide h6; have HX6 := hide (HX5.out.keepM hk6 (Hle.out)); have HM6 := hide (HM5.out.step hk6 (fun k hk => .inl hk)); have HB6 := hide h6.below; clear h6 hk6)
            | (go_at_call 13; refine (sol_at HSo.out (by omega) a2 len2 cap2 x2 (HW2.out.keep HB3.out) (by omega) a3).mono ?_; rintro e w5 ⟨m, rfl, hm, hft, hb5⟩; rw [HA1.out] at hm ⊢; have HM : Hid (m.v = ⟨ts0, tx0, true, val0, ks0⟩) := hm; have HT5 := hide ((HSo.out.solT.keep hb5).keep (new_below w5 (.cells #[.int .u64 m.v.ts, .int .u64 m.v.tx, .bool m.v.dd, .slice m.va m.vn m.vc, .slice m.ka m.kn m.kc] 36))); have HB5 := hide ((HB3.out.trans (hb5.mono HB3.out.size)).trans ((new_below w5 (.cells #[.int .u64 m.v.ts, .int .u64 m.v.tx, .bool m.v.dd, .slice m.va m.vn m.vc, .slice m.ka m.kn m.kc] 36)).mono (Nat.le_trans HB3.out.size hb5.size))); have HX5 := hide (bxV_new w5 m _ rfl); have HM5 := hide (hft.keep (new_below w5 (.cells #[.int .u64 m.v.ts, .int .u64 m.v.tx, .bool m.v.dd, .slice m.va m.vn m.vc, .slice m.ka m.kn m.kc] 36))); have Hle := hide hb5.size; clear hm hft hb5))
          go_ret
          exact ⟨rfl, HB8.out⟩
      · rw [HA1.out] at h1
        cases h1
        have HA2 := hide h
        have h2 : dd0 = true := h2
        subst h2
        clear h
        go_wp2_with (first
          | (go_at_call 13; have hchk := HS6.out; clear hchk; refine (sol_at HS6.out (by omega) a2 len2 cap2 x2 (HW2.out.keep (HB1.out.trans (HB6.out.mono HB1.out.size))) (by omega) a3).mono ?_; rintro e w7 ⟨m2, rfl, hm2, hft2, hb7⟩; rw [HA2.out] at hm2 ⊢; have HM2 : Hid (m2.v = ver0) := hm2; have HB7 := hide ((HB1.out.trans (HB6.out.mono HB1.out.size)).trans ((hb7.mono (Nat.le_trans HB1.out.size HB6.out.size)).trans ((new_below w7 (.cells #[.int .u64 m2.v.ts, .int .u64 m2.v.tx, .bool m2.v.dd, .slice m2.va m2.vn m2.vc, .slice m2.ka m2.kn m2.kc] 36)).mono (Nat.le_trans (Nat.le_trans HB1.out.size HB6.out.size) hb7.size)))); have HX7 := hide ((HX6.out.keep hb7).keep (new_below w7 (.cells #[.int .u64 m2.v.ts, .int .u64 m2.v.tx, .bool m2.v.dd, .slice m2.va m2.vn m2.vc, .slice m2.ka m2.kn m2.kc] 36))); have HX72 := hide (bxV_new w7 m2 _ rfl); have HMa := hide ((HM6.out.now.keep hb7).keep (new_below w7 (.cells #[.int .u64 m2.v.ts, .int .u64 m2.v.tx, .bool m2.v.dd, .slice m2.va m2.vn m2.vc, .slice m2.ka m2.kn m2.kc] 36))); have HMb := hide (hft2.now.keep (new_below w7 (.cells #[.int .u64 m2.v.ts, .int .u64 m2.v.tx, .bool m2.v.dd, .slice m2.va m2.vn m2.vc, .slice m2.ka m2.kn m2.kc] 36))); obtain ⟨e0, e1, e2, e3, e4⟩ := HX7.out.x; rw [HM.out] at e2; clear hm2 hft2 hb7 HM5 HX5)
          | (go_at_call 21; refine (sol_gcT (HT5.out) (by omega) HGo.out a1).mono ?_; rintro e w6 ⟨rfl, h6, hk6⟩; have HS6 := hide h6; have HX6 := hide (HX5.out.keepM hk6 (Hle.out)); have HM6 := hide (HM5.out.step hk6 (fun k hk => .inl hk)); have HB6 := hide h6.below; clear h6 hk6)
          | (go_at_call 13; refine (sol_at HSo.out (by omega) a2 len2 cap2 x2 (HW2.out.keep HB3.out) (by omega) a3).mono ?_; rintro e w5 ⟨m, rfl, hm, hft, hb5⟩; rw [HA1.out] at hm ⊢; have HM : Hid (m.v = ⟨ts0, tx0, true, val0, ks0⟩) := hm; have HT5 := hide ((HSo.out.solT.keep hb5).keep (new_below w5 (.cells #[.int .u64 m.v.ts, .int .u64 m.v.tx, .bool m.v.dd, .slice m.va m.vn m.vc, .slice m.ka m.kn m.kc] 36))); have HB5 := hide ((HB3.out.trans (hb5.mono HB3.out.size)).trans ((new_below w5 (.cells #[.int .u64 m.v.ts, .int .u64 m.v.tx, .bool m.v.dd, .slice m.va m.vn m.vc, .slice m.ka m.kn m.kc] 36)).mono (Nat.le_trans HB3.out.size hb5.size))); have HX5 := hide (bxV_new w5 m _ rfl); have HM5 := hide (hft.keep (new_below w5 (.cells #[.int .u64 m.v.ts, .int .u64 m.v.tx, .bool m.v.dd, .slice m.va m.vn m.vc, .slice m.ka m.kn m.kc] 36))); have Hle := hide hb5.size; clear hm hft hb5))
        go_ret
        exact ⟨rfl, HB7.out⟩

set_option maxRecDepth 100000 in
theorem lifted (os : Os) (started : os.Started) (H : Type) (enc : TypeId × Value → H) :
    ReturnsInHanded {} Try.checked os 5 .any (Rows.mvccStaysSpec.pre6 enc Try.prog Try.f5 Rows.mvccStaysRow.domain false) (Rows.mvccStaysSpec.post enc Try.prog Try.f5 false true false false) := by
  refine returnsInHanded_of_change_sized (C := Try.checked) own started (by kernel_rfl) Try.func5
    (ChangeSpec.witness6 (enc := enc) (C := Try.checked) false ⟨#[], #[.slice none 0 0, .int .u64 0, .slice none 0 0, .int .u64 0], []⟩ 8 (by kernel_rfl) (by kernel_rfl) (by kernel_rfl) (by kernel_rfl)) ?_
  intro W base args ds gs before hval0 hW hcnd hsz0 _
  have hval : ∀ (j : Nat) t v, Try.f5.params[j]? = some t → args[j]? = some v → Value.okWide Try.prog W .any base t v := hval0
  have hW' := hW
  obtain ⟨p, q, hA0, hV, rfl, hfz, hnd⟩ := hW
  have hA : DataW.TrodAll enc Try.prog W 0 (fun _ => true) true Try.f5.params.toList args.toList ds p := hA0
  have hsz : (DataW.weightsEach Try.prog (Try.f5.params.toList ++ Rows.mvccStaysSpec.plain.varTypes Try.prog) (ds ++ gs)).all (fun x => decide (x ≤ reachBytes)) = true := hsz0
  rw [Try.params5] at hA hval hsz
  obtain ⟨v0, vs0, d0, ds0, p0, q0, hargs, rfl, rfl, h0, r0⟩ := trodAll_cons hA
  obtain ⟨v1, vs1, d1, ds1, p1, q1, rfl, rfl, rfl, h1, r1⟩ := trodAll_cons r0
  obtain ⟨v2, vs2, d2, ds2, p2, q2, rfl, rfl, rfl, h2, r2⟩ := trodAll_cons r1
  obtain ⟨v3, vs3, d3, ds3, p3, q3, rfl, rfl, rfl, h3, r3⟩ := trodAll_cons r2
  obtain ⟨rfl, rfl, rfl⟩ := trodAll_nil r3
  obtain rfl : args = #[v0, v1, v2, v3] := by cases args; simp_all
  obtain ⟨rfl, rfl⟩ := trodVars_none hV
  obtain ⟨a0, len0, cap0, rfl⟩ := okWide_slice Try.underlying22 (hval 0 22 v0 rfl rfl)
  have k0 := h0
  have lt0 : ∀ x ∈ p0, x.block < W.heap.size := by obtain ⟨m, hm⟩ := k0; exact DataW.trod_lt m _ _ _ hm
  obtain ⟨x0, w0⟩ : ∃ xs, IsDeeds12 W a0 len0 cap0 xs := by
    obtain ⟨fuel, hf⟩ := h0
    exact open_deeds12 (by simpa [Value.cells] using hf) (fun n hn => by have := List.all_eq_true.1 hsz n (DataW.weights_mem_each (j := 0) (t := 22) (d := d0) rfl rfl n hn); simpa using this)
  have k1 := h1
  have lt1 : ∀ x ∈ p1, x.block < W.heap.size := by obtain ⟨m, hm⟩ := k1; exact DataW.trod_lt m _ _ _ hm
  obtain ⟨a1, rfl, w1⟩ : ∃ n, v1 = .int .u64 n ∧ (Lit.int .u64 n).wf = true := by
    obtain ⟨n, hn, _, _, hw⟩ := open_int Try.underlying24 (hval 1 24 v1 rfl rfl) h1
    exact ⟨n, hn, hw⟩
  obtain ⟨a2, len2, cap2, rfl⟩ := okWide_slice Try.underlying23 (hval 2 23 v2 rfl rfl)
  have k2 := h2
  have lt2 : ∀ x ∈ p2, x.block < W.heap.size := by obtain ⟨m, hm⟩ := k2; exact DataW.trod_lt m _ _ _ hm
  obtain ⟨x2, w2⟩ : ∃ xs, IsBytes W a2 len2 cap2 xs := by
    obtain ⟨fuel, hf⟩ := h2
    exact open_bytes (by simpa [Value.cells] using hf)
  have k3 := h3
  have lt3 : ∀ x ∈ p3, x.block < W.heap.size := by obtain ⟨m, hm⟩ := k3; exact DataW.trod_lt m _ _ _ hm
  obtain ⟨a3, rfl, w3⟩ : ∃ n, v3 = .int .u64 n ∧ (Lit.int .u64 n).wf = true := by
    obtain ⟨n, hn, _, _, hw⟩ := open_int Try.underlying24 (hval 3 24 v3 rfl rfl) h3
    exact ⟨n, hn, hw⟩
  clear hA0 hval0
  refine (walk a0 len0 cap0 x0 a1 a2 len2 cap2 x2 a3 W w0 w1 w2 w3).mono fun e W' ⟨he, bel⟩ => ?_
  subst he
  exact ⟨_, rfl, _, _, _, [], _, [], hW', trodAll_mk1 (shut_bool Try.underlying4 _), (trodAll_cons_mk (Below.trod laidOut (by kernel_rfl) (of_decide_eq_true (by kernel_rfl)) k0 bel lt0) (trodAll_cons_mk (Below.trod laidOut (by kernel_rfl) (of_decide_eq_true (by kernel_rfl)) k1 bel lt1) (trodAll_cons_mk (Below.trod laidOut (by kernel_rfl) (of_decide_eq_true (by kernel_rfl)) k2 bel lt2) (trodAll_cons_mk (Below.trod laidOut (by kernel_rfl) (of_decide_eq_true (by kernel_rfl)) k3 bel lt3) trodAll_mk0)))), rfl, bel.frame _, fun h => by cases h⟩

theorem over : Rows.mvccStaysRow.holds Try.pinned (OpenSpec.ofChange Rows.mvccStaysSpec) :=
  OpenClaim.holds_of_wide 5 Try.f5 rfl rfl rfl rfl rfl rfl rfl ⟨rfl, rfl, rfl, rfl, rfl⟩ rfl rfl rfl rfl rfl (by kernel_rfl) Try.func5 (by kernel_rfl)
    (of_decide_eq_true (by kernel_rfl)) (by unfold Func.isWrapper; first | (rw [if_pos (by decide +kernel)]; kernel_rfl) | (rw [if_neg (by decide +kernel)]; exact ⟨rfl, rfl⟩))
    (fun os started H enc _ => lifted os started H enc)

theorem proved : Rows.MvccStaysSaid := over
end Go.Proofs.Ytfldiapdfpkdaaa.mvccStays
namespace Go.Proofs.Ytfldiapdfpkdaaa
theorem mvccStays_holds : Rows.MvccStaysSaid := mvccStays.proved
#print axioms mvccStays_holds
end Go.Proofs.Ytfldiapdfpkdaaa
