/- MvccPuts: for every list of deeds, every key, every version and every time plenumlaw12.MvccPuts returns true (of more than 40 deeds, of a key of more than 50 bytes, and of a version with more than 100 bytes or more than 10 keys it asks nothing): a version that is put is read at its time, and later until a later one. No condition. -/
import Derived.Test.YtfldiapdfpkdaaaRows
import Derived.WalkKit
import Derived.ProofKit
import Derived.OpenShut
import Derived.ShutString
import Derived.ChangeOld
import Derived.Below
import Derived.SizedLaws
import Derived.Test.YtfldiapdfpkdaaaQsJ
import Derived.Test.YtfldiapdfpkdaaaMvG
namespace Go.Proofs.Ytfldiapdfpkdaaa.mvccPuts
open Go.ChangeShapes Go.WideShapes Go.ChangeAt Go.RowKit
open Go.ChangeMaps (open_string shut_string)
set_option linter.unusedVariables false

theorem own : ownKnob Try.prog.godebug = none := by kernel_rfl
theorem laidOut : laidOutB Try.prog = true := by kernel_rfl

open NumMath

set_option maxRecDepth 100000 in
set_option maxHeartbeats 4000000 in
theorem walk (a0 : Option Addr) (len0 cap0 : Nat) (x0 : List MD) (a1 : Option Addr) (len1 cap1 : Nat) (x1 : List Int) (y2 : MV) (a3 : Int) (w : World) (w0 : IsDeeds12 w a0 len0 cap0 x0) (w1 : IsBytes w a1 len1 cap1 x1) (w2 : y2.handed w) (w3 : (Lit.int .u64 a3).wf = true) :
    Calls Try.prog 7 #[.slice a0 len0 cap0, .slice a1 len1 cap1, .agg #[.int .u64 y2.v.ts, .int .u64 y2.v.tx, .bool y2.v.dd, .slice y2.va y2.vn y2.vc, .slice y2.ka y2.kn y2.kc], .int .u64 a3] w fun e w' => e = .returned (.bool true) ∧ Below w.heap.size w w' := by
  obtain ⟨hok, hks, -⟩ := w2
  have HOk := hide hok
  have HW0 := hide w0
  have HW1 := hide w1
  have hm1 : (len1 : Int) ≤ 9223372036854775807 := by have := w1.2.1; have := w1.2.2.1; unfold maxLen at this; omega
  have HBx := hide (bxV_new w y2 _ rfl)
  have HNb := hide (new_below w (.cells #[.int .u64 y2.v.ts, .int .u64 y2.v.tx, .bool y2.v.dd, .slice y2.va y2.vn y2.vc, .slice y2.ka y2.kn y2.kc] 36))
  clear hok w0 w1 w3
  by_cases g1 : (50 : Int) < (len1 : Int)
  · go_enter Try.func7, Try.ntmps7
    go_wp2_with (first
      | (go_at_call 8; refine (awake12_any _).mono ?_; rintro e wa ⟨rfl, hba⟩; have HB1 := hide (HNb.out.trans (hba.mono HNb.out.size)); have HXa := hide (HBx.out.keep hba); obtain ⟨b0, b1, b2, b3, b4⟩ := HXa.out.x; clear hba))
    go_ret
    exact ⟨rfl, HB1.out⟩
  by_cases hv : ¬ (y2.vn ≤ 100 ∧ y2.kn ≤ 10)
  · have HSmv : Hid (decide (y2.vn ≤ 100 ∧ y2.kn ≤ 10) = false) := decide_eq_false hv
    go_enter Try.func7, Try.ntmps7
    go_wp2_with (first
      | (go_at_call 23; refine (smallV_any y2 _).mono ?_; rintro e ws ⟨rfl, hbs⟩; rw [HSmv.out]; have HB2 := hide (HB1.out.trans (hbs.mono HB1.out.size)); have HXs := hide (HXa.out.keep hbs); clear hbs)
      | (go_at_call 8; refine (awake12_any _).mono ?_; rintro e wa ⟨rfl, hba⟩; have HB1 := hide (HNb.out.trans (hba.mono HNb.out.size)); have HXa := hide (HBx.out.keep hba); obtain ⟨b0, b1, b2, b3, b4⟩ := HXa.out.x; clear hba))
    go_ret
    exact ⟨rfl, HB2.out⟩
  have hv := Classical.not_not.1 hv
  have HSmv : Hid (decide (y2.vn ≤ 100 ∧ y2.kn ≤ 10) = true) := decide_eq_true hv
  have HFit : Hid (FitV y2.v) := ⟨by have := HOk.out.1.1; omega, by have := HOk.out.2.1; omega, hks⟩
  clear hv hks
  have hl1 : len1 ≤ 50 := by omega
  cases hgr : greatD x0 with
  | true =>
    have HGr := hide hgr
    clear hgr
    go_enter Try.func7, Try.ntmps7
    go_wp2_with (first
      | (go_at_call 9; refine (both_any a0 len0 cap0 x0 _ (HW0.out.keep HB2.out)).mono ?_; rintro e wb ⟨p, mb, q, j, rfl, -, hbb⟩; rw [HGr.out]; have HB3 := hide (HB2.out.trans (hbb.mono HB2.out.size)); clear hbb)
      | (go_at_call 23; refine (smallV_any y2 _).mono ?_; rintro e ws ⟨rfl, hbs⟩; rw [HSmv.out]; have HB2 := hide (HB1.out.trans (hbs.mono HB1.out.size)); have HXs := hide (HXa.out.keep hbs); clear hbs)
      | (go_at_call 8; refine (awake12_any _).mono ?_; rintro e wa ⟨rfl, hba⟩; have HB1 := hide (HNb.out.trans (hba.mono HNb.out.size)); have HXa := hide (HBx.out.keep hba); obtain ⟨b0, b1, b2, b3, b4⟩ := HXa.out.x; clear hba))
    go_ret
    exact ⟨rfl, HB3.out⟩
  | false =>
    have HGr := hide hgr
    clear hgr
    by_cases ht : a3 < y2.v.ts
    · go_enter Try.func7, Try.ntmps7
      go_wp2_with (first
        | (go_at_call 15; refine (sameV_any m y2 _ (by exact HMa.out) (HOk.out.at (by exact HB6.out)) HM.out).mono ?_; rintro e w7 ⟨rfl, hb7⟩; have HB7 := hide (HB6.out.trans (hb7.mono HB6.out.size)); obtain ⟨g0, g1, g2, g3, g4⟩ := (HX6.out.keep hb7).x; obtain ⟨f0, f1, f2, f3, f4⟩ := (HX62.out.keep hb7).x; clear hb7)
        | (go_at_call 13; have hchk := HM.out; clear hchk; refine (sol_at (HS5.out.keep (new_below w5 _)) (by omega) a1 len1 cap1 x1 (HW1.out.keep (HB5.out.trans ((new_below w5 _).mono HB5.out.size))) (by omega) a3).mono ?_; rintro e w6 ⟨m2, rfl, hm2, -, hb6⟩; obtain ⟨z6, hz6⟩ : ∃ z6, (atC (putC st x1 y2.v) x1 a3).isSome = z6 := ⟨_, rfl⟩; rw [hz6]; clear hz6 hm2; have HB6 := hide ((HB5.out.trans ((new_below w5 _).mono HB5.out.size)).trans ((hb6.mono (HB5.out.trans ((new_below w5 _).mono HB5.out.size)).size).trans ((new_below w6 (.cells #[.int .u64 m2.v.ts, .int .u64 m2.v.tx, .bool m2.v.dd, .slice m2.va m2.vn m2.vc, .slice m2.ka m2.kn m2.kc] 36)).mono (Nat.le_trans (HB5.out.trans ((new_below w5 _).mono HB5.out.size)).size hb6.size)))); have HX6 := hide (((HX5.out.keep (new_below w5 _)).keep hb6).keep (new_below w6 (.cells #[.int .u64 m2.v.ts, .int .u64 m2.v.tx, .bool m2.v.dd, .slice m2.va m2.vn m2.vc, .slice m2.ka m2.kn m2.kc] 36))); have HX61 := hide (((bxV_new w5 m _ rfl).keep hb6).keep (new_below w6 (.cells #[.int .u64 m2.v.ts, .int .u64 m2.v.tx, .bool m2.v.dd, .slice m2.va m2.vn m2.vc, .slice m2.ka m2.kn m2.kc] 36))); have HX62 := hide (bxV_new w6 m2 _ rfl); have HMa := hide (((HM5.out.keep (new_below w5 _)).keep hb6).keep (new_below w6 (.cells #[.int .u64 m2.v.ts, .int .u64 m2.v.tx, .bool m2.v.dd, .slice m2.va m2.vn m2.vc, .slice m2.ka m2.kn m2.kc] 36))); obtain ⟨e0, e1, e2, e3, e4⟩ := HX61.out.x; obtain ⟨h0, h1, h2, h3, h4⟩ := HX6.out.x; clear hb6)
        | (go_at_call 13; refine (sol_at HS4.out (by omega) a1 len1 cap1 x1 (HW1.out.keep HB4.out) (by omega) y2.v.ts).mono ?_; rintro e w5 ⟨m, rfl, hm, hft, hb5⟩; rw [HP1.out] at hm ⊢; have HM : Hid (m.v = y2.v) := hm; have HS5 := hide (HS4.out.keep hb5); have HB5 := hide (HB4.out.trans (hb5.mono HB4.out.size)); have HX5 := hide (HX4.out.keep hb5); have HM5 := hide hft.now; clear hm hft hb5)
        | (go_at_call 24; refine (sol_put (HSo.out) (by omega) a1 len1 cap1 x1 (HW1.out.keep HB3.out) (by omega) y2 ⟨HOk.out.1.keep HB2.out, HOk.out.2.keep HB2.out⟩ HFit.out).mono ?_; rintro e w4 ⟨rfl, h4⟩; have HS4 := hide h4; have HB4 := hide (HB2.out.trans (h4.below.mono HB2.out.size)); have HX4 := hide (HXs.out.keep h4.below); obtain ⟨d0, d1, d2, d3, d4⟩ := HX4.out.x; obtain ⟨hp1, hpt⟩ := at_putP HGo.out.sort x1 y2.v a3; have HP1 := hide hp1; clear h4 hp1 hpt)
        | (go_at_call 9; refine (both_any a0 len0 cap0 x0 _ (HW0.out.keep HB2.out)).mono ?_; rintro e wb ⟨p, mb, q, j, rfl, hst, hbb⟩; rw [HGr.out]; obtain ⟨hj, hst⟩ := hst HGr.out; obtain ⟨st, hsol, hgo⟩ := hst.sol hj; have HSo := hide hsol; have HGo := hide hgo; have HB3 := hide (HB2.out.trans (hbb.mono HB2.out.size)); have HXb := hide (HXs.out.keep hbb); obtain ⟨c0, c1, c2, c3, c4⟩ := HXb.out.x; clear hbb hst hsol hgo)
        | (go_at_call 23; refine (smallV_any y2 _).mono ?_; rintro e ws ⟨rfl, hbs⟩; rw [HSmv.out]; have HB2 := hide (HB1.out.trans (hbs.mono HB1.out.size)); have HXs := hide (HXa.out.keep hbs); clear hbs)
        | (go_at_call 8; refine (awake12_any _).mono ?_; rintro e wa ⟨rfl, hba⟩; have HB1 := hide (HNb.out.trans (hba.mono HNb.out.size)); have HXa := hide (HBx.out.keep hba); obtain ⟨b0, b1, b2, b3, b4⟩ := HXa.out.x; clear hba))
      go_ret
      exact ⟨rfl, HB7.out⟩
    · go_enter Try.func7, Try.ntmps7
      go_wp2_with (first
        | (go_at_call 15; refine (sameV_any m y2 _ (by exact HMa.out) (HOk.out.at (by exact HB6.out)) HM.out).mono ?_; rintro e w7 ⟨rfl, hb7⟩; have HB7 := hide (HB6.out.trans (hb7.mono HB6.out.size)); obtain ⟨g0, g1, g2, g3, g4⟩ := (HX6.out.keep hb7).x; obtain ⟨f0, f1, f2, f3, f4⟩ := (HX62.out.keep hb7).x; clear hb7)
        | (go_at_call 13; have hchk := HM.out; clear hchk; refine (sol_at (HS5.out.keep (new_below w5 _)) (by omega) a1 len1 cap1 x1 (HW1.out.keep (HB5.out.trans ((new_below w5 _).mono HB5.out.size))) (by omega) a3).mono ?_; rintro e w6 ⟨m2, rfl, hm2, -, hb6⟩; obtain ⟨xv, hxa, hx1, hx2⟩ := HPt.out; rw [hxa] at hm2 ⊢; have hm3 : m2.v = xv := hm2; rw [← hm3] at hx1 hx2; clear hm2 hm3 hxa; have HB6 := hide ((HB5.out.trans ((new_below w5 _).mono HB5.out.size)).trans ((hb6.mono (HB5.out.trans ((new_below w5 _).mono HB5.out.size)).size).trans ((new_below w6 (.cells #[.int .u64 m2.v.ts, .int .u64 m2.v.tx, .bool m2.v.dd, .slice m2.va m2.vn m2.vc, .slice m2.ka m2.kn m2.kc] 36)).mono (Nat.le_trans (HB5.out.trans ((new_below w5 _).mono HB5.out.size)).size hb6.size)))); have HX6 := hide (((HX5.out.keep (new_below w5 _)).keep hb6).keep (new_below w6 (.cells #[.int .u64 m2.v.ts, .int .u64 m2.v.tx, .bool m2.v.dd, .slice m2.va m2.vn m2.vc, .slice m2.ka m2.kn m2.kc] 36))); have HX61 := hide (((bxV_new w5 m _ rfl).keep hb6).keep (new_below w6 (.cells #[.int .u64 m2.v.ts, .int .u64 m2.v.tx, .bool m2.v.dd, .slice m2.va m2.vn m2.vc, .slice m2.ka m2.kn m2.kc] 36))); have HX62 := hide (bxV_new w6 m2 _ rfl); have HMa := hide (((HM5.out.keep (new_below w5 _)).keep hb6).keep (new_below w6 (.cells #[.int .u64 m2.v.ts, .int .u64 m2.v.tx, .bool m2.v.dd, .slice m2.va m2.vn m2.vc, .slice m2.ka m2.kn m2.kc] 36))); obtain ⟨e0, e1, e2, e3, e4⟩ := HX61.out.x; obtain ⟨h0, h1, h2, h3, h4⟩ := HX6.out.x; clear hb6)
        | (go_at_call 13; refine (sol_at HS4.out (by omega) a1 len1 cap1 x1 (HW1.out.keep HB4.out) (by omega) y2.v.ts).mono ?_; rintro e w5 ⟨m, rfl, hm, hft, hb5⟩; rw [HP1.out] at hm ⊢; have HM : Hid (m.v = y2.v) := hm; have HS5 := hide (HS4.out.keep hb5); have HB5 := hide (HB4.out.trans (hb5.mono HB4.out.size)); have HX5 := hide (HX4.out.keep hb5); have HM5 := hide hft.now; clear hm hft hb5)
        | (go_at_call 24; refine (sol_put (HSo.out) (by omega) a1 len1 cap1 x1 (HW1.out.keep HB3.out) (by omega) y2 ⟨HOk.out.1.keep HB2.out, HOk.out.2.keep HB2.out⟩ HFit.out).mono ?_; rintro e w4 ⟨rfl, h4⟩; have HS4 := hide h4; have HB4 := hide (HB2.out.trans (h4.below.mono HB2.out.size)); have HX4 := hide (HXs.out.keep h4.below); obtain ⟨d0, d1, d2, d3, d4⟩ := HX4.out.x; obtain ⟨hp1, hpt⟩ := at_putP HGo.out.sort x1 y2.v a3; have HP1 := hide hp1; have HPt := hide (hpt (by omega)); clear h4 hp1 hpt)
        | (go_at_call 9; refine (both_any a0 len0 cap0 x0 _ (HW0.out.keep HB2.out)).mono ?_; rintro e wb ⟨p, mb, q, j, rfl, hst, hbb⟩; rw [HGr.out]; obtain ⟨hj, hst⟩ := hst HGr.out; obtain ⟨st, hsol, hgo⟩ := hst.sol hj; have HSo := hide hsol; have HGo := hide hgo; have HB3 := hide (HB2.out.trans (hbb.mono HB2.out.size)); have HXb := hide (HXs.out.keep hbb); obtain ⟨c0, c1, c2, c3, c4⟩ := HXb.out.x; clear hbb hst hsol hgo)
        | (go_at_call 23; refine (smallV_any y2 _).mono ?_; rintro e ws ⟨rfl, hbs⟩; rw [HSmv.out]; have HB2 := hide (HB1.out.trans (hbs.mono HB1.out.size)); have HXs := hide (HXa.out.keep hbs); clear hbs)
        | (go_at_call 8; refine (awake12_any _).mono ?_; rintro e wa ⟨rfl, hba⟩; have HB1 := hide (HNb.out.trans (hba.mono HNb.out.size)); have HXa := hide (HBx.out.keep hba); obtain ⟨b0, b1, b2, b3, b4⟩ := HXa.out.x; clear hba))
      go_ret
      exact ⟨rfl, HB7.out⟩

set_option maxRecDepth 100000 in
theorem lifted (os : Os) (started : os.Started) (H : Type) (enc : TypeId × Value → H) :
    ReturnsInHanded {} Try.checked os 7 .any (Rows.mvccPutsSpec.pre6 enc Try.prog Try.f7 Rows.mvccPutsRow.domain false) (Rows.mvccPutsSpec.post enc Try.prog Try.f7 false true false false) := by
  refine returnsInHanded_of_change_sized (C := Try.checked) own started (by kernel_rfl) Try.func7
    (ChangeSpec.witness6 (enc := enc) (C := Try.checked) false ⟨#[], #[.slice none 0 0, .slice none 0 0, .agg #[.int .u64 0, .int .u64 0, .bool false, .slice none 0 0, .slice none 0 0], .int .u64 0], []⟩ 8 (by kernel_rfl) (by kernel_rfl) (by kernel_rfl) (by kernel_rfl)) ?_
  intro W base args ds gs before hval0 hW hcnd hsz0 _
  have hval : ∀ (j : Nat) t v, Try.f7.params[j]? = some t → args[j]? = some v → Value.okWide Try.prog W .any base t v := hval0
  have hW' := hW
  obtain ⟨p, q, hA0, hV, rfl, hfz, hnd⟩ := hW
  have hA : DataW.TrodAll enc Try.prog W 0 (fun _ => true) true Try.f7.params.toList args.toList ds p := hA0
  have hsz : (DataW.weightsEach Try.prog (Try.f7.params.toList ++ Rows.mvccPutsSpec.plain.varTypes Try.prog) (ds ++ gs)).all (fun x => decide (x ≤ reachBytes)) = true := hsz0
  rw [Try.params7] at hA hval hsz
  obtain ⟨v0, vs0, d0, ds0, p0, q0, hargs, rfl, rfl, h0, r0⟩ := trodAll_cons hA
  obtain ⟨v1, vs1, d1, ds1, p1, q1, rfl, rfl, rfl, h1, r1⟩ := trodAll_cons r0
  obtain ⟨v2, vs2, d2, ds2, p2, q2, rfl, rfl, rfl, h2, r2⟩ := trodAll_cons r1
  obtain ⟨v3, vs3, d3, ds3, p3, q3, rfl, rfl, rfl, h3, r3⟩ := trodAll_cons r2
  obtain ⟨rfl, rfl, rfl⟩ := trodAll_nil r3
  obtain rfl : args = #[v0, v1, v2, v3] := by cases args; simp_all
  obtain ⟨rfl, rfl⟩ := trodVars_none hV
  obtain ⟨a0, len0, cap0, rfl⟩ := okWide_slice Try.underlying22 (hval 0 22 v0 rfl rfl)
  have k0 := h0
  have lt0 : ∀ x ∈ p0, x.block < W.heap.size := by obtain ⟨m, hm⟩ := k0; exact DataW.trod_lt m _ _ _ hm
  obtain ⟨x0, w0⟩ : ∃ xs, IsDeeds12 W a0 len0 cap0 xs := by
    obtain ⟨fuel, hf⟩ := h0
    exact open_deeds12 (by simpa [Value.cells] using hf) (fun n hn => by have := List.all_eq_true.1 hsz n (DataW.weights_mem_each (j := 0) (t := 22) (d := d0) rfl rfl n hn); simpa using this)
  obtain ⟨a1, len1, cap1, rfl⟩ := okWide_slice Try.underlying23 (hval 1 23 v1 rfl rfl)
  have k1 := h1
  have lt1 : ∀ x ∈ p1, x.block < W.heap.size := by obtain ⟨m, hm⟩ := k1; exact DataW.trod_lt m _ _ _ hm
  obtain ⟨x1, w1⟩ : ∃ xs, IsBytes W a1 len1 cap1 xs := by
    obtain ⟨fuel, hf⟩ := h1
    exact open_bytes (by simpa [Value.cells] using hf)
  have k2 := h2
  have lt2 : ∀ x ∈ p2, x.block < W.heap.size := by obtain ⟨m, hm⟩ := k2; exact DataW.trod_lt m _ _ _ hm
  obtain ⟨cs2, rfl, hz2⟩ := okWide_struct Try.underlying36 (hval 2 36 v2 rfl rfl)
  obtain ⟨fuel2, hf2⟩ := h2
  obtain ⟨y2, rfl, w2⟩ := open_ver12 (hz2.trans (by kernel_rfl)) (by simpa [Value.cells] using hf2) (fun n hn => by have := List.all_eq_true.1 hsz n (DataW.weights_mem_each (j := 2) (t := 36) (d := d2) rfl rfl n hn); simpa using this)
  have k3 := h3
  have lt3 : ∀ x ∈ p3, x.block < W.heap.size := by obtain ⟨m, hm⟩ := k3; exact DataW.trod_lt m _ _ _ hm
  obtain ⟨a3, rfl, w3⟩ : ∃ n, v3 = .int .u64 n ∧ (Lit.int .u64 n).wf = true := by
    obtain ⟨n, hn, _, _, hw⟩ := open_int Try.underlying24 (hval 3 24 v3 rfl rfl) h3
    exact ⟨n, hn, hw⟩
  clear hA0 hval0
  refine (walk a0 len0 cap0 x0 a1 len1 cap1 x1 y2 a3 W w0 w1 w2 w3).mono fun e W' ⟨he, bel⟩ => ?_
  subst he
  exact ⟨_, rfl, _, _, _, [], _, [], hW', trodAll_mk1 (shut_bool Try.underlying4 _), (trodAll_cons_mk (Below.trod laidOut (by kernel_rfl) (of_decide_eq_true (by kernel_rfl)) k0 bel lt0) (trodAll_cons_mk (Below.trod laidOut (by kernel_rfl) (of_decide_eq_true (by kernel_rfl)) k1 bel lt1) (trodAll_cons_mk (Below.trod laidOut (by kernel_rfl) (of_decide_eq_true (by kernel_rfl)) k2 bel lt2) (trodAll_cons_mk (Below.trod laidOut (by kernel_rfl) (of_decide_eq_true (by kernel_rfl)) k3 bel lt3) trodAll_mk0)))), rfl, bel.frame _, fun h => by cases h⟩

theorem over : Rows.mvccPutsRow.holds Try.pinned (OpenSpec.ofChange Rows.mvccPutsSpec) :=
  OpenClaim.holds_of_wide 7 Try.f7 rfl rfl rfl rfl rfl rfl rfl ⟨rfl, rfl, rfl, rfl, rfl⟩ rfl rfl rfl rfl rfl (by kernel_rfl) Try.func7 (by kernel_rfl)
    (of_decide_eq_true (by kernel_rfl)) (by unfold Func.isWrapper; first | (rw [if_pos (by decide +kernel)]; kernel_rfl) | (rw [if_neg (by decide +kernel)]; exact ⟨rfl, rfl⟩))
    (fun os started H enc _ => lifted os started H enc)

theorem proved : Rows.MvccPutsSaid := over
end Go.Proofs.Ytfldiapdfpkdaaa.mvccPuts
namespace Go.Proofs.Ytfldiapdfpkdaaa
theorem mvccPuts_holds : Rows.MvccPutsSaid := mvccPuts.proved
#print axioms mvccPuts_holds
end Go.Proofs.Ytfldiapdfpkdaaa
