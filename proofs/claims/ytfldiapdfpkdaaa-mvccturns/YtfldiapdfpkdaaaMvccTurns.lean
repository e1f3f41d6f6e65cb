/- MvccTurns: for every list of deeds, every transaction and every time plenumlaw12.MvccTurns returns true (of more than 40 deeds, of a key of more than 50 bytes, of a version with more than 100 bytes or more than 10 keys, and of the transaction 0 it asks nothing): intents of a transaction become versions, all of them; of another one none. No condition. -/
import Derived.Test.YtfldiapdfpkdaaaRows
import Derived.WalkKit
import Derived.ProofKit
import Derived.OpenShut
import Derived.ShutString
import Derived.ChangeOld
import Derived.Below
import Derived.SizedLaws
import Derived.Test.YtfldiapdfpkdaaaQsP
namespace Go.Proofs.Ytfldiapdfpkdaaa.mvccTurns
open Go.ChangeShapes Go.WideShapes Go.ChangeAt Go.RowKit
open Go.ChangeMaps (open_string shut_string)
set_option linter.unusedVariables false

theorem own : ownKnob Try.prog.godebug = none := by kernel_rfl
theorem laidOut : laidOutB Try.prog = true := by kernel_rfl

open NumMath

set_option maxRecDepth 100000 in
set_option maxHeartbeats 8000000 in
theorem walk (a0 : Option Addr) (len0 cap0 : Nat) (x0 : List MD) (a1 : Int) (a2 : Int) (w : World) (w0 : IsDeeds12 w a0 len0 cap0 x0) (w1 : (Lit.int .u64 a1).wf = true) (w2 : (Lit.int .u64 a2).wf = true) :
    Calls Try.prog 6 #[.slice a0 len0 cap0, .int .u64 a1, .int .u64 a2] w fun e w' => e = .returned (.bool true) ∧ Below w.heap.size w w' := by
  have HW0 := hide w0
  have hts : 0 ≤ a2 ∧ a2 < 18446744073709551616 := wfO_u64 w2
  have HTs := hide hts
  clear w0 w1 w2 hts
  cases hgr : greatD x0 with
  | true =>
    have HGr := hide hgr
    clear hgr
    go_enter Try.func6, Try.ntmps6
    go_wp2_with (first
      | (go_at_call 9; refine (both_any a0 len0 cap0 x0 _ (HW0.out.keep HB1.out)).mono ?_; rintro e wb ⟨p, mb, q, j, rfl, -, hbb⟩; rw [HGr.out]; have HB3 := hide (HB1.out.trans (hbb.mono HB1.out.size)); clear hbb)
      | (go_at_call 8; refine (awake12_any _).mono ?_; rintro e wa ⟨rfl, hba⟩; have HB1 := hide hba; clear hba))
    go_ret
    exact ⟨rfl, HB3.out⟩
  | false =>
    have HGr := hide hgr
    clear hgr
    by_cases hz : a1 = 0
    · have hz' : (a1 == 0) = true := by simp [hz]
      clear hz
      go_enter Try.func6, Try.ntmps6
      go_wp2_with (first
        | (go_at_call 9; refine (both_any a0 len0 cap0 x0 _ (HW0.out.keep HB1.out)).mono ?_; rintro e wb ⟨p, mb, q, j, rfl, hst, hbb⟩; rw [HGr.out]; obtain ⟨hj, hst⟩ := hst HGr.out; obtain ⟨st, hsol, hgo⟩ := hst.sol hj; have HSo := hide hsol; have HGo := hide hgo; have HB3 := hide (HB1.out.trans (hbb.mono HB1.out.size)); obtain ⟨L, hL⟩ : ∃ L, (intentsC st a1).length = L := ⟨_, rfl⟩; have HL := hide hL; clear hbb hst hsol hgo hL)
        | (go_at_call 8; refine (awake12_any _).mono ?_; rintro e wa ⟨rfl, hba⟩; have HB1 := hide hba; clear hba))
      go_ret
      exact ⟨rfl, HB3.out⟩
    have hz' : (a1 == 0) = false := by simp [hz]
    have HZ : Hid (a1 ≠ 0) := hz
    clear hz
    go_enter Try.func6, Try.ntmps6
    go_wp2_with (first
      | (go_at_call 17; have hchk := HS6.out; clear hchk; refine (sol_ints HS6.out (by omega) a1 0 (turned_none HGo.out a1 a2)).mono ?_; rintro e w7 ⟨ka7, kc7, rfl, hb7⟩; have HS7 := hide (HS6.out.keep hb7); have HF7 := hide (HF6.out.keep hb7); have HB7 := hide (HB6.out.trans (hb7.mono HB6.out.size)); clear hb7)
      | (go_at_call 22; refine (sol_turnT HT5.out (by omega) HGo.out a1 a2 HTs.out L HL.out).mono ?_; rintro e w6 ⟨rfl, h6, hk6⟩; have HS6 := hide h6; have HF6 := hide (HF5.out.step hk6 (fun k hk => .inl hk)); have HB6 := hide (HB1.out.trans (h6.below.mono HB1.out.size)); clear h6 hk6)
      | (go_at_call 11; refine (sol_scan HS4.out (by omega) 18446744073709551615).mono ?_; rintro e w5 ⟨sa, sn, sc, rfl, hsnc, hscm, hf5, hb5⟩; have HT5 := hide (HT4.out.keep hb5); have HF5 := hide (hf5.more (Y := fun k => k < wb.heap.size) (fun k hk => .inl (Nat.lt_of_lt_of_le hk Hle.out))); have hsm : (sn : Int) ≤ 9223372036854775807 := (by unfold maxLen at hscm; omega); clear hf5 hb5 hsnc hscm)
      | (go_at_call 17; refine (sol_ints HSo.out (by omega) a1 L HL.out).mono ?_; rintro e w4 ⟨ka4, kc4, rfl, hb4⟩; have HS4 := hide (HSo.out.keep hb4); have HT4 := hide (HSo.out.solT.keep hb4); have Hle := hide hb4.size; clear hb4)
      | (go_at_call 9; refine (both_any a0 len0 cap0 x0 _ (HW0.out.keep HB1.out)).mono ?_; rintro e wb ⟨p, mb, q, j, rfl, hst, hbb⟩; rw [HGr.out]; obtain ⟨hj, hst⟩ := hst HGr.out; obtain ⟨st, hsol, hgo⟩ := hst.sol hj; have HSo := hide hsol; have HGo := hide hgo; have HB3 := hide (HB1.out.trans (hbb.mono HB1.out.size)); obtain ⟨L, hL⟩ : ∃ L, (intentsC st a1).length = L := ⟨_, rfl⟩; have HL := hide hL; clear hbb hst hsol hgo hL)
      | (go_at_call 8; refine (awake12_any _).mono ?_; rintro e wa ⟨rfl, hba⟩; have HB1 := hide hba; clear hba))
    go_loopg [52] sn (fun gk v wr => ∃ (i : Nat), gk = sn - i ∧ v = .int .i64 i ∧ i ≤ sn ∧ Below w7.heap.size w7 wr)
    case atStart => exact ⟨0, rfl, rfl, Nat.zero_le _, Below.refl _ _⟩
    case round =>
      obtain ⟨i, rfl, rfl, hi, hbr⟩ := hrel
      have Hbr := hide hbr
      clear hbr
      by_cases hlt : i < sn
      · have hlt' : (i : Int) < (sn : Int) := by omega
        obtain ⟨g0, off0, m, rfl, hg0, hrg, hma, hmc⟩ := (HF7.out.keep Hbr.out).now.get hlt
        have HRg := hide hrg
        have HMa := hide hma
        have HMc := hide hmc
        have HRb := hide (boxC_rng wr m 52)
        have HKn : Hid (m.kn ≤ 100000) := by
          show m.kn ≤ 100000
          have h1 := HMa.out.key.1
          obtain ⟨mb', z', cs', -, hs', he', -⟩ := HSo.out
          have h2 := HMc.out
          unfold scanC at h2
          obtain ⟨d, hd, e⟩ := List.mem_map.1 (List.mem_filter.1 h2).1
          rw [← he'] at hd
          obtain ⟨x, hx, rfl⟩ := List.mem_map.1 hd
          have h3 := (hs'.go x hx).kl
          have h4 : m.key = x.key := by have := congrArg Cel.key e; exact this.symm
          rw [h4] at h1
          omega
        clear hrg hma hmc
        by_cases ht : m.it.v.tx = a1
        · have HAt := hide (turned_at HGo.out (txn := a1) (ts := a2) HZ.out HMc.out ht)
          have ht1 : (m.it.v.tx == a1) = true := by simp [ht]
          have ht2 : (m.it.v.tx != a1) = false := by simp [ht]
          clear ht
          go_wp2_with (first
            | (refine wp_loadY layC _ _ Try.underlying52 rfl rfl (.tmp 54) rfl g0 (off0 + i * 7) m #[.slice m.ka m.kn m.kc, .slice m.va m.vn m.vc, .int .u64 m.it.v.ts, .int .u64 m.it.v.tx, .bool m.it.v.dd, .slice m.it.va m.it.vn m.it.vc, .slice m.it.ka m.it.kn m.it.kc] rfl rfl HRg.out ?_)
            | (go_at_call 13; refine (sol_at (HS7.out.keep (Hbr.out.trans ((new_below wr (.cells #[.slice m.ka m.kn m.kc, .slice m.va m.vn m.vc, .int .u64 m.it.v.ts, .int .u64 m.it.v.tx, .bool m.it.v.dd, .slice m.it.va m.it.vn m.it.vc, .slice m.it.ka m.it.kn m.it.kc] 52)).mono Hbr.out.size))) (by omega) m.ka m.kn m.kc m.key (HMa.out.key.keep (new_below wr (.cells #[.slice m.ka m.kn m.kc, .slice m.va m.vn m.vc, .int .u64 m.it.v.ts, .int .u64 m.it.v.tx, .bool m.it.v.dd, .slice m.it.va m.it.vn m.it.vc, .slice m.it.ka m.it.kn m.it.kc] 52))) HKn.out a2).mono ?_; rintro e w8 ⟨⟨v2, va2, vn2, vc2, ka2, kn2, kc2⟩, rfl, hm2, hft, hb8⟩; have hv2 : v2 = ⟨a2, m.it.v.tx, m.it.v.dd, m.it.v.val, m.it.v.ks⟩ := (by have h8 : v2 = (atC (turned st a1 a2) m.key a2).getD ver0 := hm2; rw [h8, show atC (turned st a1 a2) m.key a2 = some { m.it.v with ts := a2 } from HAt.out]; rfl); subst hv2; rw [show atC (turned st a1 a2) m.key a2 = some { m.it.v with ts := a2 } from HAt.out]; dsimp only; have HB8 := hide ((new_below wr (.cells #[.slice m.ka m.kn m.kc, .slice m.va m.vn m.vc, .int .u64 m.it.v.ts, .int .u64 m.it.v.tx, .bool m.it.v.dd, .slice m.it.va m.it.vn m.it.vc, .slice m.it.ka m.it.kn m.it.kc] 52)).trans ((hb8.mono (new_below wr (.cells #[.slice m.ka m.kn m.kc, .slice m.va m.vn m.vc, .int .u64 m.it.v.ts, .int .u64 m.it.v.tx, .bool m.it.v.dd, .slice m.it.va m.it.vn m.it.vc, .slice m.it.ka m.it.kn m.it.kc] 52)).size).trans ((new_below w8 (.cells #[.int .u64 a2, .int .u64 m.it.v.tx, .bool m.it.v.dd, .slice va2 vn2 vc2, .slice ka2 kn2 kc2] 36)).mono (Nat.le_trans (new_below wr (.cells #[.slice m.ka m.kn m.kc, .slice m.va m.vn m.vc, .int .u64 m.it.v.ts, .int .u64 m.it.v.tx, .bool m.it.v.dd, .slice m.it.va m.it.vn m.it.vc, .slice m.it.ka m.it.kn m.it.kc] 52)).size hb8.size)))); have HRc := hide (rangeY_same (HRb.out) (show ((w8.alloc (.cells #[.int .u64 a2, .int .u64 m.it.v.tx, .bool m.it.v.dd, .slice va2 vn2 vc2, .slice ka2 kn2 kc2] 36))).heap[wr.heap.size]? = (wr.alloc (.cells #[.slice m.ka m.kn m.kc, .slice m.va m.vn m.vc, .int .u64 m.it.v.ts, .int .u64 m.it.v.tx, .bool m.it.v.dd, .slice m.it.va m.it.vn m.it.vc, .slice m.it.ka m.it.kn m.it.kc] 52)).heap[wr.heap.size]? from ((new_below w8 (.cells #[.int .u64 a2, .int .u64 m.it.v.tx, .bool m.it.v.dd, .slice va2 vn2 vc2, .slice ka2 kn2 kc2] 36)).block _ (Nat.lt_of_lt_of_le (by simp) hb8.size)).trans (hb8.block _ (by simp)))); have h3 : (w8.alloc (.cells #[.int .u64 a2, .int .u64 m.it.v.tx, .bool m.it.v.dd, .slice va2 vn2 vc2, .slice ka2 kn2 kc2] 36)).cell? ⟨wr.heap.size, 3, none⟩ = some (.int .u64 m.it.v.tx) := HRc.out 3 _ rfl; have h4 : (w8.alloc (.cells #[.int .u64 a2, .int .u64 m.it.v.tx, .bool m.it.v.dd, .slice va2 vn2 vc2, .slice ka2 kn2 kc2] 36)).cell? ⟨wr.heap.size, 4, none⟩ = some (.bool m.it.v.dd) := HRc.out 4 _ rfl; have h5 : (w8.alloc (.cells #[.int .u64 a2, .int .u64 m.it.v.tx, .bool m.it.v.dd, .slice va2 vn2 vc2, .slice ka2 kn2 kc2] 36)).cell? ⟨wr.heap.size, 5, none⟩ = some (.slice m.it.va m.it.vn m.it.vc) := HRc.out 5 _ rfl; have hq1 : IsBytes w8 va2 vn2 vc2 m.it.v.val := hft.now.1; have q1 := (hq1.keep (new_below w8 (.cells #[.int .u64 a2, .int .u64 m.it.v.tx, .bool m.it.v.dd, .slice va2 vn2 vc2, .slice ka2 kn2 kc2] 36))).conv; have q2 := (HMa.out.iat.1.keep HB8.out).conv; clear hm2 hft hb8 hq1))
          go_roundg (sn - (i + 1))
          case measure => omega
          case rel => exact ⟨i + 1, rfl, by go_num, by omega, Hbr.out.trans (HB8.out.mono Hbr.out.size)⟩
        · have ht' : (m.it.v.tx == a1) = false := by simp [ht]
          clear ht
          go_wp2_with (first
            | (refine wp_loadY layC _ _ Try.underlying52 rfl rfl (.tmp 54) rfl g0 (off0 + i * 7) m #[.slice m.ka m.kn m.kc, .slice m.va m.vn m.vc, .int .u64 m.it.v.ts, .int .u64 m.it.v.tx, .bool m.it.v.dd, .slice m.it.va m.it.vn m.it.vc, .slice m.it.ka m.it.kn m.it.kc] rfl rfl HRg.out ?_)
            | (go_at_call 13; refine (sol_at (HS7.out.keep (Hbr.out.trans ((new_below wr (.cells #[.slice m.ka m.kn m.kc, .slice m.va m.vn m.vc, .int .u64 m.it.v.ts, .int .u64 m.it.v.tx, .bool m.it.v.dd, .slice m.it.va m.it.vn m.it.vc, .slice m.it.ka m.it.kn m.it.kc] 52)).mono Hbr.out.size))) (by omega) m.ka m.kn m.kc m.key (HMa.out.key.keep (new_below wr (.cells #[.slice m.ka m.kn m.kc, .slice m.va m.vn m.vc, .int .u64 m.it.v.ts, .int .u64 m.it.v.tx, .bool m.it.v.dd, .slice m.it.va m.it.vn m.it.vc, .slice m.it.ka m.it.kn m.it.kc] 52))) HKn.out a2).mono ?_; rintro e w8 ⟨m2, rfl, hm2, hft, hb8⟩; have HB8 := hide ((new_below wr (.cells #[.slice m.ka m.kn m.kc, .slice m.va m.vn m.vc, .int .u64 m.it.v.ts, .int .u64 m.it.v.tx, .bool m.it.v.dd, .slice m.it.va m.it.vn m.it.vc, .slice m.it.ka m.it.kn m.it.kc] 52)).trans ((hb8.mono (new_below wr (.cells #[.slice m.ka m.kn m.kc, .slice m.va m.vn m.vc, .int .u64 m.it.v.ts, .int .u64 m.it.v.tx, .bool m.it.v.dd, .slice m.it.va m.it.vn m.it.vc, .slice m.it.ka m.it.kn m.it.kc] 52)).size).trans ((new_below w8 (.cells #[.int .u64 m2.v.ts, .int .u64 m2.v.tx, .bool m2.v.dd, .slice m2.va m2.vn m2.vc, .slice m2.ka m2.kn m2.kc] 36)).mono (Nat.le_trans (new_below wr (.cells #[.slice m.ka m.kn m.kc, .slice m.va m.vn m.vc, .int .u64 m.it.v.ts, .int .u64 m.it.v.tx, .bool m.it.v.dd, .slice m.it.va m.it.vn m.it.vc, .slice m.it.ka m.it.kn m.it.kc] 52)).size hb8.size)))); have HRc := hide (rangeY_same (HRb.out) (show ((w8.alloc (.cells #[.int .u64 m2.v.ts, .int .u64 m2.v.tx, .bool m2.v.dd, .slice m2.va m2.vn m2.vc, .slice m2.ka m2.kn m2.kc] 36))).heap[wr.heap.size]? = (wr.alloc (.cells #[.slice m.ka m.kn m.kc, .slice m.va m.vn m.vc, .int .u64 m.it.v.ts, .int .u64 m.it.v.tx, .bool m.it.v.dd, .slice m.it.va m.it.vn m.it.vc, .slice m.it.ka m.it.kn m.it.kc] 52)).heap[wr.heap.size]? from ((new_below w8 (.cells #[.int .u64 m2.v.ts, .int .u64 m2.v.tx, .bool m2.v.dd, .slice m2.va m2.vn m2.vc, .slice m2.ka m2.kn m2.kc] 36)).block _ (Nat.lt_of_lt_of_le (by simp) hb8.size)).trans (hb8.block _ (by simp)))); have h3 := HRc.out 3 _ rfl; have h4 := HRc.out 4 _ rfl; have h5 := HRc.out 5 _ rfl; obtain ⟨e0, e1, e2, e3, e4⟩ := (bxV_new w8 m2 _ rfl).x; obtain ⟨z8, hz8⟩ : ∃ z8, (atC (turned st a1 a2) m.key a2).isSome = z8 := ⟨_, rfl⟩; rw [hz8]; clear hz8; clear hm2 hft hb8))
          go_roundg (sn - (i + 1))
          case measure => omega
          case rel => exact ⟨i + 1, rfl, by go_num, by omega, Hbr.out.trans (HB8.out.mono Hbr.out.size)⟩
      · have hlt' : ¬ (i : Int) < (sn : Int) := by omega
        go_wp2
        go_ret
        exact ⟨rfl, HB7.out.trans (Hbr.out.mono HB7.out.size)⟩

set_option maxRecDepth 100000 in
theorem lifted (os : Os) (started : os.Started) (H : Type) (enc : TypeId × Value → H) :
    ReturnsInHanded {} Try.checked os 6 .any (Rows.mvccTurnsSpec.pre6 enc Try.prog Try.f6 Rows.mvccTurnsRow.domain false) (Rows.mvccTurnsSpec.post enc Try.prog Try.f6 false true false false) := by
  refine returnsInHanded_of_change_sized (C := Try.checked) own started (by kernel_rfl) Try.func6
    (ChangeSpec.witness6 (enc := enc) (C := Try.checked) false ⟨#[], #[.slice none 0 0, .int .u64 0, .int .u64 0], []⟩ 8 (by kernel_rfl) (by kernel_rfl) (by kernel_rfl) (by kernel_rfl)) ?_
  intro W base args ds gs before hval0 hW hcnd hsz0 _
  have hval : ∀ (j : Nat) t v, Try.f6.params[j]? = some t → args[j]? = some v → Value.okWide Try.prog W .any base t v := hval0
  have hW' := hW
  obtain ⟨p, q, hA0, hV, rfl, hfz, hnd⟩ := hW
  have hA : DataW.TrodAll enc Try.prog W 0 (fun _ => true) true Try.f6.params.toList args.toList ds p := hA0
  have hsz : (DataW.weightsEach Try.prog (Try.f6.params.toList ++ Rows.mvccTurnsSpec.plain.varTypes Try.prog) (ds ++ gs)).all (fun x => decide (x ≤ reachBytes)) = true := hsz0
  rw [Try.params6] at hA hval hsz
  obtain ⟨v0, vs0, d0, ds0, p0, q0, hargs, rfl, rfl, h0, r0⟩ := trodAll_cons hA
  obtain ⟨v1, vs1, d1, ds1, p1, q1, rfl, rfl, rfl, h1, r1⟩ := trodAll_cons r0
  obtain ⟨v2, vs2, d2, ds2, p2, q2, rfl, rfl, rfl, h2, r2⟩ := trodAll_cons r1
  obtain ⟨rfl, rfl, rfl⟩ := trodAll_nil r2
  obtain rfl : args = #[v0, v1, v2] := by cases args; simp_all
  obtain ⟨rfl, rfl⟩ := trodVars_none hV
  obtain ⟨a0, len0, cap0, rfl⟩ := okWide_slice Try.underlying22 (hval 0 22 v0 rfl rfl)
  have k0 := h0
  have lt0 : ∀ x ∈ p0, x.block < W.heap.size := by obtain ⟨m, hm⟩ := k0; exact DataW.trod_lt m _ _ _ hm
  obtain ⟨x0, w0⟩ : ∃ xs, IsDeeds12 W a0 len0 cap0 xs := by
    obtain ⟨fuel, hf⟩ := h0
    exact open_deeds12 (by simpa [Value.cells] using hf) (fun n hn => by have := List.all_eq_true.1 hsz n (DataW.weights_mem_each (j := 0) (t := 22) (d := d0) rfl rfl n hn); simpa using this)
  have k1 := h1
  have lt1 : ∀ x ∈ p1, x.block < W.heap.size := by obtain ⟨m, hm⟩ := k1; exact DataW.trod_lt m _ _ _ hm
  obtain ⟨a1, rfl, w1⟩ : ∃ n, v1 = .int .u64 n ∧ (Lit.int .u64 n).wf = true := by
    obtain ⟨n, hn, _, _, hw⟩ := open_int Try.underlying24 (hval 1 24 v1 rfl rfl) h1
    exact ⟨n, hn, hw⟩
  have k2 := h2
  have lt2 : ∀ x ∈ p2, x.block < W.heap.size := by obtain ⟨m, hm⟩ := k2; exact DataW.trod_lt m _ _ _ hm
  obtain ⟨a2, rfl, w2⟩ : ∃ n, v2 = .int .u64 n ∧ (Lit.int .u64 n).wf = true := by
    obtain ⟨n, hn, _, _, hw⟩ := open_int Try.underlying24 (hval 2 24 v2 rfl rfl) h2
    exact ⟨n, hn, hw⟩
  clear hA0 hval0
  refine (walk a0 len0 cap0 x0 a1 a2 W w0 w1 w2).mono fun e W' ⟨he, bel⟩ => ?_
  subst he
  exact ⟨_, rfl, _, _, _, [], _, [], hW', trodAll_mk1 (shut_bool Try.underlying4 _), (trodAll_cons_mk (Below.trod laidOut (by kernel_rfl) (of_decide_eq_true (by kernel_rfl)) k0 bel lt0) (trodAll_cons_mk (Below.trod laidOut (by kernel_rfl) (of_decide_eq_true (by kernel_rfl)) k1 bel lt1) (trodAll_cons_mk (Below.trod laidOut (by kernel_rfl) (of_decide_eq_true (by kernel_rfl)) k2 bel lt2) trodAll_mk0))), rfl, bel.frame _, fun h => by cases h⟩

theorem over : Rows.mvccTurnsRow.holds Try.pinned (OpenSpec.ofChange Rows.mvccTurnsSpec) :=
  OpenClaim.holds_of_wide 6 Try.f6 rfl rfl rfl rfl rfl rfl rfl ⟨rfl, rfl, rfl, rfl, rfl⟩ rfl rfl rfl rfl rfl (by kernel_rfl) Try.func6 (by kernel_rfl)
    (of_decide_eq_true (by kernel_rfl)) (by unfold Func.isWrapper; first | (rw [if_pos (by decide +kernel)]; kernel_rfl) | (rw [if_neg (by decide +kernel)]; exact ⟨rfl, rfl⟩))
    (fun os started H enc _ => lifted os started H enc)

theorem proved : Rows.MvccTurnsSaid := over
end Go.Proofs.Ytfldiapdfpkdaaa.mvccTurns
namespace Go.Proofs.Ytfldiapdfpkdaaa
theorem mvccTurns_holds : Rows.MvccTurnsSaid := mvccTurns.proved
#print axioms mvccTurns_holds
end Go.Proofs.Ytfldiapdfpkdaaa
