/- RaftNone: for every input: at a node that nobody made each call does nothing: no message, no record, nothing committed, ErrRange. No condition. -/
import Derived.Test.YtfojpengdpnigaaGreatRows
import Derived.WalkKit
import Derived.ProofKit
import Derived.OpenShut
import Derived.ShutString
import Derived.ChangeOld
import Derived.Below
import Derived.Test.YtfojpengdpnigaaGreatAw9
import Derived.Test.YtfojpengdpnigaaGreatSm9
import Derived.Test.YtfojpengdpnigaaGreatNil9
import Derived.Test.YtfojpengdpnigaaGreatInA
namespace Go.Proofs.YtfojpengdpnigaaGreat.raftNone
open Go.ChangeShapes Go.WideShapes Go.ChangeAt Go.RowKit
open Go.ChangeMaps (open_string shut_string)
set_option linter.unusedVariables false

theorem own : ownKnob Tryz.prog.godebug = none := by kernel_rfl
theorem laidOut : laidOutB Tryz.prog = true := by kernel_rfl

theorem isInps_one {W : World} {g : Nat} (y : MInp) (h : Box19 W g y) (hg : g < W.heap.size) (hok : y.ok W) : IsInps W (some ⟨g, 0, none⟩) 1 1 [y] :=
  ⟨rfl, Nat.le_refl _, by decide, by simpa using hok, .inr ⟨g, 0, rfl, hg, fun i hi => by
    have e : i = 0 := by simpa using hi
    subst e
    exact h⟩⟩
set_option maxRecDepth 100000
set_option maxHeartbeats 8000000
theorem walk (y0 : MInp) (w : World) (w0 : y0.ok w) :
    Calls Tryz.prog 5 #[.agg #[.int .i64 y0.k, .int .u64 y0.dr, .int .i64 y0.m.k, .int .u64 y0.m.fr, .int .u64 y0.m.tt, .int .u64 y0.m.tm, .int .u64 y0.m.ix, .int .u64 y0.m.lt, .int .u64 y0.m.cm, .int .u64 y0.m.hn, .bool y0.m.rj, .slice y0.m.ea y0.m.en y0.m.ec, .int .u64 y0.m.si, .int .u64 y0.m.st, .slice y0.m.ma y0.m.mn y0.m.mc, .slice y0.m.sa y0.m.sn y0.m.sc, .slice y0.da y0.dn y0.dc, .slice y0.ba y0.bn y0.bc, .int .u64 y0.i]] w fun e w' => e = .returned (.bool true) ∧ Below w.heap.size w w' := by
  have HOk := hide w0
  have HX0 := hide (box19_new w y0 w.heap.size 51 #[.int .i64 y0.k, .int .u64 y0.dr, .int .i64 y0.m.k, .int .u64 y0.m.fr, .int .u64 y0.m.tt, .int .u64 y0.m.tm, .int .u64 y0.m.ix, .int .u64 y0.m.lt, .int .u64 y0.m.cm, .int .u64 y0.m.hn, .bool y0.m.rj, .slice y0.m.ea y0.m.en y0.m.ec, .int .u64 y0.m.si, .int .u64 y0.m.st, .slice y0.m.ma y0.m.mn y0.m.mc, .slice y0.m.sa y0.m.sn y0.m.sc, .slice y0.da y0.dn y0.dc, .slice y0.ba y0.bn y0.bc, .int .u64 y0.i] rfl rfl)
  clear w0
  go_enter Tryz.func5, Tryz.ntmps5
  go_wp2_with (first
    | (go_at_call 30; have hchk := HX11.out; clear hchk; go_must (refine (committed_nil _).mono ?_); rintro e w12 ⟨rfl, hb12⟩; have HX12 := hide (HX11.out.keep hb12 (HL11.out)); have HL12 := hide (show w.heap.size < w12.heap.size from Nat.lt_of_lt_of_le HL11.out hb12.size); have HB12 := hide (HB11.out.trans (hb12.mono HB11.out.size)); clear hb12)
    | (go_at_call 29; have hchk := HX10.out; clear hchk; go_must (refine (outbox_nil _).mono ?_); rintro e w11 ⟨rfl, hb11⟩; have HX11 := hide (HX10.out.keep hb11 (HL10.out)); have HL11 := hide (show w.heap.size < w11.heap.size from Nat.lt_of_lt_of_le HL10.out hb11.size); have HB11 := hide (HB10.out.trans (hb11.mono HB10.out.size)); clear hb11)
    | (go_at_call 28; have hchk := HX9.out; clear hchk; go_must (refine (records_nil _).mono ?_); rintro e w10 ⟨rfl, hb10⟩; have HX10 := hide (HX9.out.keep hb10 (HL9.out)); have HL10 := hide (show w.heap.size < w10.heap.size from Nat.lt_of_lt_of_le HL9.out hb10.size); have HB10 := hide (HB9.out.trans (hb10.mono HB9.out.size)); clear hb10)
    | (go_at_call 27; have hchk := HX8.out; clear hchk; go_must (refine (compact_nil _ none 0 0 _).mono ?_); rintro e w9 ⟨rfl, hb9⟩; have HX9 := hide (HX8.out.keep hb9 (HL8.out)); have HL9 := hide (show w.heap.size < w9.heap.size from Nat.lt_of_lt_of_le HL8.out hb9.size); have HB9 := hide (HB8.out.trans (hb9.mono HB8.out.size)); clear hb9)
    | (go_at_call 21; have hchk := HX7.out; clear hchk; go_must (refine (state_nil _).mono ?_); rintro e w8 ⟨rfl, hb8⟩; have HX8 := hide (HX7.out.keep hb8 (HL7.out)); have HL8 := hide (show w.heap.size < w8.heap.size from Nat.lt_of_lt_of_le HL7.out hb8.size); have HB8 := hide (HB7.out.trans (hb8.mono HB7.out.size)); obtain ⟨-, -, -, -, -, -, -, -, -, -, -, b8_18⟩ := HX8.out.d; clear hb8)
    | (go_at_call 26; have hchk := HX6.out; clear hchk; go_must (refine (restored_nil _).mono ?_); rintro e w7a ⟨rfl, hb7⟩; have HX7a := hide (HX6.out.keep hb7 HL6.out); have HL7a := hide (show w.heap.size < w7a.heap.size from Nat.lt_of_lt_of_le HL6.out hb7.size); have HB7a := hide (HB6.out.trans (hb7.mono HB6.out.size)); have HX7 := hide (HX7a.out.keep (new_below w7a (.cells #[.int .u64 0, .int .u64 0, .slice none 0 0, .slice none 0 0] 28)) HL7a.out); have HL7 := hide (show w.heap.size < (w7a.alloc (.cells #[.int .u64 0, .int .u64 0, .slice none 0 0, .slice none 0 0] 28)).heap.size from by have := HL7a.out; simp; omega); have HB7 := hide (HB7a.out.alloc HB7a.out.size (.cells #[.int .u64 0, .int .u64 0, .slice none 0 0, .slice none 0 0] 28)); clear hb7)
    | (go_at_call 25; have hchk := HX5.out; clear hchk; go_must (refine (change_nil _ _ _ _).mono ?_); rintro e w6 ⟨rfl, hb6⟩; have HX6 := hide (HX5.out.keep hb6 (HL5.out)); have HL6 := hide (show w.heap.size < w6.heap.size from Nat.lt_of_lt_of_le HL5.out hb6.size); have HB6 := hide (HB5.out.trans (hb6.mono HB5.out.size)); clear hb6)
    | (go_at_call 24; have hchk := HX4.out; clear hchk; go_must (refine (propose_nil _ _ _ _).mono ?_); rintro e w5 ⟨rfl, hb5⟩; have HX5 := hide (HX4.out.keep hb5 (HL4.out)); have HL5 := hide (show w.heap.size < w5.heap.size from Nat.lt_of_lt_of_le HL4.out hb5.size); have HB5 := hide (HB4.out.trans (hb5.mono HB4.out.size)); obtain ⟨-, -, -, -, -, -, b5_17⟩ := HX5.out.c; clear hb5)
    | (go_at_call 23; have hchk := HX3.out; clear hchk; go_must (refine (step_nil _ _ _ _ _ _ _ _ _ _ _ _ _ _ _ _ _ _ _ _ _).mono ?_); rintro e w4 ⟨rfl, hb4⟩; have HX4 := hide (HX3.out.keep hb4 (HL3.out)); have HL4 := hide (show w.heap.size < w4.heap.size from Nat.lt_of_lt_of_le HL3.out hb4.size); have HB4 := hide (HB3.out.trans (hb4.mono HB3.out.size)); obtain ⟨-, -, -, -, -, b4_16, -⟩ := HX4.out.c; clear hb4)
    | (go_at_call 22; have hchk := HX2.out; clear hchk; go_must (refine (tick_nil _ _).mono ?_); rintro e w3 ⟨rfl, hb3⟩; have HX3 := hide (HX2.out.keep hb3 (HL2.out)); have HL3 := hide (show w.heap.size < w3.heap.size from Nat.lt_of_lt_of_le HL2.out hb3.size); have HB3 := hide (HB2.out.trans (hb3.mono HB2.out.size)); obtain ⟨-, -, b3_2, b3_3, b3_4, b3_5, b3_6, b3_7, b3_8, b3_9, b3_10, -⟩ := HX3.out.d; obtain ⟨b3_11, b3_12, b3_13, b3_14, b3_15, -, -⟩ := HX3.out.c; clear hb3)
    | (go_at_call 8; go_must (refine (small9_any (some ⟨w1.heap.size, 0, none⟩) 1 1 [y0] _ (isInps_one y0 HX1b.out HLb.out (HOk.out.keep HBk.out))).mono ?_); rintro e w2 ⟨b, rfl, hs2, hb2⟩; have HX2 := hide ((HX1.out.keep (new_below w1 (.cells #[.int .i64 y0.k, .int .u64 y0.dr, .int .i64 y0.m.k, .int .u64 y0.m.fr, .int .u64 y0.m.tt, .int .u64 y0.m.tm, .int .u64 y0.m.ix, .int .u64 y0.m.lt, .int .u64 y0.m.cm, .int .u64 y0.m.hn, .bool y0.m.rj, .slice y0.m.ea y0.m.en y0.m.ec, .int .u64 y0.m.si, .int .u64 y0.m.st, .slice y0.m.ma y0.m.mn y0.m.mc, .slice y0.m.sa y0.m.sn y0.m.sc, .slice y0.da y0.dn y0.dc, .slice y0.ba y0.bn y0.bc, .int .u64 y0.i] 51)) HL1.out).keep hb2 (by have := HL1.out; simp; omega)); have HL2 := hide (show w.heap.size < w2.heap.size from by have := hb2.size; have := HL1.out; simp at *; omega); have HB2 := hide ((HB1.out.alloc HB1.out.size (.cells #[.int .i64 y0.k, .int .u64 y0.dr, .int .i64 y0.m.k, .int .u64 y0.m.fr, .int .u64 y0.m.tt, .int .u64 y0.m.tm, .int .u64 y0.m.ix, .int .u64 y0.m.lt, .int .u64 y0.m.cm, .int .u64 y0.m.hn, .bool y0.m.rj, .slice y0.m.ea y0.m.en y0.m.ec, .int .u64 y0.m.si, .int .u64 y0.m.st, .slice y0.m.ma y0.m.mn y0.m.mc, .slice y0.m.sa y0.m.sn y0.m.sc, .slice y0.da y0.dn y0.dc, .slice y0.ba y0.bn y0.bc, .int .u64 y0.i] 51)).trans (hb2.mono (by have := HB1.out.size; simp; omega))); obtain ⟨-, b2_1, -, -, -, -, -, -, -, -, -, -⟩ := HX2.out.d; clear hs2 hb2; cases b)
    | (go_at_call 7; go_must (refine (awake9_any _).mono ?_); rintro e w1 ⟨rfl, hb1⟩; have HX1 := hide (HX0.out.keep hb1 (by simp)); have HL1 := hide (show w.heap.size < w1.heap.size from by have := hb1.size; simp at this; omega); have HB1 := hide ((new_below w (.cells #[.int .i64 y0.k, .int .u64 y0.dr, .int .i64 y0.m.k, .int .u64 y0.m.fr, .int .u64 y0.m.tt, .int .u64 y0.m.tm, .int .u64 y0.m.ix, .int .u64 y0.m.lt, .int .u64 y0.m.cm, .int .u64 y0.m.hn, .bool y0.m.rj, .slice y0.m.ea y0.m.en y0.m.ec, .int .u64 y0.m.si, .int .u64 y0.m.st, .slice y0.m.ma y0.m.mn y0.m.mc, .slice y0.m.sa y0.m.sn y0.m.sc, .slice y0.da y0.dn y0.dc, .slice y0.ba y0.bn y0.bc, .int .u64 y0.i] 51)).trans (hb1.mono (by simp))); have HX1b := hide (box19_new w1 y0 w1.heap.size 51 #[.int .i64 y0.k, .int .u64 y0.dr, .int .i64 y0.m.k, .int .u64 y0.m.fr, .int .u64 y0.m.tt, .int .u64 y0.m.tm, .int .u64 y0.m.ix, .int .u64 y0.m.lt, .int .u64 y0.m.cm, .int .u64 y0.m.hn, .bool y0.m.rj, .slice y0.m.ea y0.m.en y0.m.ec, .int .u64 y0.m.si, .int .u64 y0.m.st, .slice y0.m.ma y0.m.mn y0.m.mc, .slice y0.m.sa y0.m.sn y0.m.sc, .slice y0.da y0.dn y0.dc, .slice y0.ba y0.bn y0.bc, .int .u64 y0.i] rfl rfl); have HLb := hide (show w1.heap.size < (w1.alloc (.cells #[.int .i64 y0.k, .int .u64 y0.dr, .int .i64 y0.m.k, .int .u64 y0.m.fr, .int .u64 y0.m.tt, .int .u64 y0.m.tm, .int .u64 y0.m.ix, .int .u64 y0.m.lt, .int .u64 y0.m.cm, .int .u64 y0.m.hn, .bool y0.m.rj, .slice y0.m.ea y0.m.en y0.m.ec, .int .u64 y0.m.si, .int .u64 y0.m.st, .slice y0.m.ma y0.m.mn y0.m.mc, .slice y0.m.sa y0.m.sn y0.m.sc, .slice y0.da y0.dn y0.dc, .slice y0.ba y0.bn y0.bc, .int .u64 y0.i] 51)).heap.size from by simp); have HBk := hide (HB1.out.alloc HB1.out.size (.cells #[.int .i64 y0.k, .int .u64 y0.dr, .int .i64 y0.m.k, .int .u64 y0.m.fr, .int .u64 y0.m.tt, .int .u64 y0.m.tm, .int .u64 y0.m.ix, .int .u64 y0.m.lt, .int .u64 y0.m.cm, .int .u64 y0.m.hn, .bool y0.m.rj, .slice y0.m.ea y0.m.en y0.m.ec, .int .u64 y0.m.si, .int .u64 y0.m.st, .slice y0.m.ma y0.m.mn y0.m.mc, .slice y0.m.sa y0.m.sn y0.m.sc, .slice y0.da y0.dn y0.dc, .slice y0.ba y0.bn y0.bc, .int .u64 y0.i] 51)); clear hb1)
    | (refine wp_load19 _ rfl (.tmp 1) rfl w.heap.size 0 rfl y0 #[.int .i64 y0.k, .int .u64 y0.dr, .int .i64 y0.m.k, .int .u64 y0.m.fr, .int .u64 y0.m.tt, .int .u64 y0.m.tm, .int .u64 y0.m.ix, .int .u64 y0.m.lt, .int .u64 y0.m.cm, .int .u64 y0.m.hn, .bool y0.m.rj, .slice y0.m.ea y0.m.en y0.m.ec, .int .u64 y0.m.si, .int .u64 y0.m.st, .slice y0.m.ma y0.m.mn y0.m.mc, .slice y0.m.sa y0.m.sn y0.m.sc, .slice y0.da y0.dn y0.dc, .slice y0.ba y0.bn y0.bc, .int .u64 y0.i] rfl HX1.out ?_))
  · go_ret
    exact ⟨rfl, HB2.out⟩
  · go_ret
    exact ⟨rfl, HB12.out⟩

set_option maxRecDepth 100000 in
theorem lifted (os : Os) (started : os.Started) (H : Type) (enc : TypeId × Value → H) :
    ReturnsInHanded {} Tryz.checked os 5 .any (Rows.raftNoneSpec.pre6 enc Tryz.prog Tryz.f5 Rows.raftNoneRow.domain false) (Rows.raftNoneSpec.post enc Tryz.prog Tryz.f5 false true false false) := by
  refine returnsInHanded_of_change (C := Tryz.checked) own started (by kernel_rfl) Tryz.func5
    (ChangeSpec.witness6 (enc := enc) (C := Tryz.checked) false ⟨#[], #[.agg #[.int .i64 0, .int .u64 0, .int .i64 0, .int .u64 0, .int .u64 0, .int .u64 0, .int .u64 0, .int .u64 0, .int .u64 0, .int .u64 0, .bool false, .slice none 0 0, .int .u64 0, .int .u64 0, .slice none 0 0, .slice none 0 0, .slice none 0 0, .slice none 0 0, .int .u64 0]], []⟩ 8 (by kernel_rfl) (by kernel_rfl) (by kernel_rfl) (by kernel_rfl)) ?_
  intro W base args ds gs before hval0 hW hcnd _
  have hval : ∀ (j : Nat) t v, Tryz.f5.params[j]? = some t → args[j]? = some v → Value.okWide Tryz.prog W .any base t v := hval0
  have hW' := hW
  obtain ⟨p, q, hA0, hV, rfl, hfz, hnd⟩ := hW
  have hA : DataW.TrodAll enc Tryz.prog W 0 (fun _ => true) true Tryz.f5.params.toList args.toList ds p := hA0
  rw [Tryz.params5] at hA hval
  obtain ⟨v0, vs0, d0, ds0, p0, q0, hargs, rfl, rfl, h0, r0⟩ := trodAll_cons hA
  obtain ⟨rfl, rfl, rfl⟩ := trodAll_nil r0
  obtain rfl : args = #[v0] := by cases args; simp_all
  obtain ⟨rfl, rfl⟩ := trodVars_none hV
  have k0 := h0
  have lt0 : ∀ x ∈ p0, x.block < W.heap.size := by obtain ⟨m, hm⟩ := k0; exact DataW.trod_lt m _ _ _ hm
  obtain ⟨cs0, rfl, hz0⟩ := okWide_struct Tryz.underlying51 (hval 0 51 v0 rfl rfl)
  obtain ⟨fuel0, hf0⟩ := h0
  obtain ⟨y0, rfl, w0⟩ := open_inp19 (hz0.trans (by kernel_rfl)) (by simpa [Value.cells] using hf0)
  clear hA0 hval0
  refine (walk y0 W w0).mono fun e W' ⟨he, bel⟩ => ?_
  subst he
  exact ⟨_, rfl, _, _, _, [], _, [], hW', trodAll_mk1 (shut_bool Tryz.underlying4 _), (trodAll_cons_mk (Below.trod laidOut (by kernel_rfl) (of_decide_eq_true (by kernel_rfl)) k0 bel lt0) trodAll_mk0), rfl, bel.frame _, fun h => by cases h⟩

theorem over : Rows.raftNoneRow.holds Tryz.pinned (OpenSpec.ofChange Rows.raftNoneSpec) :=
  OpenClaim.holds_of_wide 5 Tryz.f5 rfl rfl rfl rfl rfl rfl rfl ⟨rfl, rfl, rfl, rfl, rfl⟩ rfl rfl rfl rfl rfl (by kernel_rfl) Tryz.func5 (by kernel_rfl)
    (of_decide_eq_true (by kernel_rfl)) (by unfold Func.isWrapper; first | (rw [if_pos (by decide +kernel)]; kernel_rfl) | (rw [if_neg (by decide +kernel)]; exact ⟨rfl, rfl⟩))
    (fun os started H enc _ => lifted os started H enc)

theorem proved : Rows.RaftNoneSaid := over
end Go.Proofs.YtfojpengdpnigaaGreat.raftNone
namespace Go.Proofs.YtfojpengdpnigaaGreat
theorem raftNone_holds : Rows.RaftNoneSaid := raftNone.proved
#print axioms raftNone_holds
end Go.Proofs.YtfojpengdpnigaaGreat
