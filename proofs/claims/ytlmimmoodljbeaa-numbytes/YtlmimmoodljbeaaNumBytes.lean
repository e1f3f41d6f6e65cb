/- For any uint64, any size, any bytes, any int64 and any count of bits plenumlaw01.NumBytes returns true (of more than 100 bytes the law itself asks nothing): num.Put, num.Of and num.Fits answer just as the document's reference does, num.Of turns num.Put of eight bytes back, and the bytes handed in are left as they were. No condition. -/
import Derived.Test.YtlmimmoodljbeaaRows
import Derived.WalkKit
import Derived.ProofKit
import Derived.OpenShut
import Derived.ShutString
import Derived.ChangeOld
import Derived.Below
import Derived.Test.YtlmimmoodljbeaaNumSlices
import Derived.Deep.RegionWith
namespace Go.Proofs.Ytlmimmoodljbeaa.numBytes
open Go.ChangeShapes Go.WideShapes Go.ChangeAt Go.RowKit
open Go.ChangeMaps (open_string shut_string)
set_option linter.unusedVariables false

theorem own : ownKnob Try.prog.godebug = none := by kernel_rfl
theorem laidOut : laidOutB Try.prog = true := by kernel_rfl

/-- WHAT THE WALK IS TOLD OF A SLICE OF INTEGERS THAT CAME IN: it is nil; or it leads to a row of 'cap' cells, the numbers 'zs' (the first 'len' are its elements, the rest its spare room), each fitting its kind. -/
def IsRow (k : IntKind) (w : World) (a : Option Addr) (len cap : Nat) (zs : List Int) : Prop :=
  (a = none ∧ len = 0 ∧ cap = 0 ∧ zs = []) ∨
  ∃ x, a = some x ∧ len ≤ cap ∧ cap ≤ maxLen ∧ zs.length = cap ∧ (∀ i, i < zs.length → w.cell? (x.add i) = some (.int k (zs.getD i 0))) ∧ ∀ n ∈ zs, (Lit.int k n).wf = true

open NumMath

theorem IsRow.keep {k : IntKind} {w w' : World} {a : Option Addr} {len cap : Nat} {zs : List Int} (h : IsRow k w a len cap zs) (hb : Below w.heap.size w w') : IsRow k w' a len cap zs := by
  rcases h with h | ⟨x, hx, hl, hm, hz, hc, hw⟩
  · exact .inl h
  · exact .inr ⟨x, hx, hl, hm, hz, fun i hi => cell_later hb (hc i hi), hw⟩

theorem wf_u8 {n : Int} (h : (Lit.int .u8 n).wf = true) : 0 ≤ n ∧ n < 256 := by
  simp [Lit.wf, IntKind.min, IntKind.max, IntKind.signed, IntKind.bits] at h
  omega

theorem take_range {zs : List Int} (h : ∀ n ∈ zs, (Lit.int .u8 n).wf = true) (len : Nat) : ∀ c ∈ zs.take len, 0 ≤ c ∧ c < 256 :=
  fun c hc => wf_u8 (h c (List.mem_of_mem_take hc))

theorem ofb_any (a : Option Addr) (len cap : Nat) (zs : List Int) (w : World) (h : IsRow .u8 w a len cap zs) :
    Calls Try.prog 30 #[.slice a len cap] w fun e w' => e = .returned (.int .u64 (ofV (zs.take len))) ∧ w' = w := by
  by_cases h0 : len = 0
  · subst h0
    have hm : cap ≤ maxLen := by
      rcases h with ⟨_, _, rfl, _⟩ | ⟨x, hx, hl, hm, hz, hc, hw⟩
      · exact Nat.zero_le _
      · exact hm
    exact of_empty a cap w hm
  · rcases h with ⟨_, h1, _, _⟩ | ⟨x, rfl, hl, hm, hz, hc, hw⟩
    · exact absurd h1 h0
    · obtain ⟨b, off, rfl, hcc⟩ := ints_at hc (by omega)
      have ht : (zs.take len).length = len := by rw [List.length_take]; omega
      exact of_row b off len cap (zs.take len) w ht hl hm (fun i hi => by
        rw [hcc i (by omega)]
        simp [List.getD, hi]) (take_range hw len)

theorem rofb_any (a : Option Addr) (len cap : Nat) (zs : List Int) (w : World) (h : IsRow .u8 w a len cap zs) :
    Calls Try.prog 31 #[.slice a len cap] w fun e w' => e = .returned (.int .u64 (ofV (zs.take len))) ∧ w' = w := by
  by_cases h0 : len = 0
  · subst h0
    have hm : cap ≤ maxLen := by
      rcases h with ⟨_, _, rfl, _⟩ | ⟨x, hx, hl, hm, hz, hc, hw⟩
      · exact Nat.zero_le _
      · exact hm
    exact rof_empty a cap w hm
  · rcases h with ⟨_, h1, _, _⟩ | ⟨x, rfl, hl, hm, hz, hc, hw⟩
    · exact absurd h1 h0
    · obtain ⟨b, off, rfl, hcc⟩ := ints_at hc (by omega)
      have ht : (zs.take len).length = len := by rw [List.length_take]; omega
      exact rof_row b off len cap (zs.take len) w ht hl hm (fun i hi => by
        rw [hcc i (by omega)]
        simp [List.getD, hi]) (take_range hw len)

theorem ofp_any (g : Nat) (u : Int) (w : World) (h : Bytes w g (putL u 8)) (h1 : 0 ≤ u) (h2 : u ≤ 18446744073709551615) :
    Calls Try.prog 30 #[.slice (some ⟨g, 0, none⟩) 8 8] w fun e w' => e = .returned (.int .u64 u) ∧ w' = w := by
  have hs := of_small g 0 8 8 (putL u 8) w (putL_length _ _) (by decide) (by unfold maxLen; decide) (by decide) (fun i hi => by rw [Nat.zero_add]; exact h i (by rw [putL_length]; exact hi)) (putL_range u 8)
  rw [ofV_put8 u h1 h2] at hs
  exact hs

set_option maxHeartbeats 8000000 in
theorem walk (a0 : Int) (a1 : Int) (a2 : Option Addr) (len2 cap2 : Nat) (z2 : List Int) (a3 : Int) (a4 : Int) (w : World) (w0 : (Lit.int .u64 a0).wf = true) (w1 : (Lit.int .i64 a1).wf = true) (w2 : IsRow .u8 w a2 len2 cap2 z2) (w3 : (Lit.int .i64 a3).wf = true) (w4 : (Lit.int .i64 a4).wf = true) :
    Calls Try.prog 8 #[.int .u64 a0, .int .i64 a1, .slice a2 len2 cap2, .int .i64 a3, .int .i64 a4] w fun e w' => e = .returned (.bool true) ∧ Below w.heap.size w w' := by
  obtain ⟨u1, u2⟩ := wf_u64 w0
  obtain ⟨n1, n2⟩ := wf_i64 w3
  have HR : Hid (IsRow .u8 w a2 len2 cap2 z2) := w2
  have hlen : len2 ≤ 9223372036854775807 := by
    rcases w2 with ⟨_, rfl, _, _⟩ | ⟨x, hx, hl, hm, hz, hc, hw⟩
    · exact Nat.zero_le _
    · unfold maxLen at hm; omega
  clear w0 w1 w2 w3 w4
  by_cases h100 : 100 < len2
  · have h100' : (100 : Int) < (len2 : Int) := by omega
    go_enter Try.func8, Try.ntmps8
    go_wp2_with (go_at_call 9; refine (awake_any _).mono ?_; rintro e w' ⟨rfl, rfl⟩)
    go_ret
    exact ⟨rfl, Below.refl _ _⟩
  · have h100' : ¬ (100 : Int) < (len2 : Int) := by omega
    go_enter Try.func8, Try.ntmps8
    go_wp2_with (go_at_call 9; refine (awake_any _).mono ?_; rintro e w' ⟨rfl, hw⟩; have hw := hw.symm; subst hw)
    go_region_with (first
      | (go_at_call_of 28 a1; refine (put_all a0 a1 _ u1 u2).mono ?_; rintro e w1 ⟨v1, rfl, hH1, hb1⟩; have q1 := hH1.conv)
      | (go_at_call 29; go_must (refine (rput_all a0 a1 _ u1 u2).mono ?_; rintro e w2 ⟨v2, rfl, hH2, hb2⟩; have q2 := hH2.conv; have q3 := (hH1.keep hb2).conv; have hb12 : Below w.heap.size w w2 := (below_undrew hb1).trans (hb2.mono hb1.size); have HR2 := hide (HR.out.keep hb12)))
      | (go_at_call_of 30 len2; refine (ofb_any a2 len2 cap2 z2 _ ?_).mono ?_; exact HR2.out; rintro e w' ⟨rfl, hw⟩; have hw := hw.symm; subst hw)
      | (go_at_call_of 31 len2; refine (rofb_any a2 len2 cap2 z2 _ ?_).mono ?_; exact HR2.out; rintro e w' ⟨rfl, hw⟩; have hw := hw.symm; subst hw)
      | (go_at_call 28; refine (put_new8 a0 _ u1 u2).mono ?_; rintro e w3 ⟨g3, rfl, hg3, hl3, hB3, hb3, hG3⟩)
      | (go_at_call 30; refine (ofp_any g3 a0 _ ?_ u1 u2).mono ?_; exact hB3; rintro e w' ⟨rfl, hw⟩; have hw := hw.symm; subst hw)
      | (go_at_call 32; refine (fits_all a3 a4 _ n1 n2).mono ?_; rintro e w' ⟨rfl, hw⟩; have hw := hw.symm; subst hw)
      | (go_at_call 33; refine (rfits_all a3 a4 _ n1 n2).mono ?_; rintro e w' ⟨rfl, hw⟩; have hw := hw.symm; subst hw))
    all_goals
      go_wp2
      go_ret
      exact ⟨rfl, hb12.trans (hb3.mono hb12.size)⟩

set_option maxRecDepth 100000 in
theorem lifted (os : Os) (started : os.Started) (H : Type) (enc : TypeId × Value → H) :
    ReturnsInHanded {} Try.checked os 8 .any (Rows.numBytesSpec.pre6 enc Try.prog Try.f8 Rows.numBytesRow.domain false) (Rows.numBytesSpec.post enc Try.prog Try.f8 false true false false) := by
  refine returnsInHanded_of_change (C := Try.checked) own started (by kernel_rfl) Try.func8
    (ChangeSpec.witness6 (enc := enc) (C := Try.checked) false ⟨#[], #[.int .u64 0, .int .i64 0, .slice none 0 0, .int .i64 0, .int .i64 0], []⟩ 8 (by kernel_rfl) (by kernel_rfl) (by kernel_rfl) (by kernel_rfl)) ?_
  intro W base args ds gs before hval0 hW hcnd _
  have hval : ∀ (j : Nat) t v, Try.f8.params[j]? = some t → args[j]? = some v → Value.okWide Try.prog W .any base t v := hval0
  have hW' := hW
  obtain ⟨p, q, hA0, hV, rfl, hfz, hnd⟩ := hW
  have hA : DataW.TrodAll enc Try.prog W 0 (fun _ => true) true Try.f8.params.toList args.toList ds p := hA0
  rw [Try.params8] at hA hval
  obtain ⟨v0, vs0, d0, ds0, p0, q0, hargs, rfl, rfl, h0, r0⟩ := trodAll_cons hA
  obtain ⟨v1, vs1, d1, ds1, p1, q1, rfl, rfl, rfl, h1, r1⟩ := trodAll_cons r0
  obtain ⟨v2, vs2, d2, ds2, p2, q2, rfl, rfl, rfl, h2, r2⟩ := trodAll_cons r1
  obtain ⟨v3, vs3, d3, ds3, p3, q3, rfl, rfl, rfl, h3, r3⟩ := trodAll_cons r2
  obtain ⟨v4, vs4, d4, ds4, p4, q4, rfl, rfl, rfl, h4, r4⟩ := trodAll_cons r3
  obtain ⟨rfl, rfl, rfl⟩ := trodAll_nil r4
  obtain rfl : args = #[v0, v1, v2, v3, v4] := by cases args; simp_all
  obtain ⟨rfl, rfl⟩ := trodVars_none hV
  obtain ⟨a0, rfl, rfl, rfl, w0⟩ := open_int Try.underlying27 (hval 0 27 v0 rfl rfl) h0
  obtain ⟨a1, rfl, rfl, rfl, w1⟩ := open_int Try.underlying3 (hval 1 3 v1 rfl rfl) h1
  obtain ⟨a2, len2, cap2, rfl⟩ := okWide_slice Try.underlying30 (hval 2 30 v2 rfl rfl)
  have k2 := h2
  have lt2 : ∀ x ∈ p2, x.block < W.heap.size := by obtain ⟨m, hm⟩ := k2; exact DataW.trod_lt m _ _ _ hm
  obtain ⟨z2, w2⟩ : ∃ zs, IsRow .u8 W a2 len2 cap2 zs := by
    obtain ⟨fuel, hf⟩ := h2
    rcases open_ints Try.underlying30 Try.underlying5 (by kernel_rfl) hf with ⟨hcs, _⟩ | ⟨x, l, c, zs, hcs, _, hl, hm, hz, _, hcell, hwz⟩
    · simp [Value.cells] at hcs
      obtain ⟨rfl, rfl, rfl⟩ := hcs
      exact ⟨[], .inl ⟨rfl, rfl, rfl, rfl⟩⟩
    · simp [Value.cells] at hcs
      obtain ⟨rfl, rfl, rfl⟩ := hcs
      exact ⟨zs, .inr ⟨_, rfl, hl, hm, by simpa using hz, hcell, hwz⟩⟩
  obtain ⟨a3, rfl, rfl, rfl, w3⟩ := open_int Try.underlying2 (hval 3 2 v3 rfl rfl) h3
  obtain ⟨a4, rfl, rfl, rfl, w4⟩ := open_int Try.underlying3 (hval 4 3 v4 rfl rfl) h4
  clear hA0 hval0
  refine (walk a0 a1 a2 len2 cap2 z2 a3 a4 W w0 w1 w2 w3 w4).mono fun e W' ⟨he, bel⟩ => ?_
  subst he
  exact ⟨_, rfl, _, _, _, [], _, [], hW', trodAll_mk1 (shut_bool Try.underlying4 _), (trodAll_cons_mk (shut_int Try.underlying27 w0) (trodAll_cons_mk (shut_int Try.underlying3 w1) (trodAll_cons_mk (Below.trod laidOut (by kernel_rfl) (of_decide_eq_true (by kernel_rfl)) k2 bel lt2) (trodAll_cons_mk (shut_int Try.underlying2 w3) (trodAll_cons_mk (shut_int Try.underlying3 w4) trodAll_mk0))))), rfl, bel.frame _, fun h => by cases h⟩

theorem over : Rows.numBytesRow.holds Try.pinned (OpenSpec.ofChange Rows.numBytesSpec) :=
  OpenClaim.holds_of_wide 8 Try.f8 rfl rfl rfl rfl rfl rfl rfl ⟨rfl, rfl, rfl, rfl, rfl⟩ rfl rfl rfl rfl rfl (by kernel_rfl) Try.func8 (by kernel_rfl)
    (of_decide_eq_true (by kernel_rfl)) (by unfold Func.isWrapper; first | (rw [if_pos (by decide +kernel)]; kernel_rfl) | (rw [if_neg (by decide +kernel)]; exact ⟨rfl, rfl⟩))
    (fun os started H enc _ => lifted os started H enc)

theorem proved : Rows.NumBytesSaid := over
end Go.Proofs.Ytlmimmoodljbeaa.numBytes
namespace Go.Proofs.Ytlmimmoodljbeaa
theorem numBytes_holds : Rows.NumBytesSaid := numBytes.proved
#print axioms numBytes_holds
end Go.Proofs.Ytlmimmoodljbeaa
