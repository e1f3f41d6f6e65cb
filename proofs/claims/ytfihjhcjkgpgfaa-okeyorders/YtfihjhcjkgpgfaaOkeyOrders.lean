/- For any two slices of values plenumlaw02.OkeyOrders returns true: okey.Less of each two at the same place, and okey.Cmp of the lists, answer as the document's reference does (of lists that are not few the law itself asks nothing), and the values handed in are left as they were. No condition. -/
import Derived.Test.YtfihjhcjkgpgfaaRows
import Derived.WalkKit
import Derived.ProofKit
import Derived.OpenShut
import Derived.ShutString
import Derived.ChangeOld
import Derived.Below
import Derived.Test.YtfihjhcjkgpgfaaOkeyRcmp
import Derived.Test.YtfihjhcjkgpgfaaOkeyAwake
import Derived.Test.YtfihjhcjkgpgfaaOkeyOpen
import Derived.Deep.RegionHeld3
namespace Go.Proofs.Ytfihjhcjkgpgfaa.okeyOrders
open Go.ChangeShapes Go.WideShapes Go.ChangeAt Go.RowKit
open Go.ChangeMaps (open_string shut_string)
set_option linter.unusedVariables false

theorem own : ownKnob Try.prog.godebug = none := by kernel_rfl
theorem laidOut : laidOutB Try.prog = true := by kernel_rfl

open NumMath

/-- three cells of one value, three of another -/
def Six (g o g' o' : Nat) (a0 a1 a2 b0 b1 b2 : Value) (w : World) : Prop :=
  w.cell? ⟨g, o, none⟩ = some a0 ∧ w.cell? ⟨g, o + 1, none⟩ = some a1 ∧ w.cell? ⟨g, o + 2, none⟩ = some a2 ∧ w.cell? ⟨g', o', none⟩ = some b0 ∧ w.cell? ⟨g', o' + 1, none⟩ = some b1 ∧ w.cell? ⟨g', o' + 2, none⟩ = some b2

theorem Six.later {g o g' o' : Nat} {a0 a1 a2 b0 b1 b2 : Value} {w w' : World} (h : Six g o g' o' a0 a1 a2 b0 b1 b2 w) (hb : Below w.heap.size w w') : Six g o g' o' a0 a1 a2 b0 b1 b2 w' :=
  ⟨cell_later hb h.1, cell_later hb h.2.1, cell_later hb h.2.2.1, cell_later hb h.2.2.2.1, cell_later hb h.2.2.2.2.1, cell_later hb h.2.2.2.2.2⟩

set_option maxHeartbeats 4000000 in
theorem walk (a0 : Option Addr) (len0 cap0 : Nat) (x0 : List Val) (a1 : Option Addr) (len1 cap1 : Nat) (x1 : List Val) (w : World) (w0 : IsVals w a0 len0 cap0 x0) (w1 : IsVals w a1 len1 cap1 x1) :
    Calls Try.prog 3 #[.slice a0 len0 cap0, .slice a1 len1 cap1] w fun e w' => e = .returned (.bool true) ∧ Below w.heap.size w w' := by
  have HV := hide w0
  have HW := hide w1
  obtain ⟨hl, hlc, hm, _, _⟩ := w0
  obtain ⟨hl', hlc', hm', _, _⟩ := w1
  unfold maxLen at hm hm'
  have HL : Hid (x0.length = len0) := hl
  have HM : Hid (x1.length = len1) := hl'
  clear hl hl'
  have HF0 := hide (few_any a0 len0 cap0 x0)
  have HF1 := hide (few_any a1 len1 cap1 x1)
  cases hf0 : fewB x0
  · go_enter Try.func3, Try.ntmps3
    go_wp2_with (first
      | (go_at_call 9; refine (okawake_any _).mono ?_; rintro e wa ⟨rfl, hba⟩)
      | (go_at_call 10; go_must (refine (HF0.out _ (HV.out.keep hba)).mono ?_); rintro e wb ⟨rfl, hbb⟩))
    go_ret
    exact ⟨rfl, hba.trans (hbb.mono hba.size)⟩
  · cases hf1 : fewB x1
    · go_enter Try.func3, Try.ntmps3
      go_wp2_with (first
        | (go_at_call 9; refine (okawake_any _).mono ?_; rintro e wa ⟨rfl, hba⟩)
        | (go_at_call_of 10 len0; refine (HF0.out _ (HV.out.keep hba)).mono ?_; rintro e wb ⟨rfl, hbb⟩; have hb2 := hba.trans (hbb.mono hba.size); clear hbb)
        | (go_at_call_of 10 len1; go_must (refine (HF1.out _ (HW.out.keep hb2)).mono ?_); rintro e wc ⟨rfl, hbc⟩; have hb3 := hb2.trans (hbc.mono hb2.size); clear hbc))
      go_ret
      exact ⟨rfl, hb3⟩
    · go_enter Try.func3, Try.ntmps3
      go_wp2_with (first
        | (go_at_call 9; refine (okawake_any _).mono ?_; rintro e wa ⟨rfl, hba⟩)
        | (go_at_call_of 10 len0; refine (HF0.out _ (HV.out.keep hba)).mono ?_; rintro e wb ⟨rfl, hbb⟩; have hb2 := hba.trans (hbb.mono hba.size); clear hbb)
        | (go_at_call_of 10 len1; go_must (refine (HF1.out _ (HW.out.keep hb2)).mono ?_); rintro e wc ⟨rfl, hbc⟩; have hb3 := hb2.trans (hbc.mono hb2.size); clear hbc))
      go_loopw [5] (fun i wr => ∃ k : Nat, k ≤ len0 ∧ k ≤ len1 ∧ i = .int .i64 k ∧ Below w.heap.size w wr) (fun i _ => len0 - (intOf i).toNat)
      case atStart => exact ⟨0, Nat.zero_le _, Nat.zero_le _, rfl, hb3⟩
      case round =>
        obtain ⟨k, hk, hk', rfl, hb⟩ := hrel
        have hsz := hb.size
        by_cases hlt : k < len0 ∧ k < len1
        · obtain ⟨hlt1, hlt2⟩ := hlt
          obtain ⟨g, off, rfl, hg, hc⟩ := HV.out.at hlt1
          obtain ⟨g', off', rfl, hg', hc'⟩ := HW.out.at hlt2
          have hk1 : k < x0.length := by rw [HL.out]; exact hlt1
          have hk2 : k < x1.length := by rw [HM.out]; exact hlt2
          obtain ⟨⟨ak, an, az⟩, hv, c0, c1, c2⟩ := (hc.below hb hg).row hk1
          obtain ⟨⟨bk, bn, bz⟩, hv', d0, d1, d2⟩ := (hc'.below hb hg').row hk2
          have HC := hide (less_at ak an az bk bn bz)
          have HD := hide (order_at ak an az bk bn bz)
          have C0 := hide (hc.below hb hg)
          clear hv hv' hc hc'
          dsimp only at *
          generalize cmpV ⟨ak, an, az⟩ ⟨bk, bn, bz⟩ = r at *
          have S0 : Six g (off + k * 3) g' (off' + k * 3) (.int .i64 ak) (.int .i64 an) (.string az) (.int .i64 bk) (.int .i64 bn) (.string bz) wr.drew := ⟨c0, c1, c2, d0, d1, d2⟩
          have HS := hide S0
          clear S0 C0
          go_wp2
          go_region_held3 (fun w' => w'.cell? ⟨g, off + k * 3, none⟩ = some (.int .i64 ak) ∧ w'.cell? ⟨g, off + k * 3 + 1, none⟩ = some (.int .i64 an) ∧ w'.cell? ⟨g, off + k * 3 + 2, none⟩ = some (.string az) ∧ w'.cell? ⟨g', off' + k * 3, none⟩ = some (.int .i64 bk) ∧ w'.cell? ⟨g', off' + k * 3 + 1, none⟩ = some (.int .i64 bn) ∧ w'.cell? ⟨g', off' + k * 3 + 2, none⟩ = some (.string bz)) (first | exact HS.out | exact HS5.out | exact HS6.out) (first
            | (go_at_call 11; refine (HC.out _).mono ?_; rintro e w5 ⟨rfl, hb5⟩; have HS5 := hide (HS.out.later hb5))
            | (go_at_call 12; refine (HD.out _).mono ?_; rintro e w6 ⟨rfl, hb6⟩; have HS6 := hide (HS5.out.later hb6)))
          all_goals
            go_wp2
            go_roundw
            case rel => exact ⟨k + 1, by omega, by omega, by go_num, hb.trans (((below_undrew hb5).trans (hb6.mono hb5.size)).mono hsz)⟩
            case measure => simp [intOf]; omega
        · have hlt' : ¬ (k < len0) ∨ ¬ (k < len1) := by omega
          have HCm := hide (cmp_any a0 len0 cap0 x0 a1 len1 cap1 x1 wr (HV.out.keep hb) (HW.out.keep hb))
          rcases hlt' with hlt' | hlt'
          all_goals
            by_cases hq : k < len0
            all_goals
              go_wp2_with (first
                | (go_at_call 13; refine HCm.out.mono ?_; rintro e w5 ⟨rfl, hb5⟩; have hb5' := hb.trans (hb5.mono hsz))
                | (go_at_call 14; refine (rcmp_any a0 len0 cap0 x0 a1 len1 cap1 x1 _ (HV.out.keep hb5') (HW.out.keep hb5')).mono ?_; rintro e w6 ⟨rfl, hb6⟩))
              go_ret
              exact ⟨rfl, hb5'.trans (hb6.mono hb5'.size)⟩

set_option maxRecDepth 100000 in
theorem lifted (os : Os) (started : os.Started) (H : Type) (enc : TypeId × Value → H) :
    ReturnsInHanded {} Try.checked os 3 .any (Rows.okeyOrdersSpec.pre6 enc Try.prog Try.f3 Rows.okeyOrdersRow.domain false) (Rows.okeyOrdersSpec.post enc Try.prog Try.f3 false true false false) := by
  refine returnsInHanded_of_change (C := Try.checked) own started (by kernel_rfl) Try.func3
    (ChangeSpec.witness6 (enc := enc) (C := Try.checked) false ⟨#[], #[.slice none 0 0, .slice none 0 0], []⟩ 8 (by kernel_rfl) (by kernel_rfl) (by kernel_rfl) (by kernel_rfl)) ?_
  intro W base args ds gs before hval0 hW hcnd _
  have hval : ∀ (j : Nat) t v, Try.f3.params[j]? = some t → args[j]? = some v → Value.okWide Try.prog W .any base t v := hval0
  have hW' := hW
  obtain ⟨p, q, hA0, hV, rfl, hfz, hnd⟩ := hW
  have hA : DataW.TrodAll enc Try.prog W 0 (fun _ => true) true Try.f3.params.toList args.toList ds p := hA0
  rw [Try.params3] at hA hval
  obtain ⟨v0, vs0, d0, ds0, p0, q0, hargs, rfl, rfl, h0, r0⟩ := trodAll_cons hA
  obtain ⟨v1, vs1, d1, ds1, p1, q1, rfl, rfl, rfl, h1, r1⟩ := trodAll_cons r0
  obtain ⟨rfl, rfl, rfl⟩ := trodAll_nil r1
  obtain rfl : args = #[v0, v1] := by cases args; simp_all
  obtain ⟨rfl, rfl⟩ := trodVars_none hV
  obtain ⟨a0, len0, cap0, rfl⟩ := okWide_slice Try.underlying22 (hval 0 22 v0 rfl rfl)
  have k0 := h0
  have lt0 : ∀ x ∈ p0, x.block < W.heap.size := by obtain ⟨m, hm⟩ := k0; exact DataW.trod_lt m _ _ _ hm
  obtain ⟨x0, w0⟩ : ∃ xs, IsVals W a0 len0 cap0 xs := by
    obtain ⟨fuel, hf⟩ := h0
    exact open_vals (by simpa [Value.cells] using hf)
  obtain ⟨a1, len1, cap1, rfl⟩ := okWide_slice Try.underlying22 (hval 1 22 v1 rfl rfl)
  have k1 := h1
  have lt1 : ∀ x ∈ p1, x.block < W.heap.size := by obtain ⟨m, hm⟩ := k1; exact DataW.trod_lt m _ _ _ hm
  obtain ⟨x1, w1⟩ : ∃ xs, IsVals W a1 len1 cap1 xs := by
    obtain ⟨fuel, hf⟩ := h1
    exact open_vals (by simpa [Value.cells] using hf)
  clear hA0 hval0
  refine (walk a0 len0 cap0 x0 a1 len1 cap1 x1 W w0 w1).mono fun e W' ⟨he, bel⟩ => ?_
  subst he
  exact ⟨_, rfl, _, _, _, [], _, [], hW', trodAll_mk1 (shut_bool Try.underlying4 _), (trodAll_cons_mk (Below.trod laidOut (by kernel_rfl) (of_decide_eq_true (by kernel_rfl)) k0 bel lt0) (trodAll_cons_mk (Below.trod laidOut (by kernel_rfl) (of_decide_eq_true (by kernel_rfl)) k1 bel lt1) trodAll_mk0)), rfl, bel.frame _, fun h => by cases h⟩

theorem over : Rows.okeyOrdersRow.holds Try.pinned (OpenSpec.ofChange Rows.okeyOrdersSpec) :=
  OpenClaim.holds_of_wide 3 Try.f3 rfl rfl rfl rfl rfl rfl rfl ⟨rfl, rfl, rfl, rfl, rfl⟩ rfl rfl rfl rfl rfl (by kernel_rfl) Try.func3 (by kernel_rfl)
    (of_decide_eq_true (by kernel_rfl)) (by unfold Func.isWrapper; first | (rw [if_pos (by decide +kernel)]; kernel_rfl) | (rw [if_neg (by decide +kernel)]; exact ⟨rfl, rfl⟩))
    (fun os started H enc _ => lifted os started H enc)

theorem proved : Rows.OkeyOrdersSaid := over
end Go.Proofs.Ytfihjhcjkgpgfaa.okeyOrders
namespace Go.Proofs.Ytfihjhcjkgpgfaa
theorem okeyOrders_holds : Rows.OkeyOrdersSaid := okeyOrders.proved
#print axioms okeyOrders_holds
end Go.Proofs.Ytfihjhcjkgpgfaa
