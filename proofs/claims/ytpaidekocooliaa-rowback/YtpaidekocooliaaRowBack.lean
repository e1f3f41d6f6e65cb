/- For any slice of parts plenumlaw03.RowBack returns true (of parts that are not few the law itself asks nothing): what a Writer has written of them a Reader reads again, part by part, and nothing is left; what was handed in is left as it was. No condition. -/
import Derived.Test.YtpaidekocooliaaRows
import Derived.WalkKit
import Derived.ProofKit
import Derived.OpenShut
import Derived.ShutString
import Derived.ChangeOld
import Derived.Below
import Derived.Test.YtpaidekocooliaaRowBackM
import Derived.Deep.RegionHeld
import Derived.Laws.StructEq
namespace Go.Proofs.Ytpaidekocooliaa.rowBack
open Go.ChangeShapes Go.WideShapes Go.ChangeAt Go.RowKit
open Go.ChangeMaps (open_string shut_string)
set_option linter.unusedVariables false

theorem own : ownKnob Try.prog.godebug = none := by kernel_rfl
theorem laidOut : laidOutB Try.prog = true := by kernel_rfl

open NumMath

theorem asI_kwrap (n : Int) (h1 : 0 ≤ n) (h2 : n ≤ 18446744073709551615) : IntKind.i64.wrap n = asI n := by
  unfold asI
  simp [IntKind.wrap, IntKind.bits, IntKind.signed]
  split <;> split <;> omega

set_option maxRecDepth 20000 in
set_option maxHeartbeats 8000000 in
theorem walk (a0 : Option Addr) (len0 cap0 : Nat) (x0 : List Part) (w : World) (w0 : IsParts w a0 len0 cap0 x0) :
    Calls Try.prog 5 #[.slice a0 len0 cap0] w fun e w' => e = .returned (.bool true) ∧ Below w.heap.size w w' := by
  have HV := hide w0
  obtain ⟨-, hlc, hm, hok, -⟩ := w0
  unfold maxLen at hm
  have HRg := hide (partsL_range w x0 hok)
  clear hok
  have HF0 := hide (fewP_any a0 len0 cap0 x0)
  cases hf0 : fewP x0
  · rw [hf0] at HF0
    go_enter Try.func5, Try.ntmps5
    go_wp2_with (first
      | (go_at_call 9; refine (rowawake_any _).mono ?_; rintro e wa ⟨rfl, hba⟩)
      | (go_at_call 10; go_must (refine (HF0.out _ (HV.out.keep hba)).mono ?_); rintro e wb ⟨rfl, hbb⟩))
    go_ret
    exact ⟨rfl, hba.trans (hbb.mono hba.size)⟩
  · rw [hf0] at HF0
    have HFB := hide hf0
    have HFW := hide (fewP_size hf0)
    have HPL : Hid ((partsL x0).length ≤ 5000) := by
      have h1 := partsL_few w x0 HV.out.2.2.2.1 HFW.out.1
      have h2 := HFW.out.2
      show _ ≤ _
      omega
    clear hf0
    go_enter Try.func5, Try.ntmps5
    go_wp2_with (first
      | (go_at_call 9; refine (rowawake_any _).mono ?_; rintro e wa ⟨rfl, hba⟩)
      | (go_at_call 10; go_must (refine (HF0.out _ (HV.out.keep hba)).mono ?_); rintro e wb ⟨rfl, hbb⟩; have hb2 := hba.trans (hbb.mono hba.size); clear hbb)
      | (go_at_call 11; go_must (refine (wrote_any a0 len0 cap0 x0 _ (HV.out.keep hb2) HFB.out).mono ?_); rintro e wc ⟨va, vb, rfl, hoa, hob, hbc⟩; obtain ⟨aa, na, ca, rfl, hia⟩ := hoa.at HRg.out; have HIA := hide hia; have hna := hia.1; have hb3 := hb2.trans (hbc.mono hb2.size); have hsz3 := hb3.size; clear hoa hob hbc hia)
      | (go_at_call 12; go_must (refine (read_any aa na ca (partsL x0) _ HIA.out (by have := HPL.out; omega)).mono ?_); rintro e wd ⟨pr, qr, rfl, hpr, hqr, hR, hbd⟩; have HR := hide hR; have hb4 := hb3.trans (hbd.mono hsz3); have hpw : w.heap.size ≤ pr := (by omega); clear hR hbd))
    clear hna
    go_loopw [22] (fun i wr => ∃ k : Nat, k ≤ len0 ∧ i = .int .i64 k ∧ IsR true wr pr qr (some (partsL (x0.drop k))) ∧ Below w.heap.size w wr) (fun i _ => len0 - (intOf i).toNat)
    case atStart => exact ⟨0, Nat.zero_le _, rfl, HR.out, hb4⟩
    case round =>
      obtain ⟨k, hk, rfl, hRk, hb⟩ := hrel
      have HRk := hide hRk
      have hsz := hb.size
      have hpl2 := hRk.at
      clear hRk
      by_cases hlt : k < len0
      · obtain ⟨g, off, rfl, hg, hc⟩ := HV.out.at hlt
        have hk' : k < x0.length := by rw [HV.out.1]; exact hlt
        have hpok := HV.out.2.2.2.1 _ (part_mem x0 k hk')
        have hpf := HFW.out.1 _ (part_mem x0 k hk')
        have hcp := (hc k hk').below hb hg
        have HDl : Hid (rdLeft (some (partsL (x0.drop k))) ≤ 1000000000) := by
          have h1 := partsL_few w (x0.drop k) (fun p hp => HV.out.2.2.2.1 p (List.mem_of_mem_drop hp)) (fun p hp => HFW.out.1 p (List.mem_of_mem_drop hp))
          have h2 := HFW.out.2
          rw [List.length_drop] at h1
          show ((List.length _ : Nat) : Int) ≤ _
          omega
        rw [partsL_drop x0 k hk'] at HRk HDl
        obtain ⟨ts, HTS⟩ : ∃ ts, Hid (partsL (x0.drop (k + 1)) = ts) := ⟨_, rfl⟩
        rw [HTS.out] at HRk HDl
        generalize x0.getD k part0 = pt at *
        have HE0 := hide (@partL_0 pt)
        have HE1 := hide (@partL_1 pt)
        have HE2 := hide (@partL_2 pt)
        have HE3 := hide (@partL_3 pt)
        obtain ⟨pk, pn, pa, pl, pc, pb, ⟨vk, vn, vs⟩, pm⟩ := pt
        obtain ⟨c0, c1, c2, c3, c4, c5, c6⟩ := hcp
        obtain ⟨⟨n1, n2⟩, -, hvf, hB⟩ := hpok
        obtain ⟨hp200, hv200⟩ := hpf
        clear hc hk'
        dsimp only at *
        have HVF := hide hvf
        have HBB := hide hB
        clear hvf hB
        have HW1 := hide (new_below wr (.cells #[.int .i64 pk, .int .u64 pn, .slice pa pl pc, .int .i64 vk, .int .i64 vn, .string vs, .int .i64 pm] 37))
        by_cases h0 : pk = 0
        · subst h0
          rw [HE0.out rfl] at HRk HDl
          have HA := hide (fun w h => rdN_any pr qr (some (numL pn ++ ts)) 18446744073709551615 w h (by omega) (by omega))
          rw [rd_num pn 18446744073709551615 ts n1 n2 n2] at HA
          dsimp only at HA
          go_wp2
          go_region_held (fun w' => w'.cell? ⟨wr.heap.size, 1, none⟩ = some (.int .u64 pn)) (first | go_keep | exact hbox2) (first
            | (go_at_call 13; refine (HA.out _ (HRk.out.keep HW1.out.drew)).mono ?_; rintro e w2 ⟨rfl, hpost2⟩; have HR2 := hide hpost2.1; have hbox2 := (hpost2.2.cell (g := wr.heap.size) (i := 1) (by simp) (by omega)).trans (show _ = some (Value.int .u64 pn) by simp); have hb2' := (hb.trans (HW1.out.drew.mono hsz)).trans (hpost2.below (B := w.heap.size) (by simp; omega) (by omega)); clear hpost2))
          all_goals
            go_wp2
            go_roundw
            case rel => exact ⟨k + 1, by omega, by go_num, by rw [HTS.out]; exact HR2.out, hb2'⟩
            case measure => simp [intOf]; omega
        · have h0' : (pk == 0) = false := by simp [h0]
          by_cases h1 : pk = 1
          · subst h1
            rw [HE1.out rfl] at HRk HDl
            obtain ⟨i1, i2⟩ := asI_range pn n1 n2
            have hwr := asI_wrap pn n1 n2
            have HA := hide (fun w h => rdI_any pr qr (some (numL (zigV (asI pn)) ++ ts)) w h)
            rw [rd_int (asI pn) ts i1 i2] at HA
            dsimp only at HA
            have hkw := asI_kwrap pn n1 n2
            obtain ⟨z, HZ⟩ : ∃ z, Hid (asI pn = z) := ⟨_, rfl⟩
            rw [HZ.out] at HA HRk hwr hkw
            clear i1 i2 HDl
            go_wp2
            go_region_held (fun w' => w'.cell? ⟨wr.heap.size, 1, none⟩ = some (.int .u64 pn)) (first | go_keep | exact hbox2) (first
              | (go_at_call 15; refine (HA.out _ (HRk.out.keep HW1.out.drew)).mono ?_; rintro e w2 ⟨rfl, hpost2⟩; have HR2 := hide hpost2.1; have hbox2 := (hpost2.2.cell (g := wr.heap.size) (i := 1) (by simp) (by omega)).trans (show _ = some (Value.int .u64 pn) by simp); have hb2' := (hb.trans (HW1.out.drew.mono hsz)).trans (hpost2.below (B := w.heap.size) (by simp; omega) (by omega)); clear hpost2))
            all_goals
              go_wp2
              go_roundw
              case rel => exact ⟨k + 1, by omega, by go_num, by rw [HTS.out]; exact HR2.out, hb2'⟩
              case measure => simp [intOf]; omega
          · have h1' : (pk == 1) = false := by simp [h1]
            by_cases h2 : pk = 2
            · subst h2
              rw [HE2.out rfl] at HRk HDl
              have hpb := HBB.out.1
              have HA := hide (fun w h h' => rdT_any pr qr (some ((numL pl ++ pb) ++ ts)) 1000 w h (by omega) (by omega) h')
              have HRT := rd_text pb ts (by omega)
              rw [hpb] at HRT
              rw [HRT] at HA
              clear HRT hpb
              dsimp only at HA
              go_wp2
              have qb0 := (HBB.out.keep (hb.trans (HW1.out.drew.mono hsz))).conv
              go_region_held (fun w' => w'.cell? ⟨wr.heap.size, 2, none⟩ = some (.slice pa pl pc)) (first | go_keep | exact hbox2) (first
                | (go_at_call 17; refine (HA.out _ (HRk.out.keep HW1.out.drew) HDl.out).mono ?_; rintro e w2 ⟨v2, rfl, hown2, hpost2⟩; have qa := hown2.holds.conv; have HR2 := hide hpost2.1; have hbox2 := (hpost2.2.cell (g := wr.heap.size) (i := 2) (by simp) (by omega)).trans (show _ = some (Value.slice pa pl pc) by simp); have hb2' := (hb.trans (HW1.out.drew.mono hsz)).trans (hpost2.below (B := w.heap.size) (by simp; omega) (by omega)); have qb := (HBB.out.keep hb2').conv; clear hpost2 hown2))
              all_goals
                go_wp2
                go_roundw
                case rel => exact ⟨k + 1, by omega, by go_num, by rw [HTS.out]; exact HR2.out, hb2'⟩
                case measure => simp [intOf]; omega
            · have h2' : (pk == 2) = false := by simp [h2]
              rw [HE3.out h0 h1 h2] at HRk HDl
              have HA := hide (fun w h h' => rdV_any pr qr (some (valL ⟨vk, vn, vs⟩ ++ ts)) w h h')
              rw [rd_val ⟨vk, vn, vs⟩ ts HVF.out (by dsimp only; omega)] at HA
              have HPn := hide (plain_any vk vn vs)
              generalize plainV ⟨vk, vn, vs⟩ = pv at *
              obtain ⟨zk, zn, zs⟩ := pv
              unfold Val.v at HA HPn
              dsimp only at HA HPn
              go_wp2
              go_region_held (fun w' => w'.cell? ⟨wr.heap.size, 3, none⟩ = some (.int .i64 vk) ∧ w'.cell? ⟨wr.heap.size, 4, none⟩ = some (.int .i64 vn) ∧ w'.cell? ⟨wr.heap.size, 5, none⟩ = some (.string vs)) (first | go_keep | exact hbox3 | exact hbox2) (first
                | (go_at_call 19; refine (HA.out _ (HRk.out.keep HW1.out.drew) HDl.out).mono ?_; rintro e w2 ⟨rfl, hpost2⟩; have HR2' := hide hpost2.1; have hbox2 : w2.cell? ⟨wr.heap.size, 3, none⟩ = some (.int .i64 vk) ∧ w2.cell? ⟨wr.heap.size, 4, none⟩ = some (.int .i64 vn) ∧ w2.cell? ⟨wr.heap.size, 5, none⟩ = some (.string vs) := ⟨(hpost2.2.cell (g := wr.heap.size) (i := 3) (by simp) (by omega)).trans (by simp), (hpost2.2.cell (g := wr.heap.size) (i := 4) (by simp) (by omega)).trans (by simp), (hpost2.2.cell (g := wr.heap.size) (i := 5) (by simp) (by omega)).trans (by simp)⟩; have hlb2 : wr.heap.size < w2.heap.size := World.block_lt_of_cell? _ ⟨wr.heap.size, 3, none⟩ hbox2.1; have hb2' := (hb.trans (HW1.out.drew.mono hsz)).trans (hpost2.below (B := w.heap.size) (by simp; omega) (by omega)); clear hpost2)
                | (go_at_call 24; refine (HPn.out _).mono ?_; rintro e w3 ⟨rfl, hb3x⟩; have HR2 := hide (HR2'.out.keep hb3x); have hbox3 : w3.cell? ⟨wr.heap.size, 3, none⟩ = some (.int .i64 vk) ∧ w3.cell? ⟨wr.heap.size, 4, none⟩ = some (.int .i64 vn) ∧ w3.cell? ⟨wr.heap.size, 5, none⟩ = some (.string vs) := ⟨(hb3x.cell (p := ⟨wr.heap.size, 3, none⟩) hlb2).trans hbox2.1, (hb3x.cell (p := ⟨wr.heap.size, 4, none⟩) hlb2).trans hbox2.2.1, (hb3x.cell (p := ⟨wr.heap.size, 5, none⟩) hlb2).trans hbox2.2.2⟩; have hb3' := hb2'.trans (hb3x.mono (by omega)); clear hb3x))
              all_goals
                go_wp2
                go_roundw
                case rel => exact ⟨k + 1, by omega, by go_num, by rw [HTS.out]; exact HR2.out, hb3'⟩
                case measure => simp [intOf]; omega
      · have hkl : k = len0 := by omega
        subst hkl
        rw [List.drop_of_length_le (by rw [HV.out.1]; exact Nat.le_refl _)] at HRk
        go_wp2_with (first
          | (go_at_call 22; refine (end_any pr qr (some []) _ HRk.out).mono ?_; rintro e w' ⟨rfl, hw⟩; have hw := hw.symm; subst hw))
        go_ret
        exact ⟨rfl, hb⟩

set_option maxRecDepth 100000 in
theorem lifted (os : Os) (started : os.Started) (H : Type) (enc : TypeId × Value → H) :
    ReturnsInHanded {} Try.checked os 5 .any (Rows.rowBackSpec.pre6 enc Try.prog Try.f5 Rows.rowBackRow.domain false) (Rows.rowBackSpec.post enc Try.prog Try.f5 false true false false) := by
  refine returnsInHanded_of_change (C := Try.checked) own started (by kernel_rfl) Try.func5
    (ChangeSpec.witness6 (enc := enc) (C := Try.checked) false ⟨#[], #[.slice none 0 0], []⟩ 8 (by kernel_rfl) (by kernel_rfl) (by kernel_rfl) (by kernel_rfl)) ?_
  intro W base args ds gs before hval0 hW hcnd _
  have hval : ∀ (j : Nat) t v, Try.f5.params[j]? = some t → args[j]? = some v → Value.okWide Try.prog W .any base t v := hval0
  have hW' := hW
  obtain ⟨p, q, hA0, hV, rfl, hfz, hnd⟩ := hW
  have hA : DataW.TrodAll enc Try.prog W 0 (fun _ => true) true Try.f5.params.toList args.toList ds p := hA0
  rw [Try.params5] at hA hval
  obtain ⟨v0, vs0, d0, ds0, p0, q0, hargs, rfl, rfl, h0, r0⟩ := trodAll_cons hA
  obtain ⟨rfl, rfl, rfl⟩ := trodAll_nil r0
  obtain rfl : args = #[v0] := by cases args; simp_all
  obtain ⟨rfl, rfl⟩ := trodVars_none hV
  obtain ⟨a0, len0, cap0, rfl⟩ := okWide_slice Try.underlying22 (hval 0 22 v0 rfl rfl)
  have k0 := h0
  have lt0 : ∀ x ∈ p0, x.block < W.heap.size := by obtain ⟨m, hm⟩ := k0; exact DataW.trod_lt m _ _ _ hm
  obtain ⟨x0, w0⟩ : ∃ xs, IsParts W a0 len0 cap0 xs := by
    obtain ⟨fuel, hf⟩ := h0
    exact open_parts (by simpa [Value.cells] using hf)
  clear hA0 hval0
  refine (walk a0 len0 cap0 x0 W w0).mono fun e W' ⟨he, bel⟩ => ?_
  subst he
  exact ⟨_, rfl, _, _, _, [], _, [], hW', trodAll_mk1 (shut_bool Try.underlying4 _), (trodAll_cons_mk (Below.trod laidOut (by kernel_rfl) (of_decide_eq_true (by kernel_rfl)) k0 bel lt0) trodAll_mk0), rfl, bel.frame _, fun h => by cases h⟩

theorem over : Rows.rowBackRow.holds Try.pinned (OpenSpec.ofChange Rows.rowBackSpec) :=
  OpenClaim.holds_of_wide 5 Try.f5 rfl rfl rfl rfl rfl rfl rfl ⟨rfl, rfl, rfl, rfl, rfl⟩ rfl rfl rfl rfl rfl (by kernel_rfl) Try.func5 (by kernel_rfl)
    (of_decide_eq_true (by kernel_rfl)) (by unfold Func.isWrapper; first | (rw [if_pos (by decide +kernel)]; kernel_rfl) | (rw [if_neg (by decide +kernel)]; exact ⟨rfl, rfl⟩))
    (fun os started H enc _ => lifted os started H enc)

theorem proved : Rows.RowBackSaid := over
end Go.Proofs.Ytpaidekocooliaa.rowBack
namespace Go.Proofs.Ytpaidekocooliaa
theorem rowBack_holds : Rows.RowBackSaid := rowBack.proved
#print axioms rowBack_holds
end Go.Proofs.Ytpaidekocooliaa
