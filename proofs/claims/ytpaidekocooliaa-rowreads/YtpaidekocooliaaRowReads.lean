/- For any bytes and any slice of parts plenumlaw03.RowReads returns true (of parts that are not few, or of more than 500 bytes, the law itself asks nothing): whatever a Reader is asked for, it tells what the document's reference tells, and as much is left, up to the end; what was handed in is left as it was. No condition. -/
import Derived.Test.YtpaidekocooliaaRows
import Derived.WalkKit
import Derived.ProofKit
import Derived.OpenShut
import Derived.ShutString
import Derived.ChangeOld
import Derived.Below
import Derived.Test.YtpaidekocooliaaRowBoth
import Derived.Deep.RegionHeld
import Derived.Laws.StructEq
namespace Go.Proofs.Ytpaidekocooliaa.rowReads
open Go.ChangeShapes Go.WideShapes Go.ChangeAt Go.RowKit
open Go.ChangeMaps (open_string shut_string)
set_option linter.unusedVariables false

theorem own : ownKnob Try.prog.godebug = none := by kernel_rfl
theorem laidOut : laidOutB Try.prog = true := by kernel_rfl

open NumMath

set_option maxRecDepth 20000 in
set_option maxHeartbeats 8000000 in
theorem walk (a0 : Option Addr) (len0 cap0 : Nat) (x0 : List Int) (a1 : Option Addr) (len1 cap1 : Nat) (x1 : List Part) (w : World) (w0 : IsBytes w a0 len0 cap0 x0) (w1 : IsParts w a1 len1 cap1 x1) :
    Calls Try.prog 4 #[.slice a0 len0 cap0, .slice a1 len1 cap1] w fun e w' => e = .returned (.bool true) ∧ Below w.heap.size w w' := by
  have HV := hide w1
  have HW := hide w0
  obtain ⟨-, hlc, hm, -, -⟩ := w1
  obtain ⟨hl0, hlc', hm', -, -⟩ := w0
  unfold maxLen at hm hm'
  have HL0 : Hid (x0.length = len0) := hl0
  clear hl0
  have HF0 := hide (fewP_any a1 len1 cap1 x1)
  cases hf0 : fewP x1
  · rw [hf0] at HF0
    go_enter Try.func4, Try.ntmps4
    go_wp2_with (first
      | (go_at_call 9; refine (rowawake_any _).mono ?_; rintro e wa ⟨rfl, hba⟩)
      | (go_at_call 10; go_must (refine (HF0.out _ (HV.out.keep hba)).mono ?_); rintro e wb ⟨rfl, hbb⟩))
    go_ret
    exact ⟨rfl, hba.trans (hbb.mono hba.size)⟩
  · rw [hf0] at HF0
    have HFW := hide (fewP_size hf0)
    clear hf0
    by_cases h500 : (500 : Int) < (len0 : Int)
    · go_enter Try.func4, Try.ntmps4
      go_wp2_with (first
        | (go_at_call 9; refine (rowawake_any _).mono ?_; rintro e wa ⟨rfl, hba⟩)
        | (go_at_call 10; go_must (refine (HF0.out _ (HV.out.keep hba)).mono ?_); rintro e wb ⟨rfl, hbb⟩))
      go_ret
      exact ⟨rfl, hba.trans (hbb.mono hba.size)⟩
    · go_enter Try.func4, Try.ntmps4
      go_wp2_with (first
        | (go_at_call 9; refine (rowawake_any _).mono ?_; rintro e wa ⟨rfl, hba⟩)
        | (go_at_call 10; go_must (refine (HF0.out _ (HV.out.keep hba)).mono ?_); rintro e wb ⟨rfl, hbb⟩; have hb2 := hba.trans (hbb.mono hba.size); clear hbb)
        | (go_at_call 12; refine (read_any a0 len0 cap0 x0 _ (HW.out.keep hb2) (by omega)).mono ?_; rintro e wc ⟨pr, qr, rfl, hpr, hqr, hR, hbc⟩; have HR := hide hR; have hb3 := hb2.trans (hbc.mono hb2.size); have hsz3 := hb3.size; have hpl := hR.at; have hql := hR.qlt; have hsb := hb2.size; clear hR hbc))
      obtain ⟨qx, hqx⟩ : ∃ qx, (len0 ≠ 0 → ∀ x, a0 = some x → x.block = qx ∧ qx < w.heap.size) ∧ qx ≤ wc.heap.size ∧ qx ≠ pr := by
        by_cases h0 : len0 = 0
        · exact ⟨wc.heap.size, fun h => absurd h0 h, Nat.le_refl _, by omega⟩
        · obtain ⟨g, off, rfl, hg, -⟩ := HW.out.at (k := 0) (by omega)
          exact ⟨g, fun _ x hx => by cases hx; exact ⟨rfl, hg⟩, by omega, by omega⟩
      have HT0 : Hid (Two (wc.alloc (.cells #[.slice a0 len0 cap0, .bool false] 32)) pr qr wc.heap.size qx (some x0)) := ⟨HR.out.keep (new_below _ _), isR_new false _ wc a0 len0 cap0 x0 _ qx rfl (HW.out.keep hb3) (fun h x hx => ⟨(hqx.1 h x hx).1, by have := (hqx.1 h x hx).2; omega⟩) hqx.2.1, by omega, by omega, hqx.2.2⟩
      have HL5 : Hid (rdLeft (some x0) ≤ 500) := by show ((x0.length : Nat) : Int) ≤ 500; rw [HL0.out]; omega
      clear hqx
      obtain ⟨px, HPX⟩ : ∃ px, Hid (px = wc.heap.size) := ⟨_, rfl⟩
      have hpx : w.heap.size ≤ px := by rw [HPX.out]; exact hsz3
      rw [← HPX.out] at HT0
      rw [← HPX.out]
      go_loopw [26] (fun i wr => ∃ (k : Nat) (st : Option (List Int)), k ≤ len1 ∧ i = .int .i64 k ∧ Two wr pr qr px qx st ∧ rdLeft st ≤ 500 ∧ Below w.heap.size w wr) (fun i _ => len1 - (intOf i).toNat)
      case atStart => exact ⟨0, some x0, Nat.zero_le _, rfl, HT0.out, HL5.out, hb3.alloc hsz3 _⟩
      case round =>
        obtain ⟨k, st, hk, rfl, htwo, hleft, hb⟩ := hrel
        have HT := hide htwo
        have HLf := hide hleft
        have hsz := hb.size
        have hpl2 := htwo.a.at
        have hpx2 := htwo.b.at
        have HBy := hide htwo.a.byt
        clear htwo hleft
        by_cases hlt : k < len1
        · obtain ⟨g, off, rfl, hg, hc⟩ := HV.out.at hlt
          have hk' : k < x1.length := by rw [HV.out.1]; exact hlt
          have hpok := HV.out.2.2.2.1 _ (part_mem x1 k hk')
          have hcp := (hc k hk').below hb hg
          generalize x1.getD k part0 = pt at *
          obtain ⟨pk, pn, pa, pl, pc, pb, ⟨vk, vn, vs⟩, pm⟩ := pt
          obtain ⟨c0, c1, c2, c3, c4, c5, c6⟩ := hcp
          obtain ⟨⟨n1, n2⟩, ⟨m1, m2⟩, -, -⟩ := hpok
          clear hc hk'
          dsimp only at *
          have HW1 := hide (new_below wr (.cells #[.int .i64 pk, .int .u64 pn, .slice pa pl pc, .int .i64 vk, .int .i64 vn, .string vs, .int .i64 pm] 37))
          by_cases h0 : pk = 0
          · subst h0
            have HA := hide (fun w h => rdN_any pr qr st pn w h n1 n2)
            have HX := hide (fun w h => xN_any px qx st pn w h n1 n2)
            have HNl := hide (Int.le_trans (rdN_left pn st HBy.out) HLf.out)
            generalize rdN pn st = ns at *
            obtain ⟨n, st'⟩ := ns
            dsimp only at *
            go_wp2
            go_region_held (fun w' => w'.cell? ⟨wr.heap.size, 1, none⟩ = some (.int .u64 pn)) (first | go_keep | exact hbox3 | exact hbox2) (first
              | (go_at_call 13; refine (HA.out _ (HT.out.keep HW1.out.drew).a).mono ?_; rintro e w2 ⟨rfl, hpost2⟩; have HP2 := hide hpost2; have hbox2 := (hpost2.2.cell (g := wr.heap.size) (i := 1) (by simp) (by omega)).trans (show _ = some (Value.int .u64 pn) by simp); have hb2' := (hb.trans (HW1.out.drew.mono hsz)).trans (hpost2.below (B := w.heap.size) (by simp; omega) (by omega)); have hlb2 : wr.heap.size < w2.heap.size := World.block_lt_of_cell? _ ⟨wr.heap.size, 1, none⟩ hbox2; clear hpost2)
              | (go_at_call 14; refine (HX.out _ ((HT.out.keep HW1.out.drew).mid HP2.out)).mono ?_; rintro e w3 ⟨rfl, hpost3⟩; have HT3 := hide ((HT.out.keep HW1.out.drew).next HP2.out hpost3); have hbox3 := (hpost3.2.cell (g := wr.heap.size) (i := 1) hlb2 (by omega)).trans hbox2; have hb3' := hb2'.trans (hpost3.below (B := w.heap.size) (by omega) (by omega)); have hsz3' := hpost3.2.size; obtain ⟨sa, sn, sc, hs0, hs1, hs2⟩ := HT3.out.b.slice; unfold maxLen at hs2; have HS1 := hide hs1; clear hpost3 hs1))
            all_goals
              go_wp2
              go_region_held (fun w' => w'.cell? ⟨px, 0, none⟩ = some (.slice sa sn sc)) (first | go_keep | assumption) (first
                | (go_at_call 21; refine (left_at pr qr st' sn _ (HT3.out.keep (Below.refl _ _).drew).a HS1.out).mono ?_; rintro e w' ⟨rfl, hw⟩; have hw := hw.symm; subst hw))
              all_goals
                go_wp2
                go_roundw
                case rel => exact ⟨k + 1, st', by omega, by go_num, HT3.out.keep (Below.refl _ _).drew, HNl.out, hb3'.drew⟩
                case measure => simp [intOf]; omega
          · have h0' : (pk == 0) = false := by simp [h0]
            by_cases h1 : pk = 1
            · subst h1
              have HA := hide (fun w h => rdI_any pr qr st w h)
              have HX := hide (fun w h => xI_any px qx st w h)
              have HNl := hide (Int.le_trans (rdI_left st HBy.out) HLf.out)
              generalize rdI st = ns at *
              obtain ⟨n, st'⟩ := ns
              dsimp only at *
              go_wp2_with (first
                | (go_at_call 15; refine (HA.out _ (HT.out.keep HW1.out).a).mono ?_; rintro e w2 ⟨rfl, hpost2⟩; have HP2 := hide hpost2; have hbox2 := (hpost2.2.cell (g := wr.heap.size) (i := 1) (by simp) (by omega)).trans (show _ = some (Value.int .u64 pn) by simp); have hb2' := (hb.trans (HW1.out.mono hsz)).trans (hpost2.below (B := w.heap.size) (by simp; omega) (by omega)); have hlb2 : wr.heap.size < w2.heap.size := World.block_lt_of_cell? _ ⟨wr.heap.size, 1, none⟩ hbox2; clear hpost2)
                | (go_at_call 16; refine (HX.out _ ((HT.out.keep HW1.out).mid HP2.out)).mono ?_; rintro e w3 ⟨rfl, hpost3⟩; have HT3 := hide ((HT.out.keep HW1.out).next HP2.out hpost3); have hbox3 := (hpost3.2.cell (g := wr.heap.size) (i := 1) hlb2 (by omega)).trans hbox2; have hb3' := hb2'.trans (hpost3.below (B := w.heap.size) (by omega) (by omega)); have hsz3' := hpost3.2.size; obtain ⟨sa, sn, sc, hs0, hs1, hs2⟩ := HT3.out.b.slice; unfold maxLen at hs2; have HS1 := hide hs1; clear hpost3 hs1))
              go_region_held (fun w' => w'.cell? ⟨px, 0, none⟩ = some (.slice sa sn sc)) (first | go_keep | assumption) (first
                | (go_at_call 21; refine (left_at pr qr st' sn _ (HT3.out.keep (Below.refl _ _).drew).a HS1.out).mono ?_; rintro e w' ⟨rfl, hw⟩; have hw := hw.symm; subst hw))
              all_goals
                go_wp2
                go_roundw
                case rel => exact ⟨k + 1, st', by omega, by go_num, HT3.out.keep (Below.refl _ _).drew, HNl.out, hb3'.drew⟩
                case measure => simp [intOf]; omega
            · have h1' : (pk == 1) = false := by simp [h1]
              by_cases h2 : pk = 2
              · subst h2
                have HA := hide (fun w h h' => rdT_any pr qr st pm w h m2 m1 h')
                have HX := hide (fun w h h' => xT_any px qx st pm w h m2 m1 h')
                have HNl := hide (Int.le_trans (rdT_left pm st HBy.out) HLf.out)
                have HLg : Hid (rdLeft st ≤ 1000000000) := by have := HLf.out; show _ ≤ _; omega
                generalize rdT pm st = ns at *
                obtain ⟨ts, st'⟩ := ns
                dsimp only at *
                go_wp2
                go_region_held (fun w' => w'.cell? ⟨wr.heap.size, 6, none⟩ = some (.int .i64 pm)) (first | go_keep | exact hbox3 | exact hbox2) (first
                  | (go_at_call 17; refine (HA.out _ (HT.out.keep HW1.out.drew).a HLg.out).mono ?_; rintro e w2 ⟨v2, rfl, hown2, hpost2⟩; have HP2 := hide hpost2; have hbox2 := (hpost2.2.cell (g := wr.heap.size) (i := 6) (by simp) (by omega)).trans (show _ = some (Value.int .i64 pm) by simp); have hb2' := (hb.trans (HW1.out.drew.mono hsz)).trans (hpost2.below (B := w.heap.size) (by simp; omega) (by omega)); have hlb2 : wr.heap.size < w2.heap.size := World.block_lt_of_cell? _ ⟨wr.heap.size, 6, none⟩ hbox2; have qa := hown2.holds.conv; have HO2 := hide hown2; clear hown2; clear hpost2)
                  | (go_at_call 18; refine (HX.out _ ((HT.out.keep HW1.out.drew).mid HP2.out) HLg.out).mono ?_; rintro e w3 ⟨a3, n3, c3, rfl, hsrc3, -, hpost3⟩; have HT3 := hide ((HT.out.keep HW1.out.drew).next HP2.out hpost3); have hbox3 := (hpost3.2.cell (g := wr.heap.size) (i := 6) hlb2 (by omega)).trans hbox2; have hb3' := hb2'.trans (hpost3.below (B := w.heap.size) (by omega) (by omega)); have hsz3' := hpost3.2.size; obtain ⟨sa, sn, sc, hs0, hs1, hs2⟩ := HT3.out.b.slice; unfold maxLen at hs2; have HS1 := hide hs1; have qb := hsrc3.conv (cap := c3); have qa3 := (HO2.out.lies (fun g hg => hpost3.2.block g (World.ownsRow.lt HO2.out g hg).2 (by have h5 := (World.ownsRow.lt HO2.out g hg).1; simp only [World.size_drew, World.size_alloc] at h5; omega))).holds.conv; clear hsrc3; clear hpost3 hs1))
                all_goals
                  go_wp2
                  go_region_held (fun w' => w'.cell? ⟨px, 0, none⟩ = some (.slice sa sn sc)) (first | go_keep | assumption) (first
                    | (go_at_call 21; refine (left_at pr qr st' sn _ (HT3.out.keep (Below.refl _ _).drew).a HS1.out).mono ?_; rintro e w' ⟨rfl, hw⟩; have hw := hw.symm; subst hw))
                  all_goals
                    go_wp2
                    go_roundw
                    case rel => exact ⟨k + 1, st', by omega, by go_num, HT3.out.keep (Below.refl _ _).drew, HNl.out, hb3'.drew⟩
                    case measure => simp [intOf]; omega
              · have h2' : (pk == 2) = false := by simp [h2]
                have HLg : Hid (rdLeft st ≤ 1000000000) := by have := HLf.out; show _ ≤ _; omega
                have HA := hide (fun w h h' => rdV_any pr qr st w h h')
                have HX := hide (fun w h h' => xV_any px qx st w h h')
                have HNl := hide (Int.le_trans (rdV_left st HBy.out) HLf.out)
                generalize rdV st = ns at *
                obtain ⟨⟨zk, zn, zs⟩, st'⟩ := ns
                unfold Val.v at HA HX
                dsimp only at *
                go_wp2_with (first
                  | (go_at_call 19; refine (HA.out _ (HT.out.keep HW1.out).a HLg.out).mono ?_; rintro e w2 ⟨rfl, hpost2⟩; have HP2 := hide hpost2; have hbox2 := (hpost2.2.cell (g := wr.heap.size) (i := 1) (by simp) (by omega)).trans (show _ = some (Value.int .u64 pn) by simp); have hb2' := (hb.trans (HW1.out.mono hsz)).trans (hpost2.below (B := w.heap.size) (by simp; omega) (by omega)); have hlb2 : wr.heap.size < w2.heap.size := World.block_lt_of_cell? _ ⟨wr.heap.size, 1, none⟩ hbox2; clear hpost2)
                  | (go_at_call 20; refine (HX.out _ ((HT.out.keep HW1.out).mid HP2.out) HLg.out).mono ?_; rintro e w3 ⟨rfl, hpost3⟩; have HT3 := hide ((HT.out.keep HW1.out).next HP2.out hpost3); have hbox3 := (hpost3.2.cell (g := wr.heap.size) (i := 1) hlb2 (by omega)).trans hbox2; have hb3' := hb2'.trans (hpost3.below (B := w.heap.size) (by omega) (by omega)); have hsz3' := hpost3.2.size; obtain ⟨sa, sn, sc, hs0, hs1, hs2⟩ := HT3.out.b.slice; unfold maxLen at hs2; have HS1 := hide hs1; clear hpost3 hs1))
                go_region_held (fun w' => w'.cell? ⟨px, 0, none⟩ = some (.slice sa sn sc)) (first | go_keep | assumption) (first
                  | (go_at_call 21; refine (left_at pr qr st' sn _ (HT3.out.keep (Below.refl _ _).drew).a HS1.out).mono ?_; rintro e w' ⟨rfl, hw⟩; have hw := hw.symm; subst hw))
                all_goals
                  go_wp2
                  go_roundw
                  case rel => exact ⟨k + 1, st', by omega, by go_num, HT3.out.keep (Below.refl _ _).drew, HNl.out, hb3'.drew⟩
                  case measure => simp [intOf]; omega
        · have hkl : k = len1 := by omega
          subst hkl
          go_wp2_with (first
            | (go_at_call 22; refine (end_any pr qr st _ HT.out.a).mono ?_; rintro e w' ⟨rfl, hw⟩; have hw := hw.symm; subst hw)
            | (go_at_call 23; refine (xend_any px qx st _ HT.out.b).mono ?_; rintro e w' ⟨rfl, hw⟩; have hw := hw.symm; subst hw))
          go_ret
          exact ⟨rfl, hb⟩

set_option maxRecDepth 100000 in
theorem lifted (os : Os) (started : os.Started) (H : Type) (enc : TypeId × Value → H) :
    ReturnsInHanded {} Try.checked os 4 .any (Rows.rowReadsSpec.pre6 enc Try.prog Try.f4 Rows.rowReadsRow.domain false) (Rows.rowReadsSpec.post enc Try.prog Try.f4 false true false false) := by
  refine returnsInHanded_of_change (C := Try.checked) own started (by kernel_rfl) Try.func4
    (ChangeSpec.witness6 (enc := enc) (C := Try.checked) false ⟨#[], #[.slice none 0 0, .slice none 0 0], []⟩ 8 (by kernel_rfl) (by kernel_rfl) (by kernel_rfl) (by kernel_rfl)) ?_
  intro W base args ds gs before hval0 hW hcnd _
  have hval : ∀ (j : Nat) t v, Try.f4.params[j]? = some t → args[j]? = some v → Value.okWide Try.prog W .any base t v := hval0
  have hW' := hW
  obtain ⟨p, q, hA0, hV, rfl, hfz, hnd⟩ := hW
  have hA : DataW.TrodAll enc Try.prog W 0 (fun _ => true) true Try.f4.params.toList args.toList ds p := hA0
  rw [Try.params4] at hA hval
  obtain ⟨v0, vs0, d0, ds0, p0, q0, hargs, rfl, rfl, h0, r0⟩ := trodAll_cons hA
  obtain ⟨v1, vs1, d1, ds1, p1, q1, rfl, rfl, rfl, h1, r1⟩ := trodAll_cons r0
  obtain ⟨rfl, rfl, rfl⟩ := trodAll_nil r1
  obtain rfl : args = #[v0, v1] := by cases args; simp_all
  obtain ⟨rfl, rfl⟩ := trodVars_none hV
  obtain ⟨a0, len0, cap0, rfl⟩ := okWide_slice Try.underlying25 (hval 0 25 v0 rfl rfl)
  have k0 := h0
  have lt0 : ∀ x ∈ p0, x.block < W.heap.size := by obtain ⟨m, hm⟩ := k0; exact DataW.trod_lt m _ _ _ hm
  obtain ⟨x0, w0⟩ : ∃ xs, IsBytes W a0 len0 cap0 xs := by
    obtain ⟨fuel, hf⟩ := h0
    exact open_bytes (by simpa [Value.cells] using hf)
  obtain ⟨a1, len1, cap1, rfl⟩ := okWide_slice Try.underlying22 (hval 1 22 v1 rfl rfl)
  have k1 := h1
  have lt1 : ∀ x ∈ p1, x.block < W.heap.size := by obtain ⟨m, hm⟩ := k1; exact DataW.trod_lt m _ _ _ hm
  obtain ⟨x1, w1⟩ : ∃ xs, IsParts W a1 len1 cap1 xs := by
    obtain ⟨fuel, hf⟩ := h1
    exact open_parts (by simpa [Value.cells] using hf)
  clear hA0 hval0
  refine (walk a0 len0 cap0 x0 a1 len1 cap1 x1 W w0 w1).mono fun e W' ⟨he, bel⟩ => ?_
  subst he
  exact ⟨_, rfl, _, _, _, [], _, [], hW', trodAll_mk1 (shut_bool Try.underlying4 _), (trodAll_cons_mk (Below.trod laidOut (by kernel_rfl) (of_decide_eq_true (by kernel_rfl)) k0 bel lt0) (trodAll_cons_mk (Below.trod laidOut (by kernel_rfl) (of_decide_eq_true (by kernel_rfl)) k1 bel lt1) trodAll_mk0)), rfl, bel.frame _, fun h => by cases h⟩

theorem over : Rows.rowReadsRow.holds Try.pinned (OpenSpec.ofChange Rows.rowReadsSpec) :=
  OpenClaim.holds_of_wide 4 Try.f4 rfl rfl rfl rfl rfl rfl rfl ⟨rfl, rfl, rfl, rfl, rfl⟩ rfl rfl rfl rfl rfl (by kernel_rfl) Try.func4 (by kernel_rfl)
    (of_decide_eq_true (by kernel_rfl)) (by unfold Func.isWrapper; first | (rw [if_pos (by decide +kernel)]; kernel_rfl) | (rw [if_neg (by decide +kernel)]; exact ⟨rfl, rfl⟩))
    (fun os started H enc _ => lifted os started H enc)

theorem proved : Rows.RowReadsSaid := over
end Go.Proofs.Ytpaidekocooliaa.rowReads
namespace Go.Proofs.Ytpaidekocooliaa
theorem rowReads_holds : Rows.RowReadsSaid := rowReads.proved
#print axioms rowReads_holds
end Go.Proofs.Ytpaidekocooliaa
