/- For any slice of texts l and any int cut plenumlaw05.FrameBack returns true (where there are more than 12 texts, or one of more than 100 bytes, the law itself asks nothing): frame.All of the frames of l, one behind the other, cut off at cut (behind all of them, if cut is no place in them), tells just the first texts of l whose frames are whole, and how many bytes these have; what was handed in is left as it was. No condition. -/
import Derived.Test.YtcmimhhealokhaaRows
import Derived.WalkKit
import Derived.ProofKit
import Derived.OpenShut
import Derived.ShutString
import Derived.ChangeOld
import Derived.Below
import Derived.Test.YtcmimhhealokhaaFrAll
import Derived.Test.YtcmimhhealokhaaInts
namespace Go.Proofs.Ytcmimhhealokhaa.frameBack
open Go.ChangeShapes Go.WideShapes Go.ChangeAt Go.RowKit
open Go.ChangeMaps (open_string shut_string)
set_option linter.unusedVariables false

theorem own : ownKnob Try.prog.godebug = none := by kernel_rfl
theorem laidOut : laidOutB Try.prog = true := by kernel_rfl

open NumMath

theorem flat_take (L : List (List Int)) (k : Nat) (hk : k < L.length) : flat (L.take (k + 1)) = flat (L.take k) ++ frL (L.getD k []) := by
  rw [List.take_succ_eq_append_getElem hk, flat_snoc]
  simp [List.getD, List.getElem?_eq_getElem hk]

theorem mem_getD (L : List (List Int)) (k : Nat) (hk : k < L.length) : L.getD k [] ∈ L := by
  simp only [List.getD, List.getElem?_eq_getElem hk]
  exact List.getElem_mem _

/-- where the frames end, one behind the other -/
def ends (L : List (List Int)) (k : Nat) : List Int := (List.range k).map fun j => (((flat (L.take (j + 1))).length : Nat) : Int)

theorem ends_succ (L : List (List Int)) (k : Nat) : ends L (k + 1) = ends L k ++ [(((flat (L.take (k + 1))).length : Nat) : Int)] := by
  unfold ends
  rw [List.range_succ, List.map_append]
  rfl

theorem ends_length (L : List (List Int)) (k : Nat) : (ends L k).length = k := by unfold ends; simp

theorem ends_nth (L : List (List Int)) (k j : Nat) (h : j < k) : (ends L k).getD j 0 = (((flat (L.take (j + 1))).length : Nat) : Int) := by
  unfold ends
  simp [List.getD, h]

theorem flat_small (L : List (List Int)) (h : ∀ t ∈ L, t.length ≤ 100) : (flat L).length ≤ 108 * L.length := by
  induction L with
  | nil => exact Nat.le_refl _
  | cons t L ih =>
    rw [flat_cons, List.length_append, frL_length, List.length_cons]
    have := h t List.mem_cons_self
    have := ih (fun x hx => h x (List.mem_cons_of_mem _ hx))
    omega

set_option maxHeartbeats 2000000 in
theorem walk (a0 : Option Addr) (len0 cap0 : Nat) (x0 : List (List Int)) (a1 : Int) (w : World) (w0 : IsTexts w a0 len0 cap0 x0) (w1 : (Lit.int .i64 a1).wf = true) :
    Calls Try.prog 5 #[.slice a0 len0 cap0, .int .i64 a1] w fun e w' => e = .returned (.bool true) ∧ Below w.heap.size w w' := by
  have H0 := hide w0
  have HAr := hide w0.are
  have HL0 := hide w0.1
  have hlc0 := w0.2.1
  have hmc : (cap0 : Int) ≤ 9223372036854775807 := by have := w0.2.2.1; unfold maxLen at this; omega
  obtain ⟨n1, n2⟩ := wf_i64 w1
  clear w0 w1
  have HFw := hide (few05_any a0 len0 cap0 x0)
  cases hf : fewT x0
  · rw [hf] at HFw
    go_enter Try.func5, Try.ntmps5
    go_wp2_with (first
      | (go_at_call 8; refine (frawake_any _).mono ?_; rintro e wa ⟨rfl, hba⟩)
      | (go_at_call 17; refine (HFw.out _ (H0.out.keep hba)).mono ?_; rintro e w' ⟨rfl, hw⟩; have hw := hw.symm; subst hw))
    go_ret
    exact ⟨rfl, hba⟩
  · rw [hf] at HFw
    obtain ⟨f1, f2⟩ := fewT_yes hf
    have HF1 := hide f1
    have HTx : Hid (Texts x0) := fun t ht => ⟨by have := f1 t ht; omega, HAr.out t ht⟩
    have HSm : Hid (∀ k, (flat (x0.take k)).length ≤ 1296) := fun k => by
      have := flat_take_le x0 k
      have := flat_small x0 f1
      omega
    rw [HL0.out] at f2
    clear f1 hf
    go_enter Try.func5, Try.ntmps5
    go_wp2_with (first
      | (go_at_call 8; refine (frawake_any _).mono ?_; rintro e wa ⟨rfl, hba⟩; have hsza := hba.size)
      | (go_at_call 17; refine (HFw.out _ (H0.out.keep hba)).mono ?_; rintro e w' ⟨rfl, hw⟩; have hw := hw.symm; subst hw))
    go_loopw [5, 6, 19] (fun v u i wr => ∃ k : Nat, k ≤ len0 ∧ i = .int .i64 k ∧ OwnB wr wa.heap.size v (flat (x0.take k)) ∧ OwnI wr wa.heap.size u (ends x0 k) ∧ Apart v u ∧ Below wa.heap.size wa wr) (fun _ _ i _ => len0 - (intOf i).toNat)
    case atStart => exact ⟨0, Nat.zero_le _, rfl, ownB_nil _ _, ownI_nil _ _, (by intro g hg; cases hg), Below.refl _ _⟩
    case round =>
      obtain ⟨k, hk, rfl, hown, hoi, hap, hb⟩ := hrel
      have hszr := hb.size
      by_cases hlt : k < len0
      · have hkL : k < x0.length := by rw [HL0.out]; exact hlt
        have HFt := hide (flat_take x0 k hkL)
        have HMm := hide (HF1.out _ (mem_getD x0 k hkL))
        have HLe := hide (HSm.out k)
        obtain ⟨g, off, b1, m1, d1, rfl, hg, hc, hI⟩ := (H0.out.keep (hba.trans (hb.mono hsza))).at hlt
        have HIt := hide hI
        have HOw := hide hown
        have HOi := hide hoi
        have HAp := hide hap
        have HEl := hide (ends_length x0 k)
        have HEs := hide (ends_succ x0 k)
        clear hI hkL hown hoi hap
        generalize x0.getD k [] = t at *
        have HF : Hid (frA t = frL t) := if_neg (by have := HMm.out; omega)
        go_wp2_with (first
          | (go_at_call 11; refine (frput_any b1 m1 d1 t _ HIt.out).mono ?_; rw [HF.out]; rintro e w3 ⟨v3, rfl, hown3, hb3⟩; obtain ⟨a3, n3, c3, rfl, hS3⟩ := hown3.any; have hsz3 := hb3.size; have hO3 := HOw.out.keep hb3; have hi3 := HOi.out.keep hb3)
          | (at_builtin; have hq := hO4; go_must (refine wp_appI _ rfl _ _ rfl wa.heap.size _ _ rfl (hi4.keep (new_below _ _)) w4.heap.size n4 rfl (cell_new1 _ _ _ _ rfl) (by rw [HEl.out]; omega) (by simp; omega) ?_); intro u5 w5 hi5 hg5 hat5; have hb5 := Below.ofGrown hg5 (show wa.heap.size ≤ _ by simp; omega) (fun g hg => (hi4.lt g hg).1); have hO5 := (hO4.keep (new_below w4 _)).apart hap4.symm hg5; have hap5 := (Apart.grown hap4.symm (at_alloc hat5) (fun g hg => (hO4.lt g hg).2)).symm)
          | (at_builtin; go_must (refine wp_joinB _ rfl _ _ rfl wa.heap.size _ _ rfl hO3 a3 n3 c3 _ rfl hS3 (by have := HLe.out; have := HMm.out; rw [frL_length]; omega) (by omega) ?_); intro v4 w4 hO4 hg4 hat4; have hb4 := hO3.grown hg4 (by omega); have hi4 := hi3.apart HAp.out hg4; have hap4 := HAp.out.grown hat4 (fun g hg => (hi3.lt g hg).2); have hsz4 := hb4.size; rw [← HFt.out] at hO4; obtain ⟨a4, n4, c4, rfl, hS4⟩ := hO4.any; have hl4 := hS4.1; have hsz4' := hg4.size; clear hg4 hat4))
        go_roundw
        case rel => exact ⟨k + 1, by omega, by go_num, hO5, by rw [HEs.out, hl4]; exact hi5, hap5, hb.trans ((hb3.mono hszr).trans (hb4.trans (((new_below w4 _).mono (by omega)).trans hb5)))⟩
        case measure => simp [intOf]; omega
      · have hkl : k = len0 := by omega
        subst hkl
        rw [List.take_of_length_le (by rw [HL0.out]; exact Nat.le_refl _)] at hown
        have hbr := hba.trans (hb.mono hsza)
        obtain ⟨a5, N, c5, rfl, hI5⟩ := hown.at (flat_are HTx.out)
        obtain ⟨a6, n6, c6, rfl, hI6⟩ := hoi.is
        have h6l := hI6.1
        rw [ends_length] at h6l
        subst h6l
        have hlc6 := hI6.2.1
        have hmc6 : (c6 : Int) ≤ 9223372036854775807 := by have := hI6.2.2.1; unfold maxLen at this; omega
        have hN := hI5.1
        have hlc5 := hI5.2.1
        have hmc5 : (c5 : Int) ≤ 9223372036854775807 := by have := hI5.2.2.1; unfold maxLen at this; omega
        have HNs : Hid (N ≤ 1296) := by
          show _ ≤ _
          have := HSm.out k
          rw [List.take_of_length_le (by rw [HL0.out]; exact Nat.le_refl _)] at this
          omega
        have HN := hide hN
        clear hown hoi hap hN
        by_cases hA : a1 < 0 ∨ (N : Int) < a1
        · obtain ⟨bt, hst, htb⟩ := isB_cutTo hI5 N (Nat.le_refl _) .i64 (N : Int) rfl
          have HTB := hide htb
          have HB : Hid (N ≤ 1000000000) := by show _ ≤ _; have := HNs.out; omega
          clear htb
          rcases hA with hA | hA
          · skip
            go_wp2_with (first
              | (go_at_call 14; refine (all_any bt N c5 _ _ HTB.out HB.out).mono ?_; rintro e w7 ⟨a7, n7, c7, L, rfl, hL, hI7, hb7⟩; have HAl := hide hL; have HI7 := hide hI7; have HE7 := hide (hI6.keep hb7); have hb8 := hbr.trans (hb7.mono hbr.size); clear hL hI7))
            obtain ⟨M, HMf⟩ : ∃ M, Hid (M = (flat L).length) := ⟨_, rfl⟩
            rw [← HMf.out]
            go_loop [11] (fun i => ∃ j : Nat, j ≤ k ∧ i = .int .i64 j ∧ (flat (x0.take j)).length ≤ N) (fun i => k - (intOf i).toNat)
            case atStart => exact ⟨0, Nat.zero_le _, rfl, Nat.zero_le _⟩
            case round =>
              obtain ⟨j, hj, rfl, hjc⟩ := hrel
              have HJC := hide hjc
              clear hjc
              by_cases hgo : j < k ∧ (flat (x0.take (j + 1))).length ≤ N
              · have HG := hide hgo.2
                have hjk := hgo.1
                clear hgo
                obtain ⟨g6, off6, rfl, -, hc6⟩ := HE7.out.at hjk
                have hcell := hc6 j hjk
                rw [ends_nth x0 k j hjk] at hcell
                obtain ⟨E, HE⟩ : ∃ E, Hid (E = (flat (x0.take (j + 1))).length) := ⟨_, rfl⟩
                rw [← HE.out] at hcell HG
                have hE : (E : Int) ≤ (N : Int) := by have := HG.out; omega
                clear hc6
                go_wp2
                go_round
                case rel => exact ⟨j + 1, by omega, by go_num, by rw [← HE.out]; exact HG.out⟩
                case measure => simp [intOf]; omega
              · have hLj : L = x0.take j := all_one L _ _ HAl.out (all_cut x0 N j HTx.out (by rw [HL0.out]; omega) HJC.out (fun h => by rw [HL0.out] at h; omega))
                have HMj : Hid (M = (flat (x0.take j)).length) := by show _ = _; rw [HMf.out, hLj]
                rw [hLj] at HI7
                have HC2 := hide hgo
                clear hgo hLj
                obtain ⟨bl, hsl, hlb⟩ := isT_cutTo (H0.out.keep hb8) j (by omega) .i64 (j : Int) rfl
                have HLb := hide hlb
                clear hlb
                rcases Nat.eq_zero_or_pos j with j0 | j0
                · have hM0 : M = 0 := by rw [HMj.out, j0]; rfl
                  have hM1 : ((M : Int) == 0) = true := by simp [hM0]
                  have hj1 : ((0 : Int) < (j : Int)) = False := by simp; omega
                  have hj2 : ((j : Int) == 0) = true := by simp [j0]
                  have hj3 : (0 < j) = False := by simp; omega
                  clear hM0 j0
                  by_cases hjk : j < k
                  · obtain ⟨g6, off6, rfl, -, hc6⟩ := HE7.out.at hjk
                    have hcell := hc6 j hjk
                    rw [ends_nth x0 k j hjk] at hcell
                    obtain ⟨E, HE⟩ : ∃ E, Hid (E = (flat (x0.take (j + 1))).length) := ⟨_, rfl⟩
                    rw [← HE.out] at hcell HC2
                    have hE : ((E : Int) ≤ (N : Int)) = False := by have := HC2.out; simp; omega
                    clear hc6 HC2
                    go_wp2_with (first
                      | (go_at_call 16; go_must (refine (sameT_self a7 n7 c7 _ bl j cap0 _ HI7.out HLb.out).mono ?_); rintro e wd ⟨rfl, hbd⟩))
                    go_ret
                    exact ⟨rfl, hb8.trans (hbd.mono hb8.size)⟩
                  · have hjk2 : ((j : Int) < (k : Int)) = False := by simp; omega
                    go_wp2_with (first
                      | (go_at_call 16; go_must (refine (sameT_self a7 n7 c7 _ bl j cap0 _ HI7.out HLb.out).mono ?_); rintro e wd ⟨rfl, hbd⟩))
                    go_ret
                    exact ⟨rfl, hb8.trans (hbd.mono hb8.size)⟩
                · obtain ⟨i, hi⟩ : ∃ i, j = i + 1 := ⟨j - 1, by omega⟩
                  have hji : (j : Int) - 1 = (i : Int) := by omega
                  have hj1 : ((0 : Int) < (j : Int)) = True := by simp; omega
                  have hj2 : ((j : Int) == 0) = false := by simp; omega
                  obtain ⟨g6, off6, rfl, -, hc6⟩ := HE7.out.at (show i < k by omega)
                  have hcell0 := hc6 i (by omega)
                  rw [ends_nth x0 k i (by omega), ← hi, ← HMj.out] at hcell0
                  clear hi
                  by_cases hjk : j < k
                  · have hcell := hc6 j hjk
                    rw [ends_nth x0 k j hjk] at hcell
                    obtain ⟨E, HE⟩ : ∃ E, Hid (E = (flat (x0.take (j + 1))).length) := ⟨_, rfl⟩
                    rw [← HE.out] at hcell HC2
                    have hE : ((E : Int) ≤ (N : Int)) = False := by have := HC2.out; simp; omega
                    clear hc6 HC2
                    go_wp2_with (first
                      | (go_at_call 16; go_must (refine (sameT_self a7 n7 c7 _ bl j cap0 _ HI7.out HLb.out).mono ?_); rintro e wd ⟨rfl, hbd⟩))
                    go_ret
                    exact ⟨rfl, hb8.trans (hbd.mono hb8.size)⟩
                  · have hjk2 : ((j : Int) < (k : Int)) = False := by simp; omega
                    clear hc6
                    go_wp2_with (first
                      | (go_at_call 16; go_must (refine (sameT_self a7 n7 c7 _ bl j cap0 _ HI7.out HLb.out).mono ?_); rintro e wd ⟨rfl, hbd⟩))
                    go_ret
                    exact ⟨rfl, hb8.trans (hbd.mono hb8.size)⟩
          · have hA0 : ¬ a1 < 0 := by omega
            go_wp2_with (first
              | (go_at_call 14; refine (all_any bt N c5 _ _ HTB.out HB.out).mono ?_; rintro e w7 ⟨a7, n7, c7, L, rfl, hL, hI7, hb7⟩; have HAl := hide hL; have HI7 := hide hI7; have HE7 := hide (hI6.keep hb7); have hb8 := hbr.trans (hb7.mono hbr.size); clear hL hI7))
            obtain ⟨M, HMf⟩ : ∃ M, Hid (M = (flat L).length) := ⟨_, rfl⟩
            rw [← HMf.out]
            go_loop [11] (fun i => ∃ j : Nat, j ≤ k ∧ i = .int .i64 j ∧ (flat (x0.take j)).length ≤ N) (fun i => k - (intOf i).toNat)
            case atStart => exact ⟨0, Nat.zero_le _, rfl, Nat.zero_le _⟩
            case round =>
              obtain ⟨j, hj, rfl, hjc⟩ := hrel
              have HJC := hide hjc
              clear hjc
              by_cases hgo : j < k ∧ (flat (x0.take (j + 1))).length ≤ N
              · have HG := hide hgo.2
                have hjk := hgo.1
                clear hgo
                obtain ⟨g6, off6, rfl, -, hc6⟩ := HE7.out.at hjk
                have hcell := hc6 j hjk
                rw [ends_nth x0 k j hjk] at hcell
                obtain ⟨E, HE⟩ : ∃ E, Hid (E = (flat (x0.take (j + 1))).length) := ⟨_, rfl⟩
                rw [← HE.out] at hcell HG
                have hE : (E : Int) ≤ (N : Int) := by have := HG.out; omega
                clear hc6
                go_wp2
                go_round
                case rel => exact ⟨j + 1, by omega, by go_num, by rw [← HE.out]; exact HG.out⟩
                case measure => simp [intOf]; omega
              · have hLj : L = x0.take j := all_one L _ _ HAl.out (all_cut x0 N j HTx.out (by rw [HL0.out]; omega) HJC.out (fun h => by rw [HL0.out] at h; omega))
                have HMj : Hid (M = (flat (x0.take j)).length) := by show _ = _; rw [HMf.out, hLj]
                rw [hLj] at HI7
                have HC2 := hide hgo
                clear hgo hLj
                obtain ⟨bl, hsl, hlb⟩ := isT_cutTo (H0.out.keep hb8) j (by omega) .i64 (j : Int) rfl
                have HLb := hide hlb
                clear hlb
                rcases Nat.eq_zero_or_pos j with j0 | j0
                · have hM0 : M = 0 := by rw [HMj.out, j0]; rfl
                  have hM1 : ((M : Int) == 0) = true := by simp [hM0]
                  have hj1 : ((0 : Int) < (j : Int)) = False := by simp; omega
                  have hj2 : ((j : Int) == 0) = true := by simp [j0]
                  have hj3 : (0 < j) = False := by simp; omega
                  clear hM0 j0
                  by_cases hjk : j < k
                  · obtain ⟨g6, off6, rfl, -, hc6⟩ := HE7.out.at hjk
                    have hcell := hc6 j hjk
                    rw [ends_nth x0 k j hjk] at hcell
                    obtain ⟨E, HE⟩ : ∃ E, Hid (E = (flat (x0.take (j + 1))).length) := ⟨_, rfl⟩
                    rw [← HE.out] at hcell HC2
                    have hE : ((E : Int) ≤ (N : Int)) = False := by have := HC2.out; simp; omega
                    clear hc6 HC2
                    go_wp2_with (first
                      | (go_at_call 16; go_must (refine (sameT_self a7 n7 c7 _ bl j cap0 _ HI7.out HLb.out).mono ?_); rintro e wd ⟨rfl, hbd⟩))
                    go_ret
                    exact ⟨rfl, hb8.trans (hbd.mono hb8.size)⟩
                  · have hjk2 : ((j : Int) < (k : Int)) = False := by simp; omega
                    go_wp2_with (first
                      | (go_at_call 16; go_must (refine (sameT_self a7 n7 c7 _ bl j cap0 _ HI7.out HLb.out).mono ?_); rintro e wd ⟨rfl, hbd⟩))
                    go_ret
                    exact ⟨rfl, hb8.trans (hbd.mono hb8.size)⟩
                · obtain ⟨i, hi⟩ : ∃ i, j = i + 1 := ⟨j - 1, by omega⟩
                  have hji : (j : Int) - 1 = (i : Int) := by omega
                  have hj1 : ((0 : Int) < (j : Int)) = True := by simp; omega
                  have hj2 : ((j : Int) == 0) = false := by simp; omega
                  obtain ⟨g6, off6, rfl, -, hc6⟩ := HE7.out.at (show i < k by omega)
                  have hcell0 := hc6 i (by omega)
                  rw [ends_nth x0 k i (by omega), ← hi, ← HMj.out] at hcell0
                  clear hi
                  by_cases hjk : j < k
                  · have hcell := hc6 j hjk
                    rw [ends_nth x0 k j hjk] at hcell
                    obtain ⟨E, HE⟩ : ∃ E, Hid (E = (flat (x0.take (j + 1))).length) := ⟨_, rfl⟩
                    rw [← HE.out] at hcell HC2
                    have hE : ((E : Int) ≤ (N : Int)) = False := by have := HC2.out; simp; omega
                    clear hc6 HC2
                    go_wp2_with (first
                      | (go_at_call 16; go_must (refine (sameT_self a7 n7 c7 _ bl j cap0 _ HI7.out HLb.out).mono ?_); rintro e wd ⟨rfl, hbd⟩))
                    go_ret
                    exact ⟨rfl, hb8.trans (hbd.mono hb8.size)⟩
                  · have hjk2 : ((j : Int) < (k : Int)) = False := by simp; omega
                    clear hc6
                    go_wp2_with (first
                      | (go_at_call 16; go_must (refine (sameT_self a7 n7 c7 _ bl j cap0 _ HI7.out HLb.out).mono ?_); rintro e wd ⟨rfl, hbd⟩))
                    go_ret
                    exact ⟨rfl, hb8.trans (hbd.mono hb8.size)⟩
        · obtain ⟨c, rfl⟩ := Int.eq_ofNat_of_zero_le (show 0 ≤ a1 by omega)
          have hcN : (c : Int) ≤ (N : Int) := by omega
          have hor : ((c : Int) < 0 ∨ (N : Int) < (c : Int)) = False := by simp; omega
          clear hA
          obtain ⟨bt, hst, htb⟩ := isB_cutTo hI5 c (by omega) .i64 (c : Int) rfl
          have HTB := hide htb
          have HB : Hid (c ≤ 1000000000) := by show _ ≤ _; have := HNs.out; omega
          clear htb
          go_wp2_with (first
            | (go_at_call 14; refine (all_any bt c c5 _ _ HTB.out HB.out).mono ?_; rintro e w7 ⟨a7, n7, c7, L, rfl, hL, hI7, hb7⟩; have HAl := hide hL; have HI7 := hide hI7; have HE7 := hide (hI6.keep hb7); have hb8 := hbr.trans (hb7.mono hbr.size); clear hL hI7))
          obtain ⟨M, HMf⟩ : ∃ M, Hid (M = (flat L).length) := ⟨_, rfl⟩
          rw [← HMf.out]
          go_loop [11] (fun i => ∃ j : Nat, j ≤ k ∧ i = .int .i64 j ∧ (flat (x0.take j)).length ≤ c) (fun i => k - (intOf i).toNat)
          case atStart => exact ⟨0, Nat.zero_le _, rfl, Nat.zero_le _⟩
          case round =>
            obtain ⟨j, hj, rfl, hjc⟩ := hrel
            have HJC := hide hjc
            clear hjc
            by_cases hgo : j < k ∧ (flat (x0.take (j + 1))).length ≤ c
            · have HG := hide hgo.2
              have hjk := hgo.1
              clear hgo
              obtain ⟨g6, off6, rfl, -, hc6⟩ := HE7.out.at hjk
              have hcell := hc6 j hjk
              rw [ends_nth x0 k j hjk] at hcell
              obtain ⟨E, HE⟩ : ∃ E, Hid (E = (flat (x0.take (j + 1))).length) := ⟨_, rfl⟩
              rw [← HE.out] at hcell HG
              have hE : (E : Int) ≤ (c : Int) := by have := HG.out; omega
              clear hc6
              go_wp2
              go_round
              case rel => exact ⟨j + 1, by omega, by go_num, by rw [← HE.out]; exact HG.out⟩
              case measure => simp [intOf]; omega
            · have hLj : L = x0.take j := all_one L _ _ HAl.out (all_cut x0 c j HTx.out (by rw [HL0.out]; omega) HJC.out (fun h => by rw [HL0.out] at h; omega))
              have HMj : Hid (M = (flat (x0.take j)).length) := by show _ = _; rw [HMf.out, hLj]
              rw [hLj] at HI7
              have HC2 := hide hgo
              clear hgo hLj
              obtain ⟨bl, hsl, hlb⟩ := isT_cutTo (H0.out.keep hb8) j (by omega) .i64 (j : Int) rfl
              have HLb := hide hlb
              clear hlb
              rcases Nat.eq_zero_or_pos j with j0 | j0
              · have hM0 : M = 0 := by rw [HMj.out, j0]; rfl
                have hM1 : ((M : Int) == 0) = true := by simp [hM0]
                have hj1 : ((0 : Int) < (j : Int)) = False := by simp; omega
                have hj2 : ((j : Int) == 0) = true := by simp [j0]
                have hj3 : (0 < j) = False := by simp; omega
                clear hM0 j0
                by_cases hjk : j < k
                · obtain ⟨g6, off6, rfl, -, hc6⟩ := HE7.out.at hjk
                  have hcell := hc6 j hjk
                  rw [ends_nth x0 k j hjk] at hcell
                  obtain ⟨E, HE⟩ : ∃ E, Hid (E = (flat (x0.take (j + 1))).length) := ⟨_, rfl⟩
                  rw [← HE.out] at hcell HC2
                  have hE : ((E : Int) ≤ (c : Int)) = False := by have := HC2.out; simp; omega
                  clear hc6 HC2
                  go_wp2_with (first
                    | (go_at_call 16; go_must (refine (sameT_self a7 n7 c7 _ bl j cap0 _ HI7.out HLb.out).mono ?_); rintro e wd ⟨rfl, hbd⟩))
                  go_ret
                  exact ⟨rfl, hb8.trans (hbd.mono hb8.size)⟩
                · have hjk2 : ((j : Int) < (k : Int)) = False := by simp; omega
                  go_wp2_with (first
                    | (go_at_call 16; go_must (refine (sameT_self a7 n7 c7 _ bl j cap0 _ HI7.out HLb.out).mono ?_); rintro e wd ⟨rfl, hbd⟩))
                  go_ret
                  exact ⟨rfl, hb8.trans (hbd.mono hb8.size)⟩
              · obtain ⟨i, hi⟩ : ∃ i, j = i + 1 := ⟨j - 1, by omega⟩
                have hji : (j : Int) - 1 = (i : Int) := by omega
                have hj1 : ((0 : Int) < (j : Int)) = True := by simp; omega
                have hj2 : ((j : Int) == 0) = false := by simp; omega
                obtain ⟨g6, off6, rfl, -, hc6⟩ := HE7.out.at (show i < k by omega)
                have hcell0 := hc6 i (by omega)
                rw [ends_nth x0 k i (by omega), ← hi, ← HMj.out] at hcell0
                clear hi
                by_cases hjk : j < k
                · have hcell := hc6 j hjk
                  rw [ends_nth x0 k j hjk] at hcell
                  obtain ⟨E, HE⟩ : ∃ E, Hid (E = (flat (x0.take (j + 1))).length) := ⟨_, rfl⟩
                  rw [← HE.out] at hcell HC2
                  have hE : ((E : Int) ≤ (c : Int)) = False := by have := HC2.out; simp; omega
                  clear hc6 HC2
                  go_wp2_with (first
                    | (go_at_call 16; go_must (refine (sameT_self a7 n7 c7 _ bl j cap0 _ HI7.out HLb.out).mono ?_); rintro e wd ⟨rfl, hbd⟩))
                  go_ret
                  exact ⟨rfl, hb8.trans (hbd.mono hb8.size)⟩
                · have hjk2 : ((j : Int) < (k : Int)) = False := by simp; omega
                  clear hc6
                  go_wp2_with (first
                    | (go_at_call 16; go_must (refine (sameT_self a7 n7 c7 _ bl j cap0 _ HI7.out HLb.out).mono ?_); rintro e wd ⟨rfl, hbd⟩))
                  go_ret
                  exact ⟨rfl, hb8.trans (hbd.mono hb8.size)⟩

set_option maxRecDepth 100000 in
theorem lifted (os : Os) (started : os.Started) (H : Type) (enc : TypeId × Value → H) :
    ReturnsInHanded {} Try.checked os 5 .any (Rows.frameBackSpec.pre6 enc Try.prog Try.f5 Rows.frameBackRow.domain false) (Rows.frameBackSpec.post enc Try.prog Try.f5 false true false false) := by
  refine returnsInHanded_of_change (C := Try.checked) own started (by kernel_rfl) Try.func5
    (ChangeSpec.witness6 (enc := enc) (C := Try.checked) false ⟨#[], #[.slice none 0 0, .int .i64 0], []⟩ 8 (by kernel_rfl) (by kernel_rfl) (by kernel_rfl) (by kernel_rfl)) ?_
  intro W base args ds gs before hval0 hW hcnd _
  have hval : ∀ (j : Nat) t v, Try.f5.params[j]? = some t → args[j]? = some v → Value.okWide Try.prog W .any base t v := hval0
  have hW' := hW
  obtain ⟨p, q, hA0, hV, rfl, hfz, hnd⟩ := hW
  have hA : DataW.TrodAll enc Try.prog W 0 (fun _ => true) true Try.f5.params.toList args.toList ds p := hA0
  rw [Try.params5] at hA hval
  obtain ⟨v0, vs0, d0, ds0, p0, q0, hargs, rfl, rfl, h0, r0⟩ := trodAll_cons hA
  obtain ⟨v1, vs1, d1, ds1, p1, q1, rfl, rfl, rfl, h1, r1⟩ := trodAll_cons r0
  obtain ⟨rfl, rfl, rfl⟩ := trodAll_nil r1
  obtain rfl : args = #[v0, v1] := by cases args; simp_all
  obtain ⟨rfl, rfl⟩ := trodVars_none hV
  obtain ⟨a0, len0, cap0, rfl⟩ := okWide_slice Try.underlying32 (hval 0 32 v0 rfl rfl)
  have k0 := h0
  have lt0 : ∀ x ∈ p0, x.block < W.heap.size := by obtain ⟨m, hm⟩ := k0; exact DataW.trod_lt m _ _ _ hm
  obtain ⟨x0, w0⟩ : ∃ xs, IsTexts W a0 len0 cap0 xs := by
    obtain ⟨fuel, hf⟩ := h0
    exact open_texts (by simpa [Value.cells] using hf)
  have k1 := h1
  have lt1 : ∀ x ∈ p1, x.block < W.heap.size := by obtain ⟨m, hm⟩ := k1; exact DataW.trod_lt m _ _ _ hm
  obtain ⟨a1, rfl, w1⟩ : ∃ n, v1 = .int .i64 n ∧ (Lit.int .i64 n).wf = true := by
    obtain ⟨n, hn, _, _, hw⟩ := open_int Try.underlying3 (hval 1 3 v1 rfl rfl) h1
    exact ⟨n, hn, hw⟩
  clear hA0 hval0
  refine (walk a0 len0 cap0 x0 a1 W w0 w1).mono fun e W' ⟨he, bel⟩ => ?_
  subst he
  exact ⟨_, rfl, _, _, _, [], _, [], hW', trodAll_mk1 (shut_bool Try.underlying4 _), (trodAll_cons_mk (Below.trod laidOut (by kernel_rfl) (of_decide_eq_true (by kernel_rfl)) k0 bel lt0) (trodAll_cons_mk (Below.trod laidOut (by kernel_rfl) (of_decide_eq_true (by kernel_rfl)) k1 bel lt1) trodAll_mk0)), rfl, bel.frame _, fun h => by cases h⟩

theorem over : Rows.frameBackRow.holds Try.pinned (OpenSpec.ofChange Rows.frameBackSpec) :=
  OpenClaim.holds_of_wide 5 Try.f5 rfl rfl rfl rfl rfl rfl rfl ⟨rfl, rfl, rfl, rfl, rfl⟩ rfl rfl rfl rfl rfl (by kernel_rfl) Try.func5 (by kernel_rfl)
    (of_decide_eq_true (by kernel_rfl)) (by unfold Func.isWrapper; first | (rw [if_pos (by decide +kernel)]; kernel_rfl) | (rw [if_neg (by decide +kernel)]; exact ⟨rfl, rfl⟩))
    (fun os started H enc _ => lifted os started H enc)

theorem proved : Rows.FrameBackSaid := over
end Go.Proofs.Ytcmimhhealokhaa.frameBack
namespace Go.Proofs.Ytcmimhhealokhaa
theorem frameBack_holds : Rows.FrameBackSaid := frameBack.proved
#print axioms frameBack_holds
end Go.Proofs.Ytcmimhhealokhaa
