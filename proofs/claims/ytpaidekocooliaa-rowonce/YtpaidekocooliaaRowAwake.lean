/- The chapter's examples: awake answers true. -/
import Derived.Test.YtpaidekocooliaaRowRead2
import Derived.Test.YtpaidekocooliaaOkeyNext
namespace Go.Proofs.Ytpaidekocooliaa
open Go.RowKit NumMath
set_option linter.unusedVariables false

theorem num300 : numL 300 = [130, 44] := by
  show numN 300 = _
  unfold numN
  rw [show 300 / 128 = 2 from rfl, hiN_step (by decide), show 2 / 128 = 0 from rfl, hiN_zero]
  rfl

theorem num80 : numAt [128, 5] = none := by unfold numAt; rw [scan, if_pos (.inl ⟨rfl, rfl⟩)]

theorem rd80 : rdN 500 (some [128, 5]) = (0, none) := by unfold rdN; dsimp only; rw [num80]

theorem two_bytes (w : World) (x y : Int) (hx : 0 ≤ x ∧ x < 256) (hy : 0 ≤ y ∧ y < 256) : IsBytes (w.alloc (.cells #[.int .u8 x, .int .u8 y] 5)) (some ⟨w.heap.size, 0, none⟩) 2 2 [x, y] := by
  refine ⟨rfl, Nat.le_refl _, by unfold maxLen; omega, ?_, .inr ⟨w.heap.size, 0, rfl, by simp, ?_⟩⟩
  · intro c hc
    simp at hc
    omega
  · intro i hi
    match i, hi with
    | 0, _ => simp
    | 1, _ => simp

set_option maxHeartbeats 1000000 in
theorem rowawake_any (w : World) : Calls Try.prog 9 #[] w fun e w' => e = .returned (.bool true) ∧ Below w.heap.size w w' := by
  have H0 := hide (isW_new w w.heap.size _ rfl (Nat.le_refl _))
  have HRd := hide (fun p q w h => rdN_any p q (some [128, 5]) 500 w h (by omega) (by omega))
  rw [rd80] at HRd
  go_enter Try.func9, Try.ntmps9
  go_wp2_with (first
    | (go_at_call 32; refine (wN_any w.heap.size w.heap.size [] 300 (w.heap.size + 1) _ (H0.out.keep (new_below _ _)) (one_num _ _ _ (by simp)) (by omega) (by omega) (by simp) (by simp; omega)).mono ?_; rintro e w1 ⟨rfl, hpost⟩; rw [num300] at hpost; have HP1 := hide hpost; have hb1 := ((new_below w _).alloc (by simp) _).trans (hpost.below (H0.out.keep (new_below _ _)) (by simp; omega)); have hsz1 := hb1.size; clear hpost)
    | (go_at_call 36; refine (wBytes_any w.heap.size w.heap.size _ _ HP1.out.1 (by simp)).mono ?_; rintro e w2 ⟨v2, rfl, hown2, hb2⟩; simp only [List.nil_append] at hown2; obtain ⟨g2, c2, rfl, hg2, hg2', hcap2, hmax2⟩ := hown2.row (n := 2) rfl (by decide); have hc0 := (ownB_cell hown2 0 (by decide)).1; have hc1 := (ownB_cell hown2 1 (by decide)).1; have hb2' := hb1.trans (hb2.mono hsz1); have hsz2 := hb2'.size; clear hown2 hb2; unfold maxLen at hmax2)
    | (go_at_call 12; refine (read_any _ 2 2 [128, 5] _ (two_bytes _ 128 5 (by omega) (by omega)) (by omega)).mono ?_; rintro e w3 ⟨p3, q3, rfl, hp3, hq3, hR3, hb3⟩; have HR3 := hide hR3; have hb3' := (new_below w2 _).trans (hb3.mono (by simp)); have hd0 := (hb3'.cell (p := ⟨g2, 0, none⟩) hg2').trans hc0; have hd1 := (hb3'.cell (p := ⟨g2, 1, none⟩) hg2').trans hc1; have hb3'' := hb2'.trans (hb3'.mono hsz2); have hpw : w.heap.size ≤ p3 := (by simp only [World.size_alloc] at hp3; omega); clear hR3 hb3 hc0 hc1)
    | (go_at_call 13; refine (HRd.out p3 q3 _ HR3.out).mono ?_; rintro e w4 ⟨rfl, hpost⟩; have HR4 := hide hpost.1; have hb4 := hb3''.trans (hpost.2.below (B := w.heap.size) hb3''.size (by rintro k rfl; exact hpw)); clear hpost)
    | (go_at_call 22; refine (end_any p3 q3 none _ HR4.out).mono ?_; rintro e w' ⟨rfl, hw⟩; have hw := hw.symm; subst hw))
  go_ret
  exact ⟨rfl, hb4⟩

end Go.Proofs.Ytpaidekocooliaa
