/- The chapter's examples: awake answers true. -/
import Derived.Test.YtfihjhcjkgpgfaaOkeyPutC
import Derived.Test.YtfihjhcjkgpgfaaOkeyNext
namespace Go.Proofs.Ytfihjhcjkgpgfaa
open Go.RowKit NumMath
set_option linter.unusedVariables false

def awakeVals : List Val := [⟨0, 0, ByteArray.empty⟩, ⟨1, 1, ByteArray.empty⟩]

theorem awake_key : keyL awakeVals = [1, 2, 128, 0, 0, 0, 0, 0, 0, 1] := by decide
theorem awake_next : nextL [97, 255] = [98] := by decide

theorem awake_vals (w : World) : IsVals (w.alloc (.cells #[.int .i64 0, .int .i64 0, .string ByteArray.empty, .int .i64 1, .int .i64 1, .string ByteArray.empty] 27)) (some ⟨w.heap.size, 0, none⟩) 2 2 awakeVals := by
  refine ⟨rfl, Nat.le_refl _, by unfold maxLen; omega, ?_, .inr ⟨w.heap.size, 0, rfl, by simp, ?_⟩⟩
  · intro v hv
    simp [awakeVals] at hv
    rcases hv with rfl | rfl <;> simp [Val.fits, maxLen]
  · intro i hi
    match i, hi with
    | 0, _ => simp [awakeVals]
    | 1, _ => simp [awakeVals]

theorem awake_bytes (w : World) : IsBytes (w.alloc (.cells #[.int .u8 97, .int .u8 255] 5)) (some ⟨w.heap.size, 0, none⟩) 2 2 [97, 255] := by
  refine ⟨rfl, Nat.le_refl _, by unfold maxLen; omega, ?_, .inr ⟨w.heap.size, 0, rfl, by simp, ?_⟩⟩
  · intro c hc
    simp at hc
    omega
  · intro i hi
    match i, hi with
    | 0, _ => simp
    | 1, _ => simp

set_option maxHeartbeats 400000 in
theorem okawake_any (w : World) : Calls Try.prog 9 #[] w fun e w' => e = .returned (.bool true) ∧ Below w.heap.size w w' := by
  go_enter Try.func9, Try.ntmps9
  go_wp2_with (first
    | (go_at_call 17; go_must (refine (okput_any _ 2 2 awakeVals _ (awake_vals w) ?_).mono ?_); (rw [awake_key]; decide); rintro e w1 ⟨v1, rfl, hown1, hb1⟩; rw [awake_key] at hown1; obtain ⟨g1, cap1, rfl, hg1, hg1', hcap1, hmax1⟩ := hown1.row (n := 10) rfl (by decide); have hc0 := (ownB_cell hown1 0 (by decide)).1; have hc2 := (ownB_cell hown1 2 (by decide)).1; have hb1' := ((Below.refl w.heap.size w).alloc (Nat.le_refl _) _).trans (hb1.mono (by simp)); have hsz1 := hb1'.size; clear hown1 hb1; unfold maxLen at hmax1)
    | (go_at_call 21; go_must (refine (next_any _ 2 2 [97, 255] _ (awake_bytes w1) ?_).mono ?_); decide; rintro e w2 ⟨v2, rfl, hown2, hb2⟩; rw [awake_next] at hown2; obtain ⟨g2, cap2, rfl, hg2, hg2', hcap2, hmax2⟩ := hown2.row (n := 1) rfl (by decide); have hd0 := (ownB_cell hown2 0 (by decide)).1; have hb2' := ((Below.refl w1.heap.size w1).alloc (Nat.le_refl _) _).trans (hb2.mono (by simp)); have hc0' := (hb2'.cell (p := ⟨g1, 0, none⟩) hg1').trans hc0; have hc2' := (hb2'.cell (p := ⟨g1, 2, none⟩) hg1').trans hc2; clear hown2 hb2 hc0 hc2; unfold maxLen at hmax2))
  go_ret
  exact ⟨rfl, hb1'.trans (hb2'.mono hsz1)⟩

end Go.Proofs.Ytfihjhcjkgpgfaa
