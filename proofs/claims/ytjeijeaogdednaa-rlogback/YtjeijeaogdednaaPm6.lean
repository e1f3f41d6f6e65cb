/- Records as bytes: the program's PutHard, PutEntry, PutSnap. -/
import Derived.Test.YtjeijeaogdednaaPmB
import Derived.Test.YtjeijeaogdednaaRpA
namespace Go.Proofs.Ytjeijeaogdednaa
open Go.RowKit NumMath
set_option linter.unusedVariables false
set_option maxRecDepth 100000

def hardB (t v : Int) : List Int := numsL [1, t, v]
def entB (e : Ent) : List Int := numsL [2, e.i, e.t] ++ numL (zigV e.k) ++ (numL (e.d.length : Int) ++ e.d)
def snapB (s : Snp) : List Int := numsL [3, s.i, s.t] ++ (numL ((memB s.m).length : Int) ++ memB s.m) ++ (numL (s.d.length : Int) ++ s.d)

theorem IsW.off {W W' : World} {base p g : Nat} {bs : List Int} (h : IsW W base p bs) (hb : Below W.heap.size W W') (hg : W.heap.size ≤ g ∨ g < base) : ¬ WB W' p g := fun hw => by
  have := h.lt (h.same hb hw)
  omega

theorem src3 (w : World) (x y z : Int) (g : Nat) (hg : w.heap.size = g) : SrcU (w.alloc (.cells #[.int .u64 x, .int .u64 y, .int .u64 z] 22)) (some ⟨g, 0, none⟩) 3 [x, y, z] := by
  subst hg
  refine ⟨rfl, .inr ⟨w.heap.size, 0, rfl, by simp, fun i hi => ?_⟩⟩
  match i, hi with
  | 0, _ => simp
  | 1, _ => simp
  | 2, _ => simp

theorem rng3 {c x y : Int} (h0 : 0 ≤ c ∧ c ≤ 18446744073709551615) (h1 : 0 ≤ x ∧ x ≤ 18446744073709551615) (h2 : 0 ≤ y ∧ y ≤ 18446744073709551615) : ∀ z ∈ [c, x, y], 0 ≤ z ∧ z ≤ 18446744073709551615 := fun z hz => by
  simp only [List.mem_cons, List.not_mem_nil, or_false] at hz
  rcases hz with rfl | rfl | rfl <;> assumption

set_option maxHeartbeats 400000 in
theorem puthard_any (t v : Int) (w : World) (h1 : 0 ≤ t ∧ t ≤ 18446744073709551615) (h2 : 0 ≤ v ∧ v ≤ 18446744073709551615) :
    Calls Try.prog 21 #[.agg #[.int .u64 t, .int .u64 v]] w fun e w' => ∃ r, e = .returned r ∧ OwnB w' w.heap.size r (hardB t v) ∧ Below w.heap.size w w' := by
  have HB0 := hide (new_below w (.cells #[.int .u64 t, .int .u64 v] 48))
  have HRg := hide (rng3 (c := 1) ⟨by decide, by decide⟩ h1 h2)
  have HLn := hide (numsL_length [1, t, v] HRg.out)
  obtain ⟨W0, hW0⟩ : ∃ W0, w.alloc (.cells #[.int .u64 t, .int .u64 v] 48) = W0 := ⟨_, rfl⟩
  have hs0 : W0.heap.size = w.heap.size + 1 := by rw [← hW0]; simp
  have HIw : Hid (IsW (W0.alloc (.cells #[.slice none 0 0] 100)) (w.heap.size + 1) (w.heap.size + 1) []) := isW_new W0 (w.heap.size + 1) (w.heap.size + 1) hs0 (Nat.le_refl _)
  have HB1 := hide (new_below W0 (.cells #[.slice none 0 0] 100))
  rw [hW0] at HB0
  have HW0 := hide hW0
  have HZ1 : Hid ((W0.alloc (.cells #[.slice none 0 0] 100)).heap.size = w.heap.size + 2) := by show _ = _; simp [hs0]
  have HC : Hid (Calls Try.prog 61 #[.pointer (some ⟨w.heap.size + 1, 0, none⟩), .slice (some ⟨w.heap.size + 2, 0, none⟩) 3 3] ((W0.alloc (.cells #[.slice none 0 0] 100)).alloc (.cells #[.int .u64 1, .int .u64 t, .int .u64 v] 22)) _) :=
    wNs_any (w.heap.size + 1) (w.heap.size + 1) [] (some ⟨w.heap.size + 2, 0, none⟩) 3 3 [1, t, v] _ (HIw.out.keep (new_below _ _)) (src3 _ 1 t v _ HZ1.out) (.inr (fun x hx => by cases hx; exact HIw.out.off (new_below _ _) (.inl (by rw [HZ1.out]; exact Nat.le_refl _)))) HRg.out (by omega) (by simp) (by simp; omega)
  rw [← HW0.out] at HC
  clear hW0 hs0
  go_enter Try.func21, Try.ntmps21
  go_wp2_with (first
    | (go_at_call 62; go_must (refine (wBytes_any (w.heap.size + 1) (w.heap.size + 1) _ _ HW5.out.1 (by have := HLn.out; simp at this ⊢; omega)).mono ?_); rintro e w7 ⟨r, rfl, hO7, hb7⟩; have HO7 := hide hO7; have HB7 := hide hb7; clear hO7 hb7)
    | (go_at_call 61; go_must (refine HC.out.mono ?_); rintro e w5 ⟨rfl, hp5⟩; rw [HW0.out] at hp5; have HW5 := hide (WPost.ahead HIw.out (new_below _ _) hp5); clear hp5))
  go_ret
  have hb5 := HW5.out.below HIw.out (by rw [HZ1.out]; omega)
  have hb15 : Below w.heap.size w w5 := (HB0.out.trans (HB1.out.mono HB0.out.size)).trans (hb5.mono (by omega))
  exact ⟨r, rfl, HO7.out.mono hb15.size, hb15.trans (HB7.out.mono hb15.size)⟩

end Go.Proofs.Ytjeijeaogdednaa
