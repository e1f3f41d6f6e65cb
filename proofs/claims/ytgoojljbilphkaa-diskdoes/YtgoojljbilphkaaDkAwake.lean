/- The chapter's example of a disk. -/
import Derived.Test.YtgoojljbilphkaaDk2
namespace Go.Proofs.Ytgoojljbilphkaa
open Go.RowKit NumMath
set_option linter.unusedVariables false

set_option maxHeartbeats 2000000 in
theorem dkawake_any (w : World) : Calls Try.prog 7 #[] w fun e w' => e = .returned (.bool true) ∧ Below w.heap.size w w' := by
  have kc := fun (w : World) (C : Array Value) (n c : Nat) => Lib.run_convert_bytes_const (P := Try.prog) w 28 5 C n c Try.underlying28 Try.underlying5
  have E1 : Hid (dapp 10 [] [97, 98] = (0, [97, 98])) := by show _ = _; decide
  have E2 : Hid (dapp 10 [97, 98] [99] = (0, [97, 98, 99])) := by show _ = _; decide
  have E3 : Hid (crashL [97, 98, 99] 2 0 [] = [97, 98]) := by show _ = _; decide
  have e4 : ((strB [97, 98]).toList == [97, 98]) = true := by decide +kernel
  have M1 := hide (fun w => (isB_marked w [97, 98] 5 (2, 3) (by decide) (by decide)).src)
  have M2 := hide (fun w => (isB_marked w [99] 5 (1, 2) (by decide) (by decide)).src)
  go_enter Try.func7, Try.ntmps7
  go_wp2_with (first
    | (go_at_call 20; refine (dbytes_any w.heap.size w.heap.size 10 [97, 98] 2 _ HD5.out (by decide)).mono ?_; rintro e w6 ⟨v6, rfl, hown6, hb6⟩; have q6 := hown6.holds.conv; have hb6' := hb5.trans (hb6.mono hb5.size); clear hown6 hb6)
    | (go_at_call 18; refine (dcrash_any w.heap.size w.heap.size 10 [97, 98, 99] 2 0 none 0 0 [] _ HD4.out ⟨rfl, .inl rfl⟩ (by decide) (by decide) (by decide)).mono ?_; rw [E3.out]; rintro e w5 ⟨rfl, hd5, hp5⟩; have HD5 := hide hd5; have hb5 := hb4.trans (HD4.out.below hp5 hb4.size); clear hd5 hp5)
    | (go_at_call 10; refine (dapp_any w.heap.size w.heap.size 10 [97, 98] 2 _ 1 1 [99] _ (HD3.out.keep (new_below _ _)) (M2.out _) (by decide) (by decide) (by decide) (by have := hb3.size; simp; omega)).mono ?_; rw [E2.out]; rintro e w4 ⟨rfl, hd4, hp4⟩; have HD4 := hide hd4; have hb4 := (hb3.alloc hb3.size _).trans ((HD3.out.keep (new_below _ _)).below hp4 (by have := hb3.size; simp; omega)); clear hd4 hp4)
    | (go_at_call 12; refine (dsync_any w.heap.size w.heap.size 10 [97, 98] 0 _ HD2.out (by decide)).mono ?_; rintro e w3 ⟨rfl, hd3, hp3⟩; have HD3 : Hid (IsD w3 w.heap.size w.heap.size 10 [97, 98] 2) := hd3; have hb3 := hb2.trans (HD2.out.below hp3 hb2.size); clear hd3 hp3)
    | (go_at_call 10; refine (dapp_any w.heap.size w.heap.size 10 [] 0 _ 2 2 [97, 98] _ (HD1.out.keep (new_below _ _)) (M1.out _) (by decide) (by decide) (by decide) (by have := hb1.size; simp; omega)).mono ?_; rw [E1.out]; rintro e w2 ⟨rfl, hd2, hp2⟩; have HD2 := hide hd2; have hb2 := (hb1.alloc hb1.size _).trans ((HD1.out.keep (new_below _ _)).below hp2 (by have := hb1.size; simp; omega)); clear hd2 hp2)
    | (go_at_call 8; refine (dnew_any 10 _).mono ?_; rintro e w1 ⟨rfl, hd1, hb1⟩; have HD1 : Hid (IsD w1 w.heap.size w.heap.size 10 [] 0) := hd1; clear hd1))
  go_ret
  exact ⟨rfl, hb6'⟩

end Go.Proofs.Ytgoojljbilphkaa
