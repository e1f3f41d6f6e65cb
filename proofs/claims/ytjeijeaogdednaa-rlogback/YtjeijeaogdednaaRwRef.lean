/- The reference's N, Text and Val: the same bytes, in memory of their own. -/
import Derived.Test.YtjeijeaogdednaaRwWriter
import Derived.Deep.RegionHeld
import Derived.Deep.RegionHeld3
namespace Go.Proofs.Ytjeijeaogdednaa
open Go.RowKit NumMath
set_option linter.unusedVariables false

theorem own_one (w : World) (B : Nat) (c : Int) (hB : B ≤ w.heap.size) : OwnB (w.alloc (.cells #[.int .u8 c] 5)) B (.slice (some ⟨w.heap.size, 0, none⟩) 1 1) [c] :=
  ⟨by simp, .inr ⟨w.heap.size, 1, #[.int .u8 c], rfl, hB, heap_alloc_new w _, Nat.le_refl _, by unfold maxLen; omega, rfl, rfl⟩⟩

set_option maxHeartbeats 1000000 in
theorem rN_any (a : Option Addr) (len cap : Nat) (bs : List Int) (n : Int) (w : World) (hs : SrcB w a len bs) (h1 : 0 ≤ n) (h2 : n ≤ 18446744073709551615) (hl : len ≤ 1000000000) :
    Calls Try.prog 63 #[.slice a len cap, .int .u64 n] w fun e w' => ∃ v, e = .returned v ∧ OwnB w' w.heap.size v (bs ++ numL n) ∧ Below w.heap.size w w' := by
  have HS := hide hs
  clear hs
  have HNL := hide (numL_length n h1 h2)
  go_enter Try.func63, Try.ntmps63
  go_wp2
  go_loopw [1, 5] (fun x v wr => ∃ (m : Nat) (P : List Int), x = .int .u64 m ∧ m < 18446744073709551616 ∧ OwnB wr w.heap.size v P ∧ hiN m ++ P = numL n ∧ Below w.heap.size w wr) (fun x _ _ => (intOf x).toNat)
  case atStart =>
    refine ⟨n.toNat / 128, [n % 128], ?_, by omega, own_one w _ _ (Nat.le_refl _), ?_, new_below _ _⟩
    · have : ((n.toNat / 128 : Nat) : Int) = n / 128 := by omega
      rw [this]
    · unfold numL numN
      have : ((n.toNat % 128 : Nat) : Int) = n % 128 := by omega
      rw [this]
  case round =>
    obtain ⟨m, P, rfl, hm, hown, hP, hb⟩ := hrel
    have hsz := hb.size
    have HO := hide hown
    have HP := hide hP
    have HPL : Hid (P.length ≤ 10) := by
      have := HNL.out
      rw [← hP, List.length_append] at this
      show _ ≤ _
      omega
    obtain ⟨pa, pc, rfl, hsrc, -⟩ := hown.src
    have HSP := hide hsrc
    clear hown hP hsrc
    by_cases h0 : m = 0
    · subst h0
      go_wp2_with (first
        | (at_builtin; refine wp_joinB _ rfl (.const (.slice none 0 0)) (.tmp 23) rfl w.heap.size _ [] rfl (ownB_nil _ _) a len cap bs rfl (HS.out.keep hb) (by rw [HS.out.1]; simp; omega) (by omega) ?_; intro v2 w2 hown2 hg2 hat2; have hb2 : Below wr.heap.size wr w2 := (Below.refl _ _).grown hg2 (Nat.le_refl _) (by intro k hk; cases hk); have HO2 := hide hown2; have hsz2 := hb2.size; have HSP2 := hide (HSP.out.keep hb2); clear hown2 hg2 hat2)
        | (at_builtin; go_must (refine wp_joinB _ rfl (.tmp 24) (.tmp 25) rfl w.heap.size _ _ rfl HO2.out pa P.length pc P rfl HSP2.out (by have := HPL.out; simp only [List.nil_append]; rw [HS.out.1]; omega) (by omega) ?_); intro v3 w3 hown3 hg3 hat3; have hb3 := hb.trans ((hb2.mono hsz).trans (HO2.out.grown hg3 (by omega))); have HO3 := hide hown3; clear hown3 hg3 hat3))
      go_ret
      refine ⟨v3, rfl, ?_, hb3⟩
      have h3 := HO3.out
      have h4 := HP.out
      rw [hiN_zero, List.nil_append] at h4
      rw [h4, List.nil_append] at h3
      exact h3
    · have hm0 : 0 < m := by omega
      have HX := hide (hiN_step h0)
      go_wp2_with (first
        | (at_builtin; go_must (refine wp_joinB _ rfl (.tmp 20) (.tmp 21) rfl w.heap.size _ [(m : Int) % 128 + 128] rfl (own_one wr _ _ hsz) pa P.length pc P rfl (HSP.out.keep (new_below _ _)) (by have := HPL.out; simp only [List.length_singleton]; omega) (by simp; omega) ?_); intro v3 w3 hown3 hg3 hat3; have hb3 := (hb.alloc hsz _).trans ((own_one wr _ _ hsz).grown hg3 (by simp; omega)); have HO3 := hide hown3; clear hown3 hg3 hat3))
      go_roundw
      case rel =>
        refine ⟨m / 128, ((m : Int) % 128 + 128) :: P, ?_, by omega, HO3.out, ?_, hb3⟩
        · have : ((m / 128 : Nat) : Int) = (m : Int) / 128 := by omega
          rw [this]
        · have h4 := HP.out
          rw [HX.out, List.append_assoc, List.singleton_append] at h4
          have : ((m % 128 : Nat) : Int) = (m : Int) % 128 := by omega
          rw [this] at h4
          exact h4
      case measure => simp [intOf]; omega

set_option maxHeartbeats 400000 in
theorem rText_any (a : Option Addr) (len cap : Nat) (bs : List Int) (b : Option Addr) (m c : Nat) (xs : List Int) (w : World) (hs : SrcB w a len bs) (hx : SrcB w b m xs) (hl : len ≤ 100000000) (hm : m ≤ 100000000) :
    Calls Try.prog 66 #[.slice a len cap, .slice b m c] w fun e w' => ∃ v, e = .returned v ∧ OwnB w' w.heap.size v (bs ++ (numL m ++ xs)) ∧ Below w.heap.size w w' := by
  have HS := hide hs
  have HX := hide hx
  clear hs hx
  have HNL := hide (numL_length (m : Int) (by omega) (by omega))
  go_enter Try.func66, Try.ntmps66
  go_wp2_with (first
    | (go_at_call 63; go_must (refine (rN_any a len cap bs (m : Int) _ HS.out (by omega) (by omega) (by omega)).mono ?_); rintro e w2 ⟨v2, rfl, hown2, hb2⟩; have HO2 := hide hown2; have HX2 := hide (HX.out.keep hb2); have hsz2 := hb2.size; clear hown2)
    | (at_builtin; go_must (refine wp_joinB _ rfl (.tmp 9) (.tmp 10) rfl w.heap.size _ _ rfl HO2.out b m c xs rfl HX2.out (by have := HNL.out; rw [HX2.out.1, List.length_append, HS.out.1]; omega) (by omega) ?_); intro v3 w3 hown3 hg3 hat3; have hb3 := hb2.trans (HO2.out.grown hg3 (by omega)); have HO3 := hide hown3; clear hown3 hg3 hat3))
  go_ret
  refine ⟨v3, rfl, ?_, hb3⟩
  rw [← List.append_assoc]
  exact HO3.out

end Go.Proofs.Ytjeijeaogdednaa
