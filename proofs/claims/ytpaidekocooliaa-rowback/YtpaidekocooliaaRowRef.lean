/- The reference's N, Text and Val: the same bytes, in memory of their own. -/
import Derived.Test.YtpaidekocooliaaRowValues
import Derived.Deep.RegionHeld
import Derived.Deep.RegionHeld3
namespace Go.Proofs.Ytpaidekocooliaa
open Go.RowKit NumMath
set_option linter.unusedVariables false

theorem own_one (w : World) (B : Nat) (c : Int) (hB : B ≤ w.heap.size) : OwnB (w.alloc (.cells #[.int .u8 c] 5)) B (.slice (some ⟨w.heap.size, 0, none⟩) 1 1) [c] :=
  ⟨by simp, .inr ⟨w.heap.size, 1, #[.int .u8 c], rfl, hB, heap_alloc_new w _, Nat.le_refl _, by unfold maxLen; omega, rfl, rfl⟩⟩

set_option maxHeartbeats 1000000 in
theorem rN_any (a : Option Addr) (len cap : Nat) (bs : List Int) (n : Int) (w : World) (hs : SrcB w a len bs) (h1 : 0 ≤ n) (h2 : n ≤ 18446744073709551615) (hl : len ≤ 1000000000) :
    Calls Try.prog 37 #[.slice a len cap, .int .u64 n] w fun e w' => ∃ v, e = .returned v ∧ OwnB w' w.heap.size v (bs ++ numL n) ∧ Below w.heap.size w w' := by
  have HS := hide hs
  clear hs
  have HNL := hide (numL_length n h1 h2)
  go_enter Try.func37, Try.ntmps37
  go_wp2
  go_loopw [1, 5] (fun x v wr => ∃ (m : Nat) (P : List Int), x = .int .u64 m ∧ m < 18446744073709551616 ∧ OwnB wr w.heap.size v P ∧ hiN m ++ P = numL n ∧ Below w.heap.size w wr) (fun x _ _ => (intOf x).toNat)
  case atStart =>
    refine ⟨n.toNat / 128, [n % 128], ?_, by omega, own_one w _ _ (Nat.le_refl _), ?_, new_below _ _⟩
    · have : ((n.toNat / 128 : Nat) : Int) = n / 128 := by omega
      rw [this]
    · unfold numL numN
      have : ((n.toNat % 128 : Nat) : Int) = n % 128 := by omega
      rw [this]
  case round =>
    obtain ⟨m, P, rfl, hm, hown, hP, hb⟩ := hrel
    have hsz := hb.size
    have HO := hide hown
    have HP := hide hP
    have HPL : Hid (P.length ≤ 10) := by
      have := HNL.out
      rw [← hP, List.length_append] at this
      show _ ≤ _
      omega
    obtain ⟨pa, pc, rfl, hsrc, -⟩ := hown.src
    have HSP := hide hsrc
    clear hown hP hsrc
    by_cases h0 : m = 0
    · subst h0
      go_wp2_with (first
        | (at_builtin; refine wp_joinB _ rfl (.const (.slice none 0 0)) (.tmp 23) rfl w.heap.size _ [] rfl (ownB_nil _ _) a len cap bs rfl (HS.out.keep hb) (by rw [HS.out.1]; simp; omega) (by omega) ?_; intro v2 w2 hown2 hg2 hat2; have hb2 : Below wr.heap.size wr w2 := (Below.refl _ _).grown hg2 (Nat.le_refl _) (by intro k hk; cases hk); have HO2 := hide hown2; have hsz2 := hb2.size; have HSP2 := hide (HSP.out.keep hb2); clear hown2 hg2 hat2)
        | (at_builtin; go_must (refine wp_joinB _ rfl (.tmp 24) (.tmp 25) rfl w.heap.size _ _ rfl HO2.out pa P.length pc P rfl HSP2.out (by have := HPL.out; simp only [List.nil_append]; rw [HS.out.1]; omega) (by omega) ?_); intro v3 w3 hown3 hg3 hat3; have hb3 := hb.trans ((hb2.mono hsz).trans (HO2.out.grown hg3 (by omega))); have HO3 := hide hown3; clear hown3 hg3 hat3))
      go_ret
      refine ⟨v3, rfl, ?_, hb3⟩
      have h3 := HO3.out
      have h4 := HP.out
      rw [hiN_zero, List.nil_append] at h4
      rw [h4, List.nil_append] at h3
      exact h3
    · have hm0 : 0 < m := by omega
      have HX := hide (hiN_step h0)
      go_wp2_with (first
        | (at_builtin; go_must (refine wp_joinB _ rfl (.tmp 20) (.tmp 21) rfl w.heap.size _ [(m : Int) % 128 + 128] rfl (own_one wr _ _ hsz) pa P.length pc P rfl (HSP.out.keep (new_below _ _)) (by have := HPL.out; simp only [List.length_singleton]; omega) (by simp; omega) ?_); intro v3 w3 hown3 hg3 hat3; have hb3 := (hb.alloc hsz _).trans ((own_one wr _ _ hsz).grown hg3 (by simp; omega)); have HO3 := hide hown3; clear hown3 hg3 hat3))
      go_roundw
      case rel =>
        refine ⟨m / 128, ((m : Int) % 128 + 128) :: P, ?_, by omega, HO3.out, ?_, hb3⟩
        · have : ((m / 128 : Nat) : Int) = (m : Int) / 128 := by omega
          rw [this]
        · have h4 := HP.out
          rw [HX.out, List.append_assoc, List.singleton_append] at h4
          have : ((m % 128 : Nat) : Int) = (m : Int) % 128 := by omega
          rw [this] at h4
          exact h4
      case measure => simp [intOf]; omega

set_option maxHeartbeats 400000 in
theorem rText_any (a : Option Addr) (len cap : Nat) (bs : List Int) (b : Option Addr) (m c : Nat) (xs : List Int) (w : World) (hs : SrcB w a len bs) (hx : SrcB w b m xs) (hl : len ≤ 100000000) (hm : m ≤ 100000000) :
    Calls Try.prog 39 #[.slice a len cap, .slice b m c] w fun e w' => ∃ v, e = .returned v ∧ OwnB w' w.heap.size v (bs ++ (numL m ++ xs)) ∧ Below w.heap.size w w' := by
  have HS := hide hs
  have HX := hide hx
  clear hs hx
  have HNL := hide (numL_length (m : Int) (by omega) (by omega))
  go_enter Try.func39, Try.ntmps39
  go_wp2_with (first
    | (go_at_call 37; go_must (refine (rN_any a len cap bs (m : Int) _ HS.out (by omega) (by omega) (by omega)).mono ?_); rintro e w2 ⟨v2, rfl, hown2, hb2⟩; have HO2 := hide hown2; have HX2 := hide (HX.out.keep hb2); have hsz2 := hb2.size; clear hown2)
    | (at_builtin; go_must (refine wp_joinB _ rfl (.tmp 9) (.tmp 10) rfl w.heap.size _ _ rfl HO2.out b m c xs rfl HX2.out (by have := HNL.out; rw [HX2.out.1, List.length_append, HS.out.1]; omega) (by omega) ?_); intro v3 w3 hown3 hg3 hat3; have hb3 := hb2.trans (HO2.out.grown hg3 (by omega)); have HO3 := hide hown3; clear hown3 hg3 hat3))
  go_ret
  refine ⟨v3, rfl, ?_, hb3⟩
  rw [← List.append_assoc]
  exact HO3.out

theorem below_conv {w2 w3 : World} (s : ByteArray) (h : Below (Lib.bytesWorld w2 5 s).heap.size (Lib.bytesWorld w2 5 s) w3) : Below w2.heap.size w2 w3 := (bytesWorld_below w2 s).trans (h.mono (bytesWorld_below w2 s).size)

set_option maxHeartbeats 2000000 in
theorem rVal_any (a : Option Addr) (len cap : Nat) (bs : List Int) (k n : Int) (s : ByteArray) (w : World) (hs : SrcB w a len bs) (hf : Val.fits ⟨k, n, s⟩) (hl : len ≤ 10000000) (hsz : ¬ k = 2 ∨ s.size ≤ 10000000) :
    Calls Try.prog 40 #[.slice a len cap, .agg #[.int .i64 k, .int .i64 n, .string s]] w fun e w' => ∃ v, e = .returned v ∧ OwnB w' w.heap.size v (bs ++ valL ⟨k, n, s⟩) ∧ Below w.heap.size w w' := by
  have HS := hide hs
  obtain ⟨-, ⟨hn1, hn2⟩, -⟩ := hf
  dsimp only at hn1 hn2
  obtain ⟨z1, z2⟩ := zigV_range n hn1 hn2
  clear hs
  have hW0 : Below w.heap.size w (w.alloc (.cells #[.int .i64 k, .int .i64 n, .string s] 35)) := new_below _ _
  have HW0 := hide hW0
  have HW1 := hide hW0.drew
  clear hW0
  by_cases h1 : k = 1
  · subst h1
    clear hsz
    have HT := hide (valL_int (v := ⟨1, n, s⟩) rfl)
    dsimp only at HT
    go_enter Try.func40, Try.ntmps40
    go_wp2
    go_region_held (fun w' => w'.cell? ⟨w.heap.size, 1, none⟩ = some (.int .i64 n)) (first | go_keep | exact hbox3 | exact hbox2) (first
      | (go_at_call 38; refine (rzig_any n _ hn1 hn2).mono ?_; rintro e w' ⟨rfl, hw⟩; have hw := hw.symm; subst hw)
      | (go_at_call 37; refine (rN_any a2 n2 c2 _ (zigV n) _ HS2.out z1 z2 (by have := HL2.out; omega)).mono ?_; rintro e w3 ⟨v3, rfl, hown3, hb3⟩; have HO3 := hide hown3; have hbox3 := (hb3.cell (p := ⟨w.heap.size, 1, none⟩) hlb2).trans hbox2; have hb3' := hb2'.trans (hb3.mono hb2'.size); clear hown3 hb3)
      | (go_at_call 37; refine (rN_any a len cap bs 1 _ (HS.out.keep HW1.out) (by omega) (by omega) (by omega)).mono ?_; rintro e w2 ⟨v2, rfl, hown2, hb2⟩; obtain ⟨a2, n2, c2, rfl, hsrc2⟩ := hown2.any; have HS2 := hide hsrc2; have HL2 : Hid (n2 ≤ 10000001) := (by show _ ≤ _; rw [← hsrc2.1, List.length_append, HS.out.1, numL_small 1 (by omega) (by omega)]; simp only [List.length_singleton]; omega); have hbox2 := (hb2.cell (p := ⟨w.heap.size, 1, none⟩) (by simp)).trans (show _ = some (Value.int .i64 n) by simp); have hlb2 : w.heap.size < w2.heap.size := World.block_lt_of_cell? _ ⟨w.heap.size, 1, none⟩ hbox2; have hb2' := HW1.out.trans (hb2.mono HW1.out.size); clear hown2 hb2 hsrc2))
    all_goals
      go_wp2
      go_ret
      refine ⟨v3, rfl, ?_, hb3'⟩
      have h3 := HO3.out.mono (Nat.le_of_lt hlb2)
      rw [numL_small 1 (by omega) (by omega), List.append_assoc, List.singleton_append, ← HT.out] at h3
      exact h3
  · have h1' : (k == 1) = false := by simp [h1]
    by_cases h2 : k = 2
    · subst h2
      have hsz := hsz.resolve_left (fun h => h rfl)
      have HT := hide (valL_text (v := ⟨2, n, s⟩) rfl)
      dsimp only at HT
      have hconv := conv_str s
      go_enter Try.func40, Try.ntmps40
      go_wp2
      go_region_held (fun w' => w'.cell? ⟨w.heap.size, 2, none⟩ = some (.string s)) (first | go_keep | exact hbox3 | exact hbox2 | exact ((bytesWorld_below _ _).cell (p := ⟨w.heap.size, 2, none⟩) hlb2).trans hbox2 | exact ((bytesWorld_below _ _).cell (p := ⟨w.heap.size, 2, none⟩) (by simp)).trans (by simp)) (first
        | (go_at_call 39; refine (rText_any a2 n2 c2 (bs ++ numL 2) _ _ _ (sb s) _ ?_ ?_ ?_ ?_).mono ?_; (with_reducible exact HS2.out.keep (bytesWorld_below _ _)); exact bytesWorld_src _ _ _ rfl; (have := HL2.out; omega); omega; rintro e w3 ⟨v3, rfl, hown3, hb3⟩; have HO3 := hide hown3; have hb23 := below_conv s hb3; have hbox3 := (hb23.cell (p := ⟨w.heap.size, 2, none⟩) hlb2).trans hbox2; have hb3' := hb2'.trans (hb23.mono hb2'.size); clear hown3 hb3)
        | (go_at_call 39; refine (rText_any a2 n2 c2 (bs ++ numL 2) _ _ _ (sb s) _ ?_ ?_ ?_ ?_).mono ?_; (with_reducible exact HS2.out); exact HX2.out; (have := HL2.out; omega); omega; rintro e w3 ⟨v3, rfl, hown3, hb3⟩; have HO3 := hide hown3; have hbox3 := (hb3.cell (p := ⟨w.heap.size, 2, none⟩) hlb2).trans hbox2; have hb3' := hb2'.trans (hb3.mono hb2'.size); clear hown3 hb3)
        | (go_at_call 37; refine (rN_any a len cap bs 2 _ ?_ ?_ ?_ ?_).mono ?_; (with_reducible exact HS.out.keep HW1.out); omega; omega; omega; rintro e w2 ⟨v2, rfl, hown2, hb2⟩; obtain ⟨a2, n2, c2, rfl, hsrc2⟩ := hown2.any; have HS2 := hide hsrc2; have HL2 : Hid (n2 ≤ 10000001) := (by show _ ≤ _; rw [← hsrc2.1, List.length_append, HS.out.1, numL_small 2 (by omega) (by omega)]; simp only [List.length_singleton]; omega); have hbox2 := (hb2.cell (p := ⟨w.heap.size, 2, none⟩) (by simp)).trans (show _ = some (Value.string s) by simp); have hlb2 : w.heap.size < w2.heap.size := World.block_lt_of_cell? _ ⟨w.heap.size, 2, none⟩ hbox2; have hb2' := HW1.out.trans (hb2.mono HW1.out.size); clear hown2 hb2 hsrc2)
        | (go_at_call 37; refine (rN_any a len cap bs 2 _ ?_ ?_ ?_ ?_).mono ?_; (with_reducible exact HS.out.keep (HW1.out.trans ((bytesWorld_below _ _).mono HW1.out.size))); omega; omega; omega; rintro e w2 ⟨v2, rfl, hown2, hb2⟩; obtain ⟨a2, n2, c2, rfl, hsrc2⟩ := hown2.any; have HS2 := hide hsrc2; have HX2 := hide ((bytesWorld_src _ s (w.heap.size + 1) (by simp)).keep hb2); have HL2 : Hid (n2 ≤ 10000001) := (by show _ ≤ _; rw [← hsrc2.1, List.length_append, HS.out.1, numL_small 2 (by omega) (by omega)]; simp only [List.length_singleton]; omega); have hbox2 := (hb2.cell (p := ⟨w.heap.size, 2, none⟩) (by rw [Lib.bytesWorld_size]; simp; omega)).trans (((bytesWorld_below _ _).cell (p := ⟨w.heap.size, 2, none⟩) (by simp)).trans (show _ = some (Value.string s) by simp)); have hlb2 : w.heap.size < w2.heap.size := World.block_lt_of_cell? _ ⟨w.heap.size, 2, none⟩ hbox2; have hb2' := (HW1.out.trans ((bytesWorld_below _ _).mono HW1.out.size)).trans (hb2.mono (by rw [Lib.bytesWorld_size]; simp; omega)); clear hown2 hb2 hsrc2))
      all_goals
        go_wp2
        go_ret
        refine ⟨v3, rfl, ?_, hb3'⟩
        have h3 := HO3.out.mono (base' := w.heap.size) (by first | exact Nat.le_of_lt hlb2 | (rw [Lib.bytesWorld_size]; omega))
        rw [numL_small 2 (by omega) (by omega), List.append_assoc, List.singleton_append, ← HT.out] at h3
        exact h3
    · have h2' : (k == 2) = false := by simp [h2]
      clear hsz
      have HT := hide (valL_null (v := ⟨k, n, s⟩) h1 h2)
      go_enter Try.func40, Try.ntmps40
      go_wp2_with (first
        | (go_at_call 37; go_must (refine (rN_any a len cap bs 0 _ (HS.out.keep HW0.out) (by omega) (by omega) (by omega)).mono ?_); rintro e w2 ⟨v2, rfl, hown2, hb2⟩; have HO2 := hide hown2; have hb2' := HW0.out.trans (hb2.mono HW0.out.size); clear hown2 hb2))
      go_ret
      refine ⟨v2, rfl, ?_, hb2'⟩
      have h3 := HO2.out
      rw [numL_small 0 (by omega) (by omega), ← HT.out] at h3
      exact h3.mono (by simp)

end Go.Proofs.Ytpaidekocooliaa
