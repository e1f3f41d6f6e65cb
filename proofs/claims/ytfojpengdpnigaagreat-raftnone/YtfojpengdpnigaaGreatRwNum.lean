/- row.appendNumber: a number behind what was gathered. -/
import Derived.Test.YtfojpengdpnigaaGreatRwLen
namespace Go.Proofs.YtfojpengdpnigaaGreat
open Go.RowKit NumMath
set_option linter.unusedVariables false

/-- how many groups stand ahead of the last -/
def grpK (n : Nat) : Nat := (bitLen n - 1) / 7

theorem grpK_le (n : Nat) (h : n < 18446744073709551616) : grpK n ≤ 9 := by
  unfold grpK
  have h1 : bitLen n ≤ 64 := by
    by_cases h0 : n = 0
    · subst h0; decide
    · have h2 := (bitLen_spec n).2 h0
      by_cases h3 : bitLen n ≤ 64
      · exact h3
      · have : 2 ^ 64 ≤ 2 ^ (bitLen n - 1) := Nat.pow_le_pow_right (by omega) (by omega)
        have e : (2 : Nat) ^ 64 = 18446744073709551616 := by decide
        omega
  omega

theorem pow128 (k : Nat) : 128 ^ k = 2 ^ (7 * k) := by rw [Nat.pow_mul]

theorem grpK_top (n : Nat) : n < 128 ^ (grpK n + 1) := by
  rw [pow128]
  refine Nat.lt_of_lt_of_le (bitLen_spec n).1 (Nat.pow_le_pow_right (by omega) ?_)
  unfold grpK
  omega

theorem grpK_low (n k : Nat) (hk : k ≤ grpK n) (h0 : 0 < k) : n / 128 ^ k ≠ 0 := by
  have hb : bitLen n ≠ 0 := by
    intro h
    unfold grpK at hk
    rw [h] at hk
    omega
  have hn : n ≠ 0 := by
    intro h
    subst h
    exact hb rfl
  have h1 := (bitLen_spec n).2 hn
  have h2 : 128 ^ k ≤ n := by
    rw [pow128]
    refine Nat.le_trans (Nat.pow_le_pow_right (by omega) ?_) h1
    unfold grpK at hk
    omega
  have := Nat.div_pos h2 (Nat.pow_pos (by omega))
  omega

theorem hiN_top (n : Nat) : hiN (n / 128 ^ (grpK n + 1)) = [] := by
  rw [Nat.div_eq_of_lt (grpK_top n), hiN_zero]

theorem hiN_next (n k : Nat) (hk : k ≤ grpK n) (h0 : 0 < k) : hiN (n / 128 ^ k) = hiN (n / 128 ^ (k + 1)) ++ [((n / 128 ^ k % 128 : Nat) : Int) + 128] := by
  rw [hiN_step (grpK_low n k hk h0), Nat.div_div_eq_div_mul, ← Nat.pow_succ]

theorem grow_alloc {w w' : World} {o : Obj} {r : Option Nat} (h : (w.alloc o).grownBy w' r) : w.grownBy w' r :=
  ⟨h.os, h.tape, h.output, Nat.le_trans (by simp) h.size, fun k hk hn => (h.block k (by simp; omega) hn).trans (Below.heap_alloc w o k hk)⟩

theorem or128 (x : Int) (h1 : 0 ≤ x) (h2 : x < 256) : bits .or .u8 x 128 = x % 128 + 128 := by
  have all : ∀ j : Fin 256, bits .or .u8 ((j.val : Nat) : Int) 128 = ((j.val : Nat) : Int) % 128 + 128 := by decide +kernel
  have := all ⟨x.toNat, by omega⟩
  have e : ((x.toNat : Nat) : Int) = x := by omega
  simpa [e] using this

theorem andNot128 (x : Int) (h1 : 0 ≤ x) (h2 : x < 256) : bits .andNot .u8 x 128 = x % 128 := by
  have all : ∀ j : Fin 256, bits .andNot .u8 ((j.val : Nat) : Int) 128 = ((j.val : Nat) : Int) % 128 := by decide +kernel
  have := all ⟨x.toNat, by omega⟩
  have e : ((x.toNat : Nat) : Int) = x := by omega
  simpa [e] using this

theorem grp_byte (n : Int) (k : Nat) (h : 0 ≤ n) : bits .or .u8 (n / 2 ^ (7 * k) % 256) 128 = ((n.toNat / 128 ^ k % 128 : Nat) : Int) + 128 := by
  rw [or128 _ (Int.emod_nonneg _ (by decide)) (Int.emod_lt_of_pos _ (by decide)), pow128]
  obtain ⟨N, rfl⟩ := Int.eq_ofNat_of_zero_le h
  rw [Int.toNat_natCast]
  have e : ((N : Int) / 2 ^ (7 * k)) = ((N / 2 ^ (7 * k) : Nat) : Int) := by rw [Int.natCast_ediv]; simp
  rw [e]
  omega

theorem last_byte (n : Int) (h : 0 ≤ n) : bits .andNot .u8 (n % 256) 128 = ((n.toNat % 128 : Nat) : Int) := by
  rw [andNot128 _ (by omega) (by omega)]
  omega

theorem grpK_start (n : Nat) (h : n < 18446744073709551616) : wrap64 ((wrap64 ((bitLen n : Int) - 1)).tdiv 7) = (grpK n : Int) := by
  have h9 := grpK_le n h
  unfold grpK at *
  have h1 : bitLen n ≤ 70 := by omega
  by_cases h0 : bitLen n = 0
  · rw [h0]; decide +kernel
  · have e : wrap64 ((bitLen n : Int) - 1) = ((bitLen n - 1 : Nat) : Int) := by unfold wrap64; omega
    rw [e]
    have e2 : ((bitLen n - 1 : Nat) : Int).tdiv 7 = (((bitLen n - 1) / 7 : Nat) : Int) := by rw [Int.tdiv_eq_ediv_of_nonneg (by omega)]; omega
    rw [e2]
    unfold wrap64; omega

theorem hi_few (n k : Nat) (h : n < 18446744073709551616) : (hiN (n / 128 ^ (k + 1))).length ≤ 9 := by
  refine hiN_length 9 _ ?_
  have e : (128 : Nat) ^ 9 = 9223372036854775808 := by decide
  rw [e]
  have h1 : n / 128 ^ (k + 1) ≤ n / 128 := Nat.div_le_div_left (by rw [Nat.pow_succ]; have := Nat.pow_pos (n := k) (show 0 < 128 by omega); omega) (by omega)
  omega

set_option maxHeartbeats 1000000 in
theorem addnum_any (base : Nat) (v : Value) (bs : List Int) (n : Int) (w : World) (h : OwnB w base v bs) (h1 : 0 ≤ n) (h2 : n ≤ 18446744073709551615) (hn : bs.length ≤ 1000000000) (hbase : base ≤ w.heap.size) :
    Calls Tryz.prog 147 #[v, .int .u64 n] w fun e w' => ∃ v', e = .returned v' ∧ OwnB w' base v' (bs ++ numL n) ∧ w.grownBy w' v.ownBlock ∧ AtB w v v' := by
  have H := hide h
  clear h
  have HK := hide (grpK_le n.toNat (by omega))
  have HT := hide (hiN_top n.toNat)
  go_enter Tryz.func147, Tryz.ntmps147
  go_wp2_with (first | (go_at_call 158; refine (len64_any n _ h1 h2).mono ?_; rintro e w' ⟨rfl, hw⟩; have hw := hw.symm; subst hw))
  go_loopw [0, 5] (fun v1 i wr => ∃ k : Nat, k ≤ grpK n.toNat ∧ i = .int .i64 k ∧ OwnB wr base v1 (bs ++ hiN (n.toNat / 128 ^ (k + 1))) ∧ w.grownBy wr v.ownBlock ∧ AtB w v v1) (fun _ i _ => (intOf i).toNat)
  case atStart => exact ⟨grpK n.toNat, Nat.le_refl _, by rw [grpK_start _ (by omega)], by rw [HT.out, List.append_nil]; exact H.out, ⟨rfl, rfl, rfl, Nat.le_refl _, fun _ _ _ => rfl⟩, .inl rfl⟩
  case round =>
    obtain ⟨k, hk, rfl, hown, hg, hat⟩ := hrel
    have HO := hide hown
    have HG := hide hg
    have HA := hide hat
    have hsz := hg.size
    have HL : Hid ((bs ++ hiN (n.toNat / 128 ^ (k + 1))).length ≤ 1000000100) := by
      have := hi_few n.toNat k (by omega)
      show _ ≤ _
      rw [List.length_append]
      omega
    clear hown hg hat
    have hk9 : k ≤ 9 := Nat.le_trans hk HK.out
    by_cases hlt : 0 < k
    · have HB := hide (grp_byte n k h1)
      have HX := hide (hiN_next n.toNat k hk hlt)
      go_wp2_with (first
        | (at_builtin; go_must (refine wp_appBg _ rfl (.tmp 14) (.tmp 21) rfl base _ _ rfl (HO.out.alloc _) _ 1 1 [bits .or .u8 (n / 2 ^ (7 * k) % 256) 128] rfl rfl (bytes_alloc _ [_] _) (by have := HL.out; simp only [List.length_singleton]; omega) (by simp; omega) ?_); intro v2 w2 hown2 hg2 hat2; have HO2 := hide hown2; have HG2 := hide (grow_trans HG.out HA.out (grow_alloc hg2)); have HA2 := hide (at_trans HA.out (at_alloc hat2) hsz); clear hown2 hg2 hat2))
      go_roundw
      case rel => exact ⟨k - 1, by omega, by go_num, by have h2 := HO2.out; rw [HB.out, List.append_assoc, ← HX.out] at h2; rw [Nat.sub_add_cancel hlt]; exact h2, HG2.out, HA2.out⟩
      case measure => simp [intOf]; omega
    · have hk0 : k = 0 := by omega
      subst hk0
      have HB := hide (last_byte n h1)
      go_wp2_with (first
        | (at_builtin; go_must (refine wp_appBg _ rfl (.tmp 23) (.tmp 27) rfl base _ _ rfl (HO.out.alloc _) _ 1 1 [bits .andNot .u8 (n % 256) 128] rfl rfl (bytes_alloc _ [_] _) (by have := HL.out; simp only [List.length_singleton]; omega) (by simp; omega) ?_); intro v2 w2 hown2 hg2 hat2; have HO2 := hide hown2; have HG2 := hide (grow_trans HG.out HA.out (grow_alloc hg2)); have HA2 := hide (at_trans HA.out (at_alloc hat2) hsz); clear hown2 hg2 hat2))
      go_ret
      refine ⟨v2, rfl, ?_, HG2.out, HA2.out⟩
      have h2 := HO2.out
      rw [HB.out] at h2
      unfold numL numN
      simpa using h2

end Go.Proofs.YtfojpengdpnigaaGreat
