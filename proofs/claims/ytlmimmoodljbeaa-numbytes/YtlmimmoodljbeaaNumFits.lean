/- What num.Fits and the reference's Fits answer, for any number and any count of bits; the world stays as it was. -/
import Derived.Test.YtlmimmoodljbeaaNumWalks
namespace Go.Proofs.Ytlmimmoodljbeaa
open Go.RowKit NumMath
set_option linter.unusedVariables false

theorem quo_zero (n p : Int) (hp : 0 < p) : n / p = 0 ↔ 0 ≤ n ∧ n < p := by
  constructor
  · intro h
    have h1 := Int.mul_ediv_add_emod n p
    have h2 := Int.emod_nonneg n (Int.ne_of_gt hp)
    have h3 := Int.emod_lt_of_pos n hp
    rw [h, Int.mul_zero] at h1
    omega
  · intro h; exact Int.ediv_eq_zero_of_lt h.1 h.2

theorem quo_minus (n p : Int) (hp : 0 < p) : n / p = -1 ↔ -p ≤ n ∧ n < 0 := by
  have h1 := Int.mul_ediv_add_emod n p
  have h2 := Int.emod_nonneg n (Int.ne_of_gt hp)
  have h3 := Int.emod_lt_of_pos n hp
  constructor
  · intro h
    rw [h] at h1
    omega
  · intro h
    have h4 : n / p < 0 := Int.ediv_neg_of_neg_of_pos h.2 hp
    by_cases h5 : n / p = -1
    · exact h5
    · exfalso
      have h6 : n / p ≤ -2 := by omega
      have h7 := Int.mul_le_mul_of_nonneg_left h6 (Int.le_of_lt hp)
      omega

def fitsB (n : Int) (k : Nat) : Bool := decide (-(2 ^ k) ≤ n ∧ n ≤ 2 ^ k - 1)

theorem fits_math (n : Int) (k : Nat) : ((n / 2 ^ k == 0) || (n / 2 ^ k == -1)) = fitsB n k := by
  unfold fitsB
  have hp : (0 : Int) < 2 ^ k := Int.pow_pos (by decide)
  rw [Bool.eq_iff_iff]
  simp only [Bool.or_eq_true, beq_iff_eq, decide_eq_true_eq, quo_zero n _ hp, quo_minus n _ hp]
  generalize (2 : Int) ^ k = p at *
  omega

theorem pow_le62 (k : Nat) (h : k ≤ 62) : (1 : Int) ≤ 2 ^ k ∧ (2 : Int) ^ k ≤ 4611686018427387904 := by
  constructor
  · have : (0 : Int) < 2 ^ k := Int.pow_pos (by decide)
    omega
  · have h := Int.ofNat_le.2 (Nat.pow_le_pow_right (n := 2) (by decide) h)
    rw [Int.natCast_pow, Int.natCast_pow] at h
    exact h

set_option maxHeartbeats 400000 in
theorem fits_any (n : Int) (k : Nat) (w : World) (h1 : -9223372036854775808 ≤ n) (h2 : n ≤ 9223372036854775807) (hk : k ≤ 63) :
    Calls Try.prog 32 #[.int .i64 n, .int .i64 (k + 1)] w fun e w' => e = .returned (.bool (fitsB n k)) ∧ w' = w := by
  have HF : Hid (((n / 2 ^ k == 0) || (n / 2 ^ k == -1)) = fitsB n k) := fits_math n k
  go_enter Try.func32, Try.ntmps32
  go_wp2
  · have h0 : n / 2 ^ k = 0 := by assumption
    go_ret
    exact ⟨retB (by rw [← HF.out, h0]; rfl), rfl⟩
  · go_ret
    exact ⟨retB HF.out, rfl⟩

set_option maxHeartbeats 400000 in
theorem rfits_any (n : Int) (k : Nat) (w : World) (h1 : -9223372036854775808 ≤ n) (h2 : n ≤ 9223372036854775807) (hk : k ≤ 62) :
    Calls Try.prog 33 #[.int .i64 n, .int .i64 (k + 1)] w fun e w' => e = .returned (.bool (fitsB n k)) ∧ w' = w := by
  obtain ⟨p1, p2⟩ := pow_le62 k hk
  have c : ((k : Int) + 1 == 64) = false := by simp; omega
  go_enter Try.func33, Try.ntmps33
  go_wp2
  · have h0 : -2 ^ k ≤ n := by assumption
    go_ret
    exact ⟨retB (by unfold fitsB; simp [h0]), rfl⟩
  · have h0 : n < -2 ^ k := by assumption
    go_ret
    exact ⟨retB (by unfold fitsB; simp; intro h3; omega), rfl⟩

set_option maxHeartbeats 400000 in
theorem rfits_64 (n : Int) (w : World) (h1 : -9223372036854775808 ≤ n) (h2 : n ≤ 9223372036854775807) :
    Calls Try.prog 33 #[.int .i64 n, .int .i64 64] w fun e w' => e = .returned (.bool (fitsB n 63)) ∧ w' = w := by
  have HF : Hid (fitsB n 63 = true) := decide_eq_true ⟨h1, h2⟩
  go_enter Try.func33, Try.ntmps33
  go_wp2
  go_ret
  exact ⟨retB HF.out.symm, rfl⟩

set_option maxHeartbeats 400000 in
theorem fits_out (n b : Int) (w : World) (h : b < 1 ∨ 64 < b) :
    Calls Try.prog 32 #[.int .i64 n, .int .i64 b] w fun e w' => e = .returned (.bool false) ∧ w' = w := by
  rcases h with h | h
  · go_enter Try.func32, Try.ntmps32
    go_wp2
    go_ret
    exact ⟨rfl, rfl⟩
  · have h' : ¬ b < 1 := by omega
    go_enter Try.func32, Try.ntmps32
    go_wp2
    go_ret
    exact ⟨rfl, rfl⟩

set_option maxHeartbeats 400000 in
theorem rfits_out (n b : Int) (w : World) (h : b < 1 ∨ 64 < b) :
    Calls Try.prog 33 #[.int .i64 n, .int .i64 b] w fun e w' => e = .returned (.bool false) ∧ w' = w := by
  rcases h with h | h
  · go_enter Try.func33, Try.ntmps33
    go_wp2
    go_ret
    exact ⟨rfl, rfl⟩
  · have h' : ¬ b < 1 := by omega
    go_enter Try.func33, Try.ntmps33
    go_wp2
    go_ret
    exact ⟨rfl, rfl⟩

/-- whether n has so few bits: the answer of both -/
def fitsAns (n b : Int) : Bool := if b < 1 ∨ 64 < b then false else fitsB n (b - 1).toNat

theorem fits_all (n b : Int) (w : World) (h1 : -9223372036854775808 ≤ n) (h2 : n ≤ 9223372036854775807) :
    Calls Try.prog 32 #[.int .i64 n, .int .i64 b] w fun e w' => e = .returned (.bool (fitsAns n b)) ∧ w' = w := by
  by_cases h : b < 1 ∨ 64 < b
  · unfold fitsAns; rw [if_pos h]; exact fits_out n b w h
  · unfold fitsAns; rw [if_neg h]
    obtain ⟨k, rfl⟩ : ∃ k : Nat, b = (k : Int) + 1 := ⟨(b - 1).toNat, by omega⟩
    rw [show ((k : Int) + 1 - 1).toNat = k by omega]
    exact fits_any n k w h1 h2 (by omega)

theorem rfits_all (n b : Int) (w : World) (h1 : -9223372036854775808 ≤ n) (h2 : n ≤ 9223372036854775807) :
    Calls Try.prog 33 #[.int .i64 n, .int .i64 b] w fun e w' => e = .returned (.bool (fitsAns n b)) ∧ w' = w := by
  by_cases h : b < 1 ∨ 64 < b
  · unfold fitsAns; rw [if_pos h]; exact rfits_out n b w h
  · unfold fitsAns; rw [if_neg h]
    by_cases h64 : b = 64
    · subst h64; exact rfits_64 n w h1 h2
    · obtain ⟨k, rfl⟩ : ∃ k : Nat, b = (k : Int) + 1 := ⟨(b - 1).toNat, by omega⟩
      rw [show ((k : Int) + 1 - 1).toNat = k by omega]
      exact rfits_any n k w h1 h2 (by omega)

end Go.Proofs.Ytlmimmoodljbeaa
