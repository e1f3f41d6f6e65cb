/- What num.Fits and the reference's Fits answer, for any number and any count of bits; the world stays as it was. -/
import Derived.Test.YtpaidekocooliaaNumWalks
namespace Go.Proofs.Ytpaidekocooliaa
open Go.RowKit NumMath
set_option linter.unusedVariables false

theorem quo_zero (n p : Int) (hp : 0 < p) : n / p = 0 ↔ 0 ≤ n ∧ n < p := by
  constructor
  · intro h
    have h1 := Int.mul_ediv_add_emod n p
    have h2 := Int.emod_nonneg n (Int.ne_of_gt hp)
    have h3 := Int.emod_lt_of_pos n hp
    rw [h, Int.mul_zero] at h1
    omega
  · intro h; exact Int.ediv_eq_zero_of_lt h.1 h.2

theorem quo_minus (n p : Int) (hp : 0 < p) : n / p = -1 ↔ -p ≤ n ∧ n < 0 := by
  have h1 := Int.mul_ediv_add_emod n p
  have h2 := Int.emod_nonneg n (Int.ne_of_gt hp)
  have h3 := Int.emod_lt_of_pos n hp
  constructor
  · intro h
    rw [h] at h1
    omega
  · intro h
    have h4 : n / p < 0 := Int.ediv_neg_of_neg_of_pos h.2 hp
    by_cases h5 : n / p = -1
    · exact h5
    · exfalso
      have h6 : n / p ≤ -2 := by omega
      have h7 := Int.mul_le_mul_of_nonneg_left h6 (Int.le_of_lt hp)
      omega

def fitsB (n : Int) (k : Nat) : Bool := decide (-(2 ^ k) ≤ n ∧ n ≤ 2 ^ k - 1)

theorem fits_math (n : Int) (k : Nat) : ((n / 2 ^ k == 0) || (n / 2 ^ k == -1)) = fitsB n k := by
  unfold fitsB
  have hp : (0 : Int) < 2 ^ k := Int.pow_pos (by decide)
  rw [Bool.eq_iff_iff]
  simp only [Bool.or_eq_true, beq_iff_eq, decide_eq_true_eq, quo_zero n _ hp, quo_minus n _ hp]
  generalize (2 : Int) ^ k = p at *
  omega

theorem pow_le62 (k : Nat) (h : k ≤ 62) : (1 : Int) ≤ 2 ^ k ∧ (2 : Int) ^ k ≤ 4611686018427387904 := by
  constructor
  · have : (0 : Int) < 2 ^ k := Int.pow_pos (by decide)
    omega
  · have h := Int.ofNat_le.2 (Nat.pow_le_pow_right (n := 2) (by decide) h)
    rw [Int.natCast_pow, Int.natCast_pow] at h
    exact h

/-- whether n has so few bits: the answer of both -/
def fitsAns (n b : Int) : Bool := if b < 1 ∨ 64 < b then false else fitsB n (b - 1).toNat

end Go.Proofs.Ytpaidekocooliaa
