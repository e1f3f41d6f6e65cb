/- The eight bytes of a number, the highest ahead, stand as the numbers do: plain, no program in sight. -/
import Derived.Test.YtodmieehdleohaaNumMath
import Derived.Laws.BytesArg
import Derived.Laws.Strings
namespace Go.Proofs.Ytodmieehdleohaa.NumMath
open Go.RowKit

theorem byte_of (n : Int) (h : 0 ≤ n ∧ n < 256) : (UInt8.ofNat n.toNat).toNat = n.toNat := by
  rw [UInt8.toNat_ofNat']; omega

theorem byte_lt (m n : Int) (hm : 0 ≤ m ∧ m < 256) (hn : 0 ≤ n ∧ n < 256) : (UInt8.ofNat m.toNat < UInt8.ofNat n.toNat) ↔ m < n := by
  rw [UInt8.lt_iff_toNat_lt, byte_of m hm, byte_of n hn]; omega

theorem byte_eq (m n : Int) (hm : 0 ≤ m ∧ m < 256) (hn : 0 ≤ n ∧ n < 256) : (UInt8.ofNat m.toNat = UInt8.ofNat n.toNat) ↔ m = n := by
  constructor
  · intro h
    have := congrArg UInt8.toNat h
    rw [byte_of m hm, byte_of n hn] at this
    omega
  · intro h; rw [h]

/-- the bytes as bytes -/
def bytesL (xs : List Int) : List UInt8 := xs.map fun n => UInt8.ofNat n.toNat

theorem emod_step (u : Int) (n : Nat) : u % 256 ^ (n + 1) = nthB u n * 256 ^ n + u % 256 ^ n := by
  unfold nthB
  have hp : (0 : Int) < 256 ^ n := Int.pow_pos (by decide)
  rw [Int.pow_succ]
  have h1 := Int.mul_ediv_add_emod u (256 ^ n)
  have h2 := Int.mul_ediv_add_emod u (256 ^ n * 256)
  have h3 : u / (256 ^ n * 256) = u / 256 ^ n / 256 := (Int.ediv_ediv_of_nonneg (Int.le_of_lt hp)).symm
  have h4 := Int.mul_ediv_add_emod (u / 256 ^ n) 256
  rw [h3] at h2
  generalize (256 : Int) ^ n = p at *
  generalize u / p = q at *
  generalize q / 256 = r at *
  generalize q % 256 = s at *
  have h5 : p * 256 * r + p * s = p * q := by rw [← h4, Int.mul_add, Int.mul_assoc]
  rw [Int.mul_comm s p]
  omega

theorem less_put (u v : Int) (n : Nat) : Op.bytesLess (bytesL (putL u n)) (bytesL (putL v n)) = decide (u % 256 ^ n < v % 256 ^ n) := by
  induction n with
  | zero => simp [putL, bytesL, Op.bytesLess]
  | succ n ih =>
    rw [emod_step u n, emod_step v n]
    have hp : (0 : Int) < 256 ^ n := Int.pow_pos (by decide)
    have e1 := Int.emod_nonneg u (Int.ne_of_gt hp)
    have e2 := Int.emod_lt_of_pos u hp
    have e3 := Int.emod_nonneg v (Int.ne_of_gt hp)
    have e4 := Int.emod_lt_of_pos v hp
    have r1 := nthB_range u n
    have r2 := nthB_range v n
    show (decide (UInt8.ofNat (nthB u n).toNat < UInt8.ofNat (nthB v n).toNat) || (UInt8.ofNat (nthB u n).toNat == UInt8.ofNat (nthB v n).toNat && Op.bytesLess (bytesL (putL u n)) (bytesL (putL v n)))) = _
    rw [ih]
    generalize nthB u n = a at *
    generalize nthB v n = b at *
    generalize (256 : Int) ^ n = p at *
    generalize u % p = x at *
    generalize v % p = y at *
    rw [Bool.eq_iff_iff]
    simp only [Bool.or_eq_true, Bool.and_eq_true, decide_eq_true_eq, beq_iff_eq, byte_lt a b r1 r2, byte_eq a b r1 r2]
    constructor
    · rintro (h | ⟨rfl, h⟩)
      · have : a * p + p ≤ b * p := by
          have := Int.mul_le_mul_of_nonneg_right (show a + 1 ≤ b by omega) (Int.le_of_lt hp)
          rw [Int.add_mul, Int.one_mul] at this
          exact this
        omega
      · omega
    · intro h
      by_cases hab : a = b
      · right; subst hab; exact ⟨rfl, by omega⟩
      · left
        by_cases hlt : a < b
        · exact hlt
        · exfalso
          have : b * p + p ≤ a * p := by
            have := Int.mul_le_mul_of_nonneg_right (show b + 1 ≤ a by omega) (Int.le_of_lt hp)
            rw [Int.add_mul, Int.one_mul] at this
            exact this
          omega

theorem put_inj (u v : Int) (n : Nat) (h : bytesL (putL u n) = bytesL (putL v n)) : u % 256 ^ n = v % 256 ^ n := by
  have h1 := less_put u v n
  have h2 := less_put v u n
  rw [h] at h1
  rw [h] at h2
  have h3 : ∀ l : List UInt8, Op.bytesLess l l = false := by
    intro l
    induction l with
    | nil => rfl
    | cons a l ih =>
      show (decide (a < a) || (a == a && Op.bytesLess l l)) = false
      rw [ih]; simp
  rw [h3] at h1 h2
  have h4 := of_decide_eq_false h1.symm
  have h5 := of_decide_eq_false h2.symm
  omega

theorem pow8 (u : Int) (h1 : 0 ≤ u) (h2 : u ≤ 18446744073709551615) : u % 256 ^ 8 = u := by
  have : (256 : Int) ^ 8 = 18446744073709551616 := by decide
  rw [this]; omega

/-- the string of the bytes -/
def strB (xs : List Int) : ByteArray := strOfNums xs
theorem strB_list (xs : List Int) : (strB xs).toList = bytesL xs := by
  rw [ByteArray.toList_eq]; exact strOfNums_data xs
theorem strB_size (xs : List Int) : (strB xs).size = xs.length := strOfNums_size xs

theorem key_less (a b : Int) (a1 : -9223372036854775808 ≤ a) (a2 : a ≤ 9223372036854775807) (b1 : -9223372036854775808 ≤ b) (b2 : b ≤ 9223372036854775807) :
    Op.bytesLess (strB (putL (flipV a) 8)).toList (strB (putL (flipV b) 8)).toList = decide (a < b) := by
  have ha := flipV_range a a1 a2
  have hb := flipV_range b b1 b2
  rw [strB_list, strB_list, less_put, pow8 _ ha.1 ha.2, pow8 _ hb.1 hb.2]
  exact decide_eq_decide.2 (flip_lt a b)

theorem key_same (a b : Int) (a1 : -9223372036854775808 ≤ a) (a2 : a ≤ 9223372036854775807) (b1 : -9223372036854775808 ≤ b) (b2 : b ≤ 9223372036854775807) :
    ((strB (putL (flipV a) 8)).toList == (strB (putL (flipV b) 8)).toList) = (a == b) := by
  have ha := flipV_range a a1 a2
  have hb := flipV_range b b1 b2
  rw [strB_list, strB_list, Bool.eq_iff_iff, beq_iff_eq, beq_iff_eq]
  constructor
  · intro h
    have := put_inj _ _ _ h
    rw [pow8 _ ha.1 ha.2, pow8 _ hb.1 hb.2] at this
    unfold flipV at this
    omega
  · intro h; rw [h]
end Go.Proofs.Ytodmieehdleohaa.NumMath
