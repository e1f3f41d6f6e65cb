/- What the sums, differences and turned numbers of layer 1 (num) come to, in plain integers; no program is in sight. The eight bytes of a number, the highest ahead, stand as the numbers do: plain, no program in sight. What num.Add, num.Sub and their kin answer, for any numbers of 64 bits; the world stays as it was. -/
import Derived.Laws.Entries
import Derived.RowKit
import Derived.Laws.BitsAllLaws
import Derived.Laws.BytesArg
import Derived.Laws.Strings
import Derived.Test.YtcgiicmmfleinaaGreatDoorRows
import Derived.WalkKit
import Derived.WalkSpells
import Derived.WalkLawsBesides
import Derived.Deep.QuietTactic
import Derived.BigQuiet
namespace Go.Proofs.YtcgiicmmfleinaaGreatDoor.NumMath
open Go.RowKit

theorem wrap_toInt (v : BitVec 64) : IntKind.i64.wrap (v.toNat : Int) = v.toInt := by
  have h := v.isLt
  rw [BitVec.toInt_eq_toNat_cond]
  simp [IntKind.wrap, IntKind.bits, IntKind.signed]
  split <;> split <;> omega

theorem ofInt_toInt (a : Int) (h1 : -9223372036854775808 ≤ a) (h2 : a ≤ 9223372036854775807) : (BitVec.ofInt 64 a).toInt = a := by
  rw [BitVec.toInt_ofInt, Int.bmod_eq_of_le] <;> simp <;> omega

theorem xor_toInt (a b : Int) : bits .xor .i64 a b = (BitVec.ofInt 64 a ^^^ BitVec.ofInt 64 b).toInt := wrap_toInt _
theorem and_toInt (a b : Int) : bits .and .i64 a b = (BitVec.ofInt 64 a &&& BitVec.ofInt 64 b).toInt := wrap_toInt _

theorem msb_ofInt (a : Int) (h1 : -9223372036854775808 ≤ a) (h2 : a ≤ 9223372036854775807) : (BitVec.ofInt 64 a).msb = decide (a < 0) := by
  rw [BitVec.msb_eq_toInt, ofInt_toInt a h1 h2]

theorem xor_neg (a b : Int) (h1 : -9223372036854775808 ≤ a) (h2 : a ≤ 9223372036854775807) (h3 : -9223372036854775808 ≤ b) (h4 : b ≤ 9223372036854775807) :
    decide (bits .xor .i64 a b < 0) = (decide (a < 0) ^^ decide (b < 0)) := by
  rw [xor_toInt, ← BitVec.msb_eq_toInt, BitVec.msb_xor, msb_ofInt a h1 h2, msb_ofInt b h3 h4]

theorem xor_range (a b : Int) : -9223372036854775808 ≤ bits .xor .i64 a b ∧ bits .xor .i64 a b ≤ 9223372036854775807 := by
  rw [xor_toInt]
  have h1 := BitVec.toInt_lt (x := BitVec.ofInt 64 a ^^^ BitVec.ofInt 64 b)
  have h2 := BitVec.le_toInt (x := BitVec.ofInt 64 a ^^^ BitVec.ofInt 64 b)
  constructor
  · exact h2
  · omega

theorem and_neg (a b : Int) (h1 : -9223372036854775808 ≤ a) (h2 : a ≤ 9223372036854775807) (h3 : -9223372036854775808 ≤ b) (h4 : b ≤ 9223372036854775807) :
    decide (bits .and .i64 a b < 0) = (decide (a < 0) && decide (b < 0)) := by
  rw [and_toInt, ← BitVec.msb_eq_toInt, BitVec.msb_and, msb_ofInt a h1 h2, msb_ofInt b h3 h4]

/-- (a^s)&(b^s) < 0 says: the sign of s is neither a's nor b's -/
theorem both_neg (a b s t : Int) (ha1 : -9223372036854775808 ≤ a) (ha2 : a ≤ 9223372036854775807) (hb1 : -9223372036854775808 ≤ b) (hb2 : b ≤ 9223372036854775807)
    (hs1 : -9223372036854775808 ≤ s) (hs2 : s ≤ 9223372036854775807) (ht1 : -9223372036854775808 ≤ t) (ht2 : t ≤ 9223372036854775807) :
    decide (bits .and .i64 (bits .xor .i64 a s) (bits .xor .i64 b t) < 0) = ((decide (a < 0) ^^ decide (s < 0)) && (decide (b < 0) ^^ decide (t < 0))) := by
  rw [and_neg _ _ (xor_range _ _).1 (xor_range _ _).2 (xor_range _ _).1 (xor_range _ _).2, xor_neg a s ha1 ha2 hs1 hs2, xor_neg b t hb1 hb2 ht1 ht2]

theorem add_test (a b : Int) (ha1 : -9223372036854775808 ≤ a) (ha2 : a ≤ 9223372036854775807) (hb1 : -9223372036854775808 ≤ b) (hb2 : b ≤ 9223372036854775807) :
    (bits .and .i64 (bits .xor .i64 a (wrap64 (a + b))) (bits .xor .i64 b (wrap64 (a + b))) < 0) ↔ ¬ (-9223372036854775808 ≤ a + b ∧ a + b ≤ 9223372036854775807) := by
  have h := both_neg a b (wrap64 (a + b)) (wrap64 (a + b)) ha1 ha2 hb1 hb2 (by unfold wrap64; omega) (by unfold wrap64; omega) (by unfold wrap64; omega) (by unfold wrap64; omega)
  rw [← decide_eq_true_iff (p := _ < _), h]
  unfold wrap64
  simp only [Bool.and_eq_true, bne_iff_ne, ne_eq, decide_eq_decide]
  omega

theorem sub_test (a b : Int) (ha1 : -9223372036854775808 ≤ a) (ha2 : a ≤ 9223372036854775807) (hb1 : -9223372036854775808 ≤ b) (hb2 : b ≤ 9223372036854775807) :
    (bits .and .i64 (bits .xor .i64 a b) (bits .xor .i64 a (wrap64 (a - b))) < 0) ↔ ¬ (-9223372036854775808 ≤ a - b ∧ a - b ≤ 9223372036854775807) := by
  have h := both_neg a a b (wrap64 (a - b)) ha1 ha2 ha1 ha2 hb1 hb2 (by unfold wrap64; omega) (by unfold wrap64; omega)
  rw [← decide_eq_true_iff (p := _ < _), h]
  unfold wrap64
  simp only [Bool.and_eq_true, bne_iff_ne, ne_eq, decide_eq_decide]
  omega

/-- a sum or difference is a number of 64 bits -/
def inB (n : Int) : Bool := decide (-9223372036854775808 ≤ n ∧ n ≤ 9223372036854775807)
/-- the number, or 0 -/
def inV (n : Int) : Int := if inB n then n else 0
theorem inB_true {n : Int} (h : -9223372036854775808 ≤ n ∧ n ≤ 9223372036854775807) : inB n = true := by unfold inB; simpa using h
theorem inB_false {n : Int} (h : ¬ (-9223372036854775808 ≤ n ∧ n ≤ 9223372036854775807)) : inB n = false := by unfold inB; simpa using h
theorem inV_true {n : Int} (h : -9223372036854775808 ≤ n ∧ n ≤ 9223372036854775807) : inV n = n := by unfold inV; rw [inB_true h]; rfl
theorem inV_false {n : Int} (h : ¬ (-9223372036854775808 ≤ n ∧ n ≤ 9223372036854775807)) : inV n = 0 := by unfold inV; rw [inB_false h]; rfl
theorem wf_i64 {n : Int} (h : (Lit.int .i64 n).wf = true) : -9223372036854775808 ≤ n ∧ n ≤ 9223372036854775807 := by
  simp only [Lit.wf, IntKind.min, IntKind.max, IntKind.signed, IntKind.bits, Bool.and_eq_true, decide_eq_true_eq, if_true] at h
  omega
theorem wf_u64 {n : Int} (h : (Lit.int .u64 n).wf = true) : 0 ≤ n ∧ n ≤ 18446744073709551615 := by
  simp [Lit.wf, IntKind.min, IntKind.max, IntKind.signed, IntKind.bits] at h
  omega
theorem ret2 {a b : Int} {p q : Bool} (h : a = b) (g : p = q) : Ending.returned (.tuple #[.int .i64 a, .bool p]) = .returned (.tuple #[.int .i64 b, .bool q]) := by rw [h, g]
theorem add_yes (a b : Int) (ha1 : -9223372036854775808 ≤ a) (ha2 : a ≤ 9223372036854775807) (hb1 : -9223372036854775808 ≤ b) (hb2 : b ≤ 9223372036854775807) (h : -9223372036854775808 ≤ a + b ∧ a + b ≤ 9223372036854775807) :
    ¬ (bits .and .i64 (bits .xor .i64 a (a + b)) (bits .xor .i64 b (a + b)) < 0) := by
  have := add_test a b ha1 ha2 hb1 hb2
  have e : wrap64 (a + b) = a + b := by unfold wrap64; omega
  rw [e] at this
  simpa [h] using this
theorem sub_yes (a b : Int) (ha1 : -9223372036854775808 ≤ a) (ha2 : a ≤ 9223372036854775807) (hb1 : -9223372036854775808 ≤ b) (hb2 : b ≤ 9223372036854775807) (h : -9223372036854775808 ≤ a - b ∧ a - b ≤ 9223372036854775807) :
    ¬ (bits .and .i64 (bits .xor .i64 a b) (bits .xor .i64 a (a - b)) < 0) := by
  have := sub_test a b ha1 ha2 hb1 hb2
  have e : wrap64 (a - b) = a - b := by unfold wrap64; omega
  rw [e] at this
  simpa [h] using this

/-! numbers turned -/
def zigV (n : Int) : Int := if 0 ≤ n then 2 * n else -2 * n - 1
def zagV (u : Int) : Int := if u % 2 = 0 then u / 2 else -1 - u / 2
def flipV (n : Int) : Int := n + 9223372036854775808
def unflipV (u : Int) : Int := u - 9223372036854775808
theorem ret1 {k : IntKind} {a b : Int} (h : a = b) : Ending.returned (.int k a) = .returned (.int k b) := by rw [h]
theorem retB {a b : Bool} (h : a = b) : Ending.returned (.bool a) = .returned (.bool b) := by rw [h]

theorem nat_flip (y : Nat) (h : y < 9223372036854775808) : y ^^^ 9223372036854775808 = y + 9223372036854775808 := by
  have e : y + 9223372036854775808 = 9223372036854775808 ||| y := by
    have := Nat.two_pow_add_eq_or_of_lt (b := y) (i := 63) h 1
    rw [Nat.mul_one] at this
    rw [Nat.add_comm]; exact this
  rw [e]
  apply Nat.eq_of_testBit_eq
  intro j
  rw [Nat.testBit_xor, Nat.testBit_or]
  have p : Nat.testBit 9223372036854775808 j = decide (63 = j) := Nat.testBit_two_pow (n := 63) (m := j)
  rw [p]
  by_cases hj : 63 = j
  · subst hj
    rw [Nat.testBit_lt_two_pow (x := y) (i := 63) h]; rfl
  · simp [hj]

theorem u64_xor_top (x : Int) (h1 : 0 ≤ x) (h2 : x ≤ 18446744073709551615) : bits .xor .u64 x 9223372036854775808 = if x < 9223372036854775808 then x + 9223372036854775808 else x - 9223372036854775808 := by
  rw [u64_xor x _ h1 (by omega) (by omega) (by omega)]
  obtain ⟨X, rfl⟩ := Int.eq_ofNat_of_zero_le h1
  rw [Int.toNat_natCast]
  show ((X ^^^ 9223372036854775808 : Nat) : Int) = _
  by_cases h : X < 9223372036854775808
  · rw [nat_flip X h, if_pos (by omega)]; rfl
  · obtain ⟨Y, rfl⟩ : ∃ Y, X = Y + 9223372036854775808 := ⟨X - 9223372036854775808, by omega⟩
    have hY : Y < 9223372036854775808 := by omega
    rw [← nat_flip Y hY, Nat.xor_assoc, Nat.xor_self, Nat.xor_zero, if_neg, nat_flip Y hY]
    · omega
    · rw [nat_flip Y hY]; omega

theorem u64_xor_ones (x : Int) (h1 : 0 ≤ x) (h2 : x ≤ 18446744073709551615) : bits .xor .u64 x 18446744073709551615 = 18446744073709551615 - x := by
  obtain ⟨X, rfl⟩ := Int.eq_ofNat_of_zero_le h1
  show IntKind.u64.wrap ((BitVec.ofInt 64 (X : Int) ^^^ BitVec.ofInt 64 18446744073709551615).toNat : Int) = _
  have e : BitVec.ofInt 64 18446744073709551615 = BitVec.allOnes 64 := by decide
  rw [e, BitVec.xor_allOnes, BitVec.toNat_not, ofInt_u64 X (by omega)]
  simp [IntKind.wrap, IntKind.bits, IntKind.signed]
  omega

theorem u64_xor_zero (x : Int) (h1 : 0 ≤ x) (h2 : x ≤ 18446744073709551615) : bits .xor .u64 x 0 = x := by
  rw [u64_xor x _ h1 (by omega) (by omega) (by omega)]
  obtain ⟨X, rfl⟩ := Int.eq_ofNat_of_zero_le h1
  simp

theorem i64_xor_zero (x : Int) (h1 : -9223372036854775808 ≤ x) (h2 : x ≤ 9223372036854775807) : bits .xor .i64 x 0 = x := by
  rw [xor_toInt]
  have e : BitVec.ofInt 64 0 = (0 : BitVec 64) := by decide
  rw [e, show (0 : BitVec 64) = BitVec.ofNat 64 0 from rfl, BitVec.xor_zero, ofInt_toInt x h1 h2]

theorem i64_xor_minus (x : Int) (h1 : 0 ≤ x) (h2 : x ≤ 9223372036854775807) : bits .xor .i64 x (-1) = -1 - x := by
  obtain ⟨X, rfl⟩ := Int.eq_ofNat_of_zero_le h1
  show IntKind.i64.wrap ((BitVec.ofInt 64 (X : Int) ^^^ BitVec.ofInt 64 (-1)).toNat : Int) = _
  have e : BitVec.ofInt 64 (-1) = BitVec.allOnes 64 := by decide
  rw [e, BitVec.xor_allOnes, BitVec.toNat_not, ofInt_u64 X (by omega)]
  simp [IntKind.wrap, IntKind.bits, IntKind.signed]
  omega

theorem zig_math (n : Int) (h1 : -9223372036854775808 ≤ n) (h2 : n ≤ 9223372036854775807) :
    bits .xor .u64 (IntKind.u64.wrap (IntKind.u64.wrap n * 2)) (IntKind.u64.wrap (n / 9223372036854775808)) = zigV n := by
  simp only [IntKind.wrap_u64]
  unfold zigV
  by_cases h : 0 ≤ n
  · rw [show n / 9223372036854775808 % 18446744073709551616 = 0 by omega, u64_xor_zero _ (by omega) (by omega), if_pos h]; omega
  · rw [show n / 9223372036854775808 % 18446744073709551616 = 18446744073709551615 by omega, u64_xor_ones _ (by omega) (by omega), if_neg h]; omega

theorem and1_math (n : Int) (h1 : 0 ≤ n) (h2 : n ≤ 18446744073709551615) : bits .and .u64 n 1 = n % 2 := by
  rw [u64_and n 1 h1 (by omega) (by omega) (by omega)]
  obtain ⟨X, rfl⟩ := Int.eq_ofNat_of_zero_le h1
  show ((X &&& 1 : Nat) : Int) = _
  rw [nat_mask1]; omega

theorem zag_math (n : Int) (h1 : 0 ≤ n) (h2 : n ≤ 18446744073709551615) :
    bits .xor .i64 (n / 2) (wrap64 (-wrap64 (bits .and .u64 n 1))) = zagV n := by
  rw [and1_math n h1 h2]
  have e : wrap64 (-wrap64 (n % 2)) = -(n % 2) := by unfold wrap64; omega
  rw [e]
  unfold zagV
  by_cases h : n % 2 = 0
  · rw [h, if_pos rfl, show -(0 : Int) = 0 by rfl, i64_xor_zero _ (by omega) (by omega)]
  · rw [show n % 2 = 1 by omega, if_neg (by omega), i64_xor_minus _ (by omega) (by omega)]

theorem flip_math (n : Int) (h1 : -9223372036854775808 ≤ n) (h2 : n ≤ 9223372036854775807) :
    bits .xor .u64 (IntKind.u64.wrap n) 9223372036854775808 = flipV n := by
  simp only [IntKind.wrap_u64]
  rw [u64_xor_top _ (by omega) (by omega)]
  unfold flipV
  split <;> omega

theorem unflip_math (n : Int) (h1 : 0 ≤ n) (h2 : n ≤ 18446744073709551615) :
    wrap64 (bits .xor .u64 n 9223372036854775808) = unflipV n := by
  rw [u64_xor_top _ (by omega) (by omega)]
  unfold unflipV wrap64
  split <;> omega

theorem zigV_range (n : Int) (h1 : -9223372036854775808 ≤ n) (h2 : n ≤ 9223372036854775807) : 0 ≤ zigV n ∧ zigV n ≤ 18446744073709551615 := by unfold zigV; split <;> omega
theorem flipV_range (n : Int) (h1 : -9223372036854775808 ≤ n) (h2 : n ≤ 9223372036854775807) : 0 ≤ flipV n ∧ flipV n ≤ 18446744073709551615 := by unfold flipV; omega
theorem zag_zig (n : Int) : zagV (zigV n) = n := by unfold zagV zigV; split <;> split <;> omega
theorem unflip_flip (n : Int) : unflipV (flipV n) = n := by unfold unflipV flipV; omega
theorem flip_lt (a b : Int) : (flipV a < flipV b) ↔ a < b := by unfold flipV; omega
theorem awake_add : inB 9223372036854775808 = false := by decide
theorem awake_zig : zigV (-3) = 5 := by decide
theorem awake_flip : flipV 0 = 9223372036854775808 := by decide

/-! products and quotients -/
theorem tmod_abs (p b : Int) (hb : b ≠ 0) : -(b.natAbs : Int) < p.tmod b ∧ p.tmod b < b.natAbs := by
  have h : (p.tmod b).natAbs < b.natAbs := by
    rw [Int.natAbs_tmod]; exact Nat.mod_lt _ (by omega)
  omega
theorem tdiv_abs (p b : Int) : (p.tdiv b).natAbs ≤ p.natAbs := by
  rw [Int.natAbs_tdiv]; exact Nat.div_le_self _ _
theorem tdiv_range (p b : Int) (h1 : -9223372036854775808 ≤ p) (h2 : p ≤ 9223372036854775807) (hb : b ≠ -1) : -9223372036854775808 ≤ p.tdiv b ∧ p.tdiv b ≤ 9223372036854775807 := by
  have h := tdiv_abs p b
  by_cases hp : p = -9223372036854775808
  · subst hp
    by_cases e : (-9223372036854775808 : Int).tdiv b = 9223372036854775808
    · exfalso
      by_cases b0 : b = 0
      · subst b0; simp at e
      · have hm := Int.mul_tdiv_add_tmod (-9223372036854775808) b
        have ht := tmod_abs (-9223372036854775808) b b0
        rw [e] at hm
        omega
    · omega
  · omega
theorem mul_yes (a b : Int) (hb : b ≠ 0) : (a * b).tdiv b = a := Int.mul_tdiv_cancel a hb
theorem mul_no (a b : Int) (hb1 : -9223372036854775808 ≤ b) (hb2 : b ≤ 9223372036854775807) (hb : b ≠ 0) (h : ¬ (-9223372036854775808 ≤ a * b ∧ a * b ≤ 9223372036854775807)) : (wrap64 (a * b)).tdiv b ≠ a := by
  intro e
  have hm := Int.mul_tdiv_add_tmod (wrap64 (a * b)) b
  have ht := tmod_abs (wrap64 (a * b)) b hb
  rw [e, Int.mul_comm] at hm
  generalize a * b = x at *
  unfold wrap64 at hm ht
  omega
theorem wrap64_id (n : Int) (h1 : -9223372036854775808 ≤ n) (h2 : n ≤ 9223372036854775807) : wrap64 n = n := by unfold wrap64; omega
theorem wrap64_range (n : Int) : -9223372036854775808 ≤ wrap64 n ∧ wrap64 n ≤ 9223372036854775807 := by unfold wrap64; omega
def absV (n : Int) : Int := if 0 ≤ n then n else -n
theorem absV_range (n : Int) (h1 : -9223372036854775808 ≤ n) (h2 : n ≤ 9223372036854775807) : 0 ≤ absV n ∧ absV n ≤ 9223372036854775808 := by unfold absV; split <;> omega
theorem quo_lt (x y : Int) (h : 0 < x) : 18446744073709551615 / x < y ↔ 18446744073709551615 < y * x := Int.ediv_lt_iff_lt_mul h
theorem mul_signs (a b : Int) : a * b = if (a < 0) = (b < 0) then absV a * absV b else -(absV a * absV b) := by
  unfold absV
  by_cases ha : 0 ≤ a <;> by_cases hb : 0 ≤ b
  · have ha' : ¬ a < 0 := by omega
    have hb' : ¬ b < 0 := by omega
    simp [ha, hb, ha', hb']
  · have ha' : ¬ a < 0 := by omega
    have hb' : b < 0 := by omega
    simp [ha, hb, ha', hb', Int.mul_neg]
  · have ha' : a < 0 := by omega
    have hb' : ¬ b < 0 := by omega
    simp [ha, hb, ha', hb', Int.neg_mul]
  · have ha' : a < 0 := by omega
    have hb' : b < 0 := by omega
    simp [ha, hb, ha', hb', Int.neg_mul, Int.mul_neg]
/-- quotients: of 0 there are none; the least number by -1 has none -/
def divB (a b : Int) : Bool := if b = 0 then false else inB (a.tdiv b)
def divV (a b : Int) : Int := if b = 0 then 0 else inV (a.tdiv b)
def modB (b : Int) : Bool := decide (b ≠ 0)
def modV (a b : Int) : Int := if b = 0 then 0 else a.tmod b
theorem tmod_side (a b : Int) : (0 ≤ a → 0 ≤ a.tmod b ∧ a.tmod b ≤ a) ∧ (a ≤ 0 → a ≤ a.tmod b ∧ a.tmod b ≤ 0) := by
  have h : (a.tmod b).natAbs ≤ a.natAbs := by rw [Int.natAbs_tmod]; exact Nat.mod_le _ _
  constructor
  · intro ha
    have := Int.tmod_nonneg b ha
    omega
  · intro ha
    have := Int.tmod_nonneg (a := -a) b (by omega)
    rw [Int.neg_tmod] at this
    omega
theorem quo_times (a b : Int) (h1 : -9223372036854775808 ≤ a) (h2 : a ≤ 9223372036854775807) : (-9223372036854775808 ≤ a.tdiv b * b ∧ a.tdiv b * b ≤ 9223372036854775807) ∧ a.tdiv b * b + a.tmod b = a := by
  have hm := Int.mul_tdiv_add_tmod a b
  rw [Int.mul_comm] at hm
  have hs := tmod_side a b
  omega
theorem least_quo (b : Int) (hb : b ≠ -1) : wrap64 (-Int.tdiv 9223372036854775808 b) = Int.tdiv (-9223372036854775808) b := by
  have h := tdiv_range (-9223372036854775808) b (by decide) (by decide) hb
  rw [Int.neg_tdiv] at *
  exact wrap64_id _ h.1 h.2

/-! bytes -/
def nthB (u : Int) (i : Nat) : Int := u / 256 ^ i % 256
/-- the lowest n bytes, the highest ahead -/
def putL (u : Int) : Nat → List Int
  | 0 => []
  | n + 1 => nthB u n :: putL u n
theorem nth_0 (u : Int) : nthB u 0 = u % 256 := by unfold nthB; simp
theorem nth_1 (u : Int) : nthB u 1 = u / 256 % 256 := by unfold nthB; rfl
theorem nth_2 (u : Int) : nthB u 2 = u / 65536 % 256 := by unfold nthB; rfl
theorem nth_3 (u : Int) : nthB u 3 = u / 16777216 % 256 := by unfold nthB; rfl
theorem nth_4 (u : Int) : nthB u 4 = u / 4294967296 % 256 := by unfold nthB; rfl
theorem nth_5 (u : Int) : nthB u 5 = u / 1099511627776 % 256 := by unfold nthB; rfl
theorem nth_6 (u : Int) : nthB u 6 = u / 281474976710656 % 256 := by unfold nthB; rfl
theorem nth_7 (u : Int) (h1 : 0 ≤ u) (h2 : u ≤ 18446744073709551615) : nthB u 7 = u / 72057594037927936 := by
  have e : nthB u 7 = u / 72057594037927936 % 256 := rfl
  rw [e]; omega
theorem nthB_range (u : Int) (i : Nat) : 0 ≤ nthB u i ∧ nthB u i < 256 := by unfold nthB; omega
theorem putL_length (u : Int) (n : Nat) : (putL u n).length = n := by
  induction n with
  | zero => rfl
  | succ n ih => simp [putL, ih]
theorem putL_range (u : Int) (n : Nat) : ∀ c ∈ putL u n, 0 ≤ c ∧ c < 256 := by
  induction n with
  | zero => intro c hc; simp [putL] at hc
  | succ n ih =>
    intro c hc
    simp only [putL, List.mem_cons] at hc
    rcases hc with rfl | hc
    · exact nthB_range u n
    · exact ih c hc
end Go.Proofs.YtcgiicmmfleinaaGreatDoor.NumMath

namespace Go.Proofs.YtcgiicmmfleinaaGreatDoor.NumMath
open Go.RowKit

theorem byte_of (n : Int) (h : 0 ≤ n ∧ n < 256) : (UInt8.ofNat n.toNat).toNat = n.toNat := by
  rw [UInt8.toNat_ofNat']; omega

theorem byte_lt (m n : Int) (hm : 0 ≤ m ∧ m < 256) (hn : 0 ≤ n ∧ n < 256) : (UInt8.ofNat m.toNat < UInt8.ofNat n.toNat) ↔ m < n := by
  rw [UInt8.lt_iff_toNat_lt, byte_of m hm, byte_of n hn]; omega

theorem byte_eq (m n : Int) (hm : 0 ≤ m ∧ m < 256) (hn : 0 ≤ n ∧ n < 256) : (UInt8.ofNat m.toNat = UInt8.ofNat n.toNat) ↔ m = n := by
  constructor
  · intro h
    have := congrArg UInt8.toNat h
    rw [byte_of m hm, byte_of n hn] at this
    omega
  · intro h; rw [h]

/-- the bytes as bytes -/
def bytesL (xs : List Int) : List UInt8 := xs.map fun n => UInt8.ofNat n.toNat

theorem emod_step (u : Int) (n : Nat) : u % 256 ^ (n + 1) = nthB u n * 256 ^ n + u % 256 ^ n := by
  unfold nthB
  have hp : (0 : Int) < 256 ^ n := Int.pow_pos (by decide)
  rw [Int.pow_succ]
  have h1 := Int.mul_ediv_add_emod u (256 ^ n)
  have h2 := Int.mul_ediv_add_emod u (256 ^ n * 256)
  have h3 : u / (256 ^ n * 256) = u / 256 ^ n / 256 := (Int.ediv_ediv_of_nonneg (Int.le_of_lt hp)).symm
  have h4 := Int.mul_ediv_add_emod (u / 256 ^ n) 256
  rw [h3] at h2
  generalize (256 : Int) ^ n = p at *
  generalize u / p = q at *
  generalize q / 256 = r at *
  generalize q % 256 = s at *
  have h5 : p * 256 * r + p * s = p * q := by rw [← h4, Int.mul_add, Int.mul_assoc]
  rw [Int.mul_comm s p]
  omega

theorem less_put (u v : Int) (n : Nat) : Op.bytesLess (bytesL (putL u n)) (bytesL (putL v n)) = decide (u % 256 ^ n < v % 256 ^ n) := by
  induction n with
  | zero => simp [putL, bytesL, Op.bytesLess]
  | succ n ih =>
    rw [emod_step u n, emod_step v n]
    have hp : (0 : Int) < 256 ^ n := Int.pow_pos (by decide)
    have e1 := Int.emod_nonneg u (Int.ne_of_gt hp)
    have e2 := Int.emod_lt_of_pos u hp
    have e3 := Int.emod_nonneg v (Int.ne_of_gt hp)
    have e4 := Int.emod_lt_of_pos v hp
    have r1 := nthB_range u n
    have r2 := nthB_range v n
    show (decide (UInt8.ofNat (nthB u n).toNat < UInt8.ofNat (nthB v n).toNat) || (UInt8.ofNat (nthB u n).toNat == UInt8.ofNat (nthB v n).toNat && Op.bytesLess (bytesL (putL u n)) (bytesL (putL v n)))) = _
    rw [ih]
    generalize nthB u n = a at *
    generalize nthB v n = b at *
    generalize (256 : Int) ^ n = p at *
    generalize u % p = x at *
    generalize v % p = y at *
    rw [Bool.eq_iff_iff]
    simp only [Bool.or_eq_true, Bool.and_eq_true, decide_eq_true_eq, beq_iff_eq, byte_lt a b r1 r2, byte_eq a b r1 r2]
    constructor
    · rintro (h | ⟨rfl, h⟩)
      · have : a * p + p ≤ b * p := by
          have := Int.mul_le_mul_of_nonneg_right (show a + 1 ≤ b by omega) (Int.le_of_lt hp)
          rw [Int.add_mul, Int.one_mul] at this
          exact this
        omega
      · omega
    · intro h
      by_cases hab : a = b
      · right; subst hab; exact ⟨rfl, by omega⟩
      · left
        by_cases hlt : a < b
        · exact hlt
        · exfalso
          have : b * p + p ≤ a * p := by
            have := Int.mul_le_mul_of_nonneg_right (show b + 1 ≤ a by omega) (Int.le_of_lt hp)
            rw [Int.add_mul, Int.one_mul] at this
            exact this
          omega

theorem put_inj (u v : Int) (n : Nat) (h : bytesL (putL u n) = bytesL (putL v n)) : u % 256 ^ n = v % 256 ^ n := by
  have h1 := less_put u v n
  have h2 := less_put v u n
  rw [h] at h1
  rw [h] at h2
  have h3 : ∀ l : List UInt8, Op.bytesLess l l = false := by
    intro l
    induction l with
    | nil => rfl
    | cons a l ih =>
      show (decide (a < a) || (a == a && Op.bytesLess l l)) = false
      rw [ih]; simp
  rw [h3] at h1 h2
  have h4 := of_decide_eq_false h1.symm
  have h5 := of_decide_eq_false h2.symm
  omega

theorem pow8 (u : Int) (h1 : 0 ≤ u) (h2 : u ≤ 18446744073709551615) : u % 256 ^ 8 = u := by
  have : (256 : Int) ^ 8 = 18446744073709551616 := by decide
  rw [this]; omega

/-- the string of the bytes -/
def strB (xs : List Int) : ByteArray := strOfNums xs
theorem strB_list (xs : List Int) : (strB xs).toList = bytesL xs := by
  rw [ByteArray.toList_eq]; exact strOfNums_data xs
theorem strB_size (xs : List Int) : (strB xs).size = xs.length := strOfNums_size xs

theorem key_less (a b : Int) (a1 : -9223372036854775808 ≤ a) (a2 : a ≤ 9223372036854775807) (b1 : -9223372036854775808 ≤ b) (b2 : b ≤ 9223372036854775807) :
    Op.bytesLess (strB (putL (flipV a) 8)).toList (strB (putL (flipV b) 8)).toList = decide (a < b) := by
  have ha := flipV_range a a1 a2
  have hb := flipV_range b b1 b2
  rw [strB_list, strB_list, less_put, pow8 _ ha.1 ha.2, pow8 _ hb.1 hb.2]
  exact decide_eq_decide.2 (flip_lt a b)

theorem key_same (a b : Int) (a1 : -9223372036854775808 ≤ a) (a2 : a ≤ 9223372036854775807) (b1 : -9223372036854775808 ≤ b) (b2 : b ≤ 9223372036854775807) :
    ((strB (putL (flipV a) 8)).toList == (strB (putL (flipV b) 8)).toList) = (a == b) := by
  have ha := flipV_range a a1 a2
  have hb := flipV_range b b1 b2
  rw [strB_list, strB_list, Bool.eq_iff_iff, beq_iff_eq, beq_iff_eq]
  constructor
  · intro h
    have := put_inj _ _ _ h
    rw [pow8 _ ha.1 ha.2, pow8 _ hb.1 hb.2] at this
    unfold flipV at this
    omega
  · intro h; rw [h]
end Go.Proofs.YtcgiicmmfleinaaGreatDoor.NumMath

namespace Go.Proofs.YtcgiicmmfleinaaGreatDoor
open Go.RowKit NumMath

set_option maxHeartbeats 400000 in
theorem zig_any (n : Int) (w : World) (h1 : -9223372036854775808 ≤ n) (h2 : n ≤ 9223372036854775807) :
    Calls Tryz.prog 135 #[.int .i64 n] w fun e w' => e = .returned (.int .u64 (zigV n)) ∧ w' = w := by
  go_enter Tryz.func135, Tryz.ntmps135
  go_wp2
  go_ret
  exact ⟨ret1 (zig_math n h1 h2), rfl⟩

set_option maxHeartbeats 400000 in
theorem zag_any (n : Int) (w : World) (h1 : 0 ≤ n) (h2 : n ≤ 18446744073709551615) :
    Calls Tryz.prog 132 #[.int .u64 n] w fun e w' => e = .returned (.int .i64 (zagV n)) ∧ w' = w := by
  go_enter Tryz.func132, Tryz.ntmps132
  go_wp2
  go_ret
  exact ⟨ret1 (zag_math n h1 h2), rfl⟩

set_option maxHeartbeats 400000 in
theorem rzig_any (n : Int) (w : World) (h1 : -9223372036854775808 ≤ n) (h2 : n ≤ 9223372036854775807) :
    Calls Tryz.prog 102 #[.int .i64 n] w fun e w' => e = .returned (.int .u64 (zigV n)) ∧ w' = w := by
  by_cases h : 0 ≤ n
  · go_enter Tryz.func102, Tryz.ntmps102
    go_wp2
    go_ret
    exact ⟨ret1 (by unfold zigV; rw [if_pos h]), rfl⟩
  · go_enter Tryz.func102, Tryz.ntmps102
    go_wp2
    go_ret
    exact ⟨ret1 (by unfold zigV; rw [if_neg (by omega)]; omega), rfl⟩

end Go.Proofs.YtcgiicmmfleinaaGreatDoor
