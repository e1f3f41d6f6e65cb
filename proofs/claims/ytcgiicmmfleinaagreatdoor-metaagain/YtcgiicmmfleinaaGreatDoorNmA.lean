/- What the sums, differences and turned numbers of layer 1 (num) come to, in plain integers; no program is in sight. The eight bytes of a number, the highest ahead, stand as the numbers do: plain, no program in sight. What num.Add, num.Sub and their kin answer, for any numbers of 64 bits; the world stays as it was. -/
import Derived.Laws.Entries
import Derived.RowKit
import Derived.Laws.BitsAllLaws
import Derived.Laws.BytesArg
import Derived.Laws.Strings
import Derived.Test.YtcgiicmmfleinaaGreatDoorRows
import Derived.WalkKit
import Derived.WalkSpells
import Derived.WalkLawsBesides
import Derived.Deep.QuietTactic
import Derived.BigQuiet
namespace Go.Proofs.YtcgiicmmfleinaaGreatDoor.NumMath
open Go.RowKit

theorem wrap_toInt (v : BitVec 64) : IntKind.i64.wrap (v.toNat : Int) = v.toInt := by
  have h := v.isLt
  rw [BitVec.toInt_eq_toNat_cond]
  simp [IntKind.wrap, IntKind.bits, IntKind.signed]
  split <;> split <;> omega

theorem ofInt_toInt (a : Int) (h1 : -9223372036854775808 ≤ a) (h2 : a ≤ 9223372036854775807) : (BitVec.ofInt 64 a).toInt = a := by
  rw [BitVec.toInt_ofInt, Int.bmod_eq_of_le] <;> simp <;> omega

theorem xor_toInt (a b : Int) : bits .xor .i64 a b = (BitVec.ofInt 64 a ^^^ BitVec.ofInt 64 b).toInt := wrap_toInt _
theorem and_toInt (a b : Int) : bits .and .i64 a b = (BitVec.ofInt 64 a &&& BitVec.ofInt 64 b).toInt := wrap_toInt _

theorem msb_ofInt (a : Int) (h1 : -9223372036854775808 ≤ a) (h2 : a ≤ 9223372036854775807) : (BitVec.ofInt 64 a).msb = decide (a < 0) := by
  rw [BitVec.msb_eq_toInt, ofInt_toInt a h1 h2]

theorem xor_neg (a b : Int) (h1 : -9223372036854775808 ≤ a) (h2 : a ≤ 9223372036854775807) (h3 : -9223372036854775808 ≤ b) (h4 : b ≤ 9223372036854775807) :
    decide (bits .xor .i64 a b < 0) = (decide (a < 0) ^^ decide (b < 0)) := by
  rw [xor_toInt, ← BitVec.msb_eq_toInt, BitVec.msb_xor, msb_ofInt a h1 h2, msb_ofInt b h3 h4]

theorem xor_range (a b : Int) : -9223372036854775808 ≤ bits .xor .i64 a b ∧ bits .xor .i64 a b ≤ 9223372036854775807 := by
  rw [xor_toInt]
  have h1 := BitVec.toInt_lt (x := BitVec.ofInt 64 a ^^^ BitVec.ofInt 64 b)
  have h2 := BitVec.le_toInt (x := BitVec.ofInt 64 a ^^^ BitVec.ofInt 64 b)
  constructor
  · exact h2
  · omega

theorem and_neg (a b : Int) (h1 : -9223372036854775808 ≤ a) (h2 : a ≤ 9223372036854775807) (h3 : -9223372036854775808 ≤ b) (h4 : b ≤ 9223372036854775807) :
    decide (bits .and .i64 a b < 0) = (decide (a < 0) && decide (b < 0)) := by
  rw [and_toInt, ← BitVec.msb_eq_toInt, BitVec.msb_and, msb_ofInt a h1 h2, msb_ofInt b h3 h4]

/-- (a^s)&(b^s) < 0 says: the sign of s is neither a's nor b's -/
theorem both_neg (a b s t : Int) (ha1 : -9223372036854775808 ≤ a) (ha2 : a ≤ 9223372036854775807) (hb1 : -9223372036854775808 ≤ b) (hb2 : b ≤ 9223372036854775807)
    (hs1 : -9223372036854775808 ≤ s) (hs2 : s ≤ 9223372036854775807) (ht1 : -9223372036854775808 ≤ t) (ht2 : t ≤ 9223372036854775807) :
    decide (bits .and .i64 (bits .xor .i64 a s) (bits .xor .i64 b t) < 0) = ((decide (a < 0) ^^ decide (s < 0)) && (decide (b < 0) ^^ decide (t < 0))) := by
  rw [and_neg _ _ (xor_range _ _).1 (xor_range _ _).2 (xor_range _ _).1 (xor_range _ _).2, xor_neg a s ha1 ha2 hs1 hs2, xor_neg b t hb1 hb2 ht1 ht2]

theorem add_test (a b : Int) (ha1 : -9223372036854775808 ≤ a) (ha2 : a ≤ 9223372036854775807) (hb1 : -9223372036854775808 ≤ b) (hb2 : b ≤ 9223372036854775807) :
    (bits .and .i64 (bits .xor .i64 a (wrap64 (a + b))) (bits .xor .i64 b (wrap64 (a + b))) < 0) ↔ ¬ (-9223372036854775808 ≤ a + b ∧ a + b ≤ 9223372036854775807) := by
  have h := both_neg a b (wrap64 (a + b)) (wrap64 (a + b)) ha1 ha2 hb1 hb2 (by unfold wrap64; omega) (by unfold wrap64; omega) (by unfold wrap64; omega) (by unfold wrap64; omega)
  rw [← decide_eq_true_iff (p := _ < _), h]
  unfold wrap64
  simp only [Bool.and_eq_true, bne_iff_ne, ne_eq, decide_eq_decide]
  omega

theorem sub_test (a b : Int) (ha1 : -9223372036854775808 ≤ a) (ha2 : a ≤ 9223372036854775807) (hb1 : -9223372036854775808 ≤ b) (hb2 : b ≤ 9223372036854775807) :
    (bits .and .i64 (bits .xor .i64 a b) (bits .xor .i64 a (wrap64 (a - b))) < 0) ↔ ¬ (-9223372036854775808 ≤ a - b ∧ a - b ≤ 9223372036854775807) := by
  have h := both_neg a a b (wrap64 (a - b)) ha1 ha2 ha1 ha2 hb1 hb2 (by unfold wrap64; omega) (by unfold wrap64; omega)
  rw [← decide_eq_true_iff (p := _ < _), h]
  unfold wrap64
  simp only [Bool.and_eq_true, bne_iff_ne, ne_eq, decide_eq_decide]
  omega

/-- a sum or difference is a number of 64 bits -/
def inB (n : Int) : Bool := decide (-9223372036854775808 ≤ n ∧ n ≤ 9223372036854775807)
/-- the number, or 0 -/
def inV (n : Int) : Int := if inB n then n else 0
theorem inB_true {n : Int} (h : -9223372036854775808 ≤ n ∧ n ≤ 9223372036854775807) : inB n = true := by unfold inB; simpa using h
theorem inB_false {n : Int} (h : ¬ (-9223372036854775808 ≤ n ∧ n ≤ 9223372036854775807)) : inB n = false := by unfold inB; simpa using h
theorem inV_true {n : Int} (h : -9223372036854775808 ≤ n ∧ n ≤ 9223372036854775807) : inV n = n := by unfold inV; rw [inB_true h]; rfl
theorem inV_false {n : Int} (h : ¬ (-9223372036854775808 ≤ n ∧ n ≤ 9223372036854775807)) : inV n = 0 := by unfold inV; rw [inB_false h]; rfl
theorem wf_i64 {n : Int} (h : (Lit.int .i64 n).wf = true) : -9223372036854775808 ≤ n ∧ n ≤ 9223372036854775807 := by
  simp only [Lit.wf, IntKind.min, IntKind.max, IntKind.signed, IntKind.bits, Bool.and_eq_true, decide_eq_true_eq, if_true] at h
  omega
theorem wf_u64 {n : Int} (h : (Lit.int .u64 n).wf = true) : 0 ≤ n ∧ n ≤ 18446744073709551615 := by
  simp [Lit.wf, IntKind.min, IntKind.max, IntKind.signed, IntKind.bits] at h
  omega
theorem ret2 {a b : Int} {p q : Bool} (h : a = b) (g : p = q) : Ending.returned (.tuple #[.int .i64 a, .bool p]) = .returned (.tuple #[.int .i64 b, .bool q]) := by rw [h, g]
theorem add_yes (a b : Int) (ha1 : -9223372036854775808 ≤ a) (ha2 : a ≤ 9223372036854775807) (hb1 : -9223372036854775808 ≤ b) (hb2 : b ≤ 9223372036854775807) (h : -9223372036854775808 ≤ a + b ∧ a + b ≤ 9223372036854775807) :
    ¬ (bits .and .i64 (bits .xor .i64 a (a + b)) (bits .xor .i64 b (a + b)) < 0) := by
  have := add_test a b ha1 ha2 hb1 hb2
  have e : wrap64 (a + b) = a + b := by unfold wrap64; omega
  rw [e] at this
  simpa [h] using this
theorem sub_yes (a b : Int) (ha1 : -9223372036854775808 ≤ a) (ha2 : a ≤ 9223372036854775807) (hb1 : -9223372036854775808 ≤ b) (hb2 : b ≤ 9223372036854775807) (h : -9223372036854775808 ≤ a - b ∧ a - b ≤ 9223372036854775807) :
    ¬ (bits .and .i64 (bits .xor .i64 a b) (bits .xor .i64 a (a - b)) < 0) := by
  have := sub_test a b ha1 ha2 hb1 hb2
  have e : wrap64 (a - b) = a - b := by unfold wrap64; omega
  rw [e] at this
  simpa [h] using this

/-! numbers turned -/
def zigV (n : Int) : Int := if 0 ≤ n then 2 * n else -2 * n - 1
def zagV (u : Int) : Int := if u % 2 = 0 then u / 2 else -1 - u / 2
def flipV (n : Int) : Int := n + 9223372036854775808
def unflipV (u : Int) : Int := u - 9223372036854775808
theorem ret1 {k : IntKind} {a b : Int} (h : a = b) : Ending.returned (.int k a) = .returned (.int k b) := by rw [h]
theorem retB {a b : Bool} (h : a = b) : Ending.returned (.bool a) = .returned (.bool b) := by rw [h]

end Go.Proofs.YtcgiicmmfleinaaGreatDoor.NumMath

namespace Go.Proofs.YtcgiicmmfleinaaGreatDoor.NumMath
open Go.RowKit

theorem byte_of (n : Int) (h : 0 ≤ n ∧ n < 256) : (UInt8.ofNat n.toNat).toNat = n.toNat := by
  rw [UInt8.toNat_ofNat']; omega

/-- the bytes as bytes -/
def bytesL (xs : List Int) : List UInt8 := xs.map fun n => UInt8.ofNat n.toNat

/-- the string of the bytes -/
def strB (xs : List Int) : ByteArray := strOfNums xs
theorem strB_list (xs : List Int) : (strB xs).toList = bytesL xs := by
  rw [ByteArray.toList_eq]; exact strOfNums_data xs
theorem strB_size (xs : List Int) : (strB xs).size = xs.length := strOfNums_size xs

end Go.Proofs.YtcgiicmmfleinaaGreatDoor.NumMath

namespace Go.Proofs.YtcgiicmmfleinaaGreatDoor
open Go.RowKit NumMath

end Go.Proofs.YtcgiicmmfleinaaGreatDoor
