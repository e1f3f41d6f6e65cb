/- What the layer's values are in memory and in slots; cmp.Compare, okey.compare, okey.Less and the reference's Order of any two of them. -/
import Derived.Test.YtfihjhcjkgpgfaaRows
import Derived.WalkKit
import Derived.WalkSpells
import Derived.WalkLawsBesides
import Derived.Below
import Derived.Test.YtfihjhcjkgpgfaaNumMath
namespace Go.Proofs.Ytfihjhcjkgpgfaa
open Go.RowKit NumMath
set_option linter.unusedVariables false

/-- a value of the program: its kind, its number, its text -/
structure Val where
  k : Int
  n : Int
  s : ByteArray

def Val.fits (v : Val) : Prop := (-9223372036854775808 ≤ v.k ∧ v.k ≤ 9223372036854775807) ∧ (-9223372036854775808 ≤ v.n ∧ v.n ≤ 9223372036854775807) ∧ v.s.size ≤ maxLen

def Val.v (x : Val) : Value := .agg #[.int .i64 x.k, .int .i64 x.n, .string x.s]

def cmpI (x y : Int) : Int := if x < y then -1 else if y < x then 1 else 0

theorem cmpI_lt {x y : Int} (h : x < y) : cmpI x y = -1 := by unfold cmpI; rw [if_pos h]
theorem cmpI_gt {x y : Int} (h : y < x) : cmpI x y = 1 := by unfold cmpI; rw [if_neg (by omega), if_pos h]
theorem cmpI_eq {x y : Int} (h1 : y ≤ x) (h2 : x ≤ y) : cmpI x y = 0 := by unfold cmpI; rw [if_neg (by omega), if_neg (by omega)]

def cmpS (a b : ByteArray) : Int := if Op.bytesLess a.toList b.toList = true then -1 else if (a.toList == b.toList) = true then 0 else 1

theorem cmpS_lt {a b : ByteArray} (h : Op.bytesLess a.toList b.toList = true) : cmpS a b = -1 := by unfold cmpS; rw [if_pos h]
theorem cmpS_eq {a b : ByteArray} (h1 : Op.bytesLess a.toList b.toList = false) (h2 : (a.toList == b.toList) = true) : cmpS a b = 0 := by unfold cmpS; rw [if_neg (by simp [h1]), if_pos h2]
theorem cmpS_gt {a b : ByteArray} (h1 : Op.bytesLess a.toList b.toList = false) (h2 : (a.toList == b.toList) = false) : cmpS a b = 1 := by unfold cmpS; rw [if_neg (by simp [h1]), if_neg (by simp [h2])]

def cmpV (a b : Val) : Int := if a.k = b.k then (if a.k = 1 then cmpI a.n b.n else if a.k = 2 then cmpS a.s b.s else 0) else cmpI a.k b.k

theorem ccmp_int (x y : Int) (w : World) :
    Calls Try.prog 26 #[.int .i64 x, .int .i64 y] w fun e w' => e = .returned (.int .i64 (cmpI x y)) ∧ w' = w := by
  by_cases h1 : x < y
  · go_enter Try.func26, Try.ntmps26
    go_wp2
    go_ret
    exact ⟨ret1 (cmpI_lt h1).symm, rfl⟩
  · by_cases h2 : y < x
    · go_enter Try.func26, Try.ntmps26
      go_wp2
      go_ret
      exact ⟨ret1 (cmpI_gt h2).symm, rfl⟩
    · go_enter Try.func26, Try.ntmps26
      go_wp2
      go_ret
      exact ⟨ret1 (cmpI_eq h1 h2).symm, rfl⟩

theorem ccmp_int64 (x y : Int) (w : World) :
    Calls Try.prog 37 #[.int .i64 x, .int .i64 y] w fun e w' => e = .returned (.int .i64 (cmpI x y)) ∧ w' = w := by
  by_cases h1 : x < y
  · go_enter Try.func37, Try.ntmps37
    go_wp2
    go_ret
    exact ⟨ret1 (cmpI_lt h1).symm, rfl⟩
  · by_cases h2 : y < x
    · go_enter Try.func37, Try.ntmps37
      go_wp2
      go_ret
      exact ⟨ret1 (cmpI_gt h2).symm, rfl⟩
    · go_enter Try.func37, Try.ntmps37
      go_wp2
      go_ret
      exact ⟨ret1 (cmpI_eq h1 h2).symm, rfl⟩

theorem ccmp_string (a b : ByteArray) (w : World) :
    Calls Try.prog 38 #[.string a, .string b] w fun e w' => e = .returned (.int .i64 (cmpS a b)) ∧ w' = w := by
  cases h1 : Op.bytesLess a.toList b.toList
  · cases h2 : (a.toList == b.toList)
    · go_enter Try.func38, Try.ntmps38
      go_wp2
      go_ret
      exact ⟨ret1 (cmpS_gt h1 h2).symm, rfl⟩
    · go_enter Try.func38, Try.ntmps38
      go_wp2
      go_ret
      exact ⟨ret1 (cmpS_eq h1 h2).symm, rfl⟩
  · go_enter Try.func38, Try.ntmps38
    go_wp2
    go_ret
    exact ⟨ret1 (cmpS_lt h1).symm, rfl⟩

theorem compare_any (a b : Val) (w : World) :
    Calls Try.prog 25 #[a.v, b.v] w fun e w' => e = .returned (.int .i64 (cmpV a b)) ∧ Below w.heap.size w w' := by
  obtain ⟨ak, an, az⟩ := a
  obtain ⟨bk, bn, bz⟩ := b
  unfold Val.v cmpV
  dsimp only
  by_cases h : ak = bk
  · subst h
    rw [if_pos rfl]
    by_cases h1 : ak = 1
    · subst h1
      rw [if_pos rfl]
      go_enter Try.func25, Try.ntmps25
      go_wp2_with (go_at_call 37; refine (ccmp_int64 an bn _).mono ?_; rintro e w' ⟨rfl, rfl⟩)
      go_ret
      exact ⟨rfl, ((Below.refl _ _).alloc (Nat.le_refl _) _).alloc (by simp) _⟩
    · rw [if_neg h1]
      have e1 : (ak == 1) = false := by simp [h1]
      by_cases h2 : ak = 2
      · subst h2
        rw [if_pos rfl]
        go_enter Try.func25, Try.ntmps25
        go_wp2_with (go_at_call 38; refine (ccmp_string az bz _).mono ?_; rintro e w' ⟨rfl, rfl⟩)
        go_ret
        exact ⟨rfl, ((Below.refl _ _).alloc (Nat.le_refl _) _).alloc (by simp) _⟩
      · rw [if_neg h2]
        have e2 : (ak == 2) = false := by simp [h2]
        go_enter Try.func25, Try.ntmps25
        go_wp2
        go_ret
        exact ⟨rfl, ((Below.refl _ _).alloc (Nat.le_refl _) _).alloc (by simp) _⟩
  · rw [if_neg h]
    have e0 : (ak == bk) = false := by simp [h]
    go_enter Try.func25, Try.ntmps25
    go_wp2_with (go_at_call 26; refine (ccmp_int ak bk _).mono ?_; rintro e w' ⟨rfl, rfl⟩)
    go_ret
    exact ⟨rfl, ((Below.refl _ _).alloc (Nat.le_refl _) _).alloc (by simp) _⟩

theorem less_any (a b : Val) (w : World) :
    Calls Try.prog 11 #[a.v, b.v] w fun e w' => e = .returned (.bool (decide (cmpV a b < 0))) ∧ Below w.heap.size w w' := by
  have hc := fun w => compare_any a b w
  generalize cmpV a b = c at *
  obtain ⟨ak, an, az⟩ := a
  obtain ⟨bk, bn, bz⟩ := b
  unfold Val.v at *
  dsimp only at *
  go_enter Try.func11, Try.ntmps11
  go_wp2_with (go_at_call 25; refine (hc _).mono ?_; rintro e w1 ⟨rfl, hb⟩)
  go_ret
  exact ⟨rfl, (((Below.refl _ _).alloc (Nat.le_refl _) _).alloc (by simp) _).trans (hb.mono (by simp; omega))⟩

end Go.Proofs.Ytfihjhcjkgpgfaa
