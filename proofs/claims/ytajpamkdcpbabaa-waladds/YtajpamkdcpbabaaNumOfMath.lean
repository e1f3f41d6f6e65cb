/- The number that bytes are, the highest ahead, of 64 bits: plain, no program in sight. -/
import Derived.Test.YtajpamkdcpbabaaNumStr
namespace Go.Proofs.Ytajpamkdcpbabaa.NumMath
open Go.RowKit

/-- of any bytes: what is left of it in 64 bits -/
def ofStep (u c : Int) : Int := (u * 256 + c) % 18446744073709551616
def ofV (l : List Int) : Int := l.foldl ofStep 0

theorem ofStep_range (u c : Int) : 0 ≤ ofStep u c ∧ ofStep u c ≤ 18446744073709551615 := by unfold ofStep; omega
theorem ofV_snoc (l : List Int) (c : Int) : ofV (l ++ [c]) = ofStep (ofV l) c := by unfold ofV; rw [List.foldl_append]; rfl
theorem ofV_take (l : List Int) (k : Nat) (h : k < l.length) : ofV (l.take (k + 1)) = ofStep (ofV (l.take k)) (l.getD k 0) := by
  rw [List.take_succ_eq_append_getElem h, ofV_snoc]
  simp [List.getD, List.getElem?_eq_getElem h]
theorem fold_range (l : List Int) : ∀ u, 0 ≤ u → u ≤ 18446744073709551615 → 0 ≤ l.foldl ofStep u ∧ l.foldl ofStep u ≤ 18446744073709551615 := by
  induction l with
  | nil => intro u h1 h2; exact ⟨h1, h2⟩
  | cons c l ih => intro u _ _; exact ih _ (ofStep_range u c).1 (ofStep_range u c).2
theorem ofV_range (l : List Int) : 0 ≤ ofV l ∧ ofV l ≤ 18446744073709551615 := fold_range l 0 (by decide) (by decide)

theorem or_step (u c : Int) (h1 : 0 ≤ c) (h2 : c < 256) : bits .or .u64 (IntKind.u64.wrap (u * 256)) c = ofStep u c := by
  simp only [IntKind.wrap_u64]
  rw [u64_or _ _ (by omega) (by omega) (by omega) (by omega)]
  have hx : (u * 256 % 18446744073709551616).toNat % 2 ^ 8 = 0 := by omega
  rw [nat_join 8 _ _ hx (by omega)]
  unfold ofStep
  omega

theorem mul_step (u c : Int) : IntKind.u64.wrap (IntKind.u64.wrap (u * 256) + c) = ofStep u c := by
  simp only [IntKind.wrap_u64]
  unfold ofStep
  omega

/-- only the last eight bytes tell -/
theorem fold_mod (l : List Int) : ∀ u, l.foldl ofStep u = if l = [] then u else (u * 256 ^ l.length + l.foldl ofStep 0) % 18446744073709551616 := by
  induction l with
  | nil => intro u; rfl
  | cons c l ih =>
    intro u
    rw [if_neg (by simp), List.foldl_cons, List.foldl_cons, ih (ofStep u c), ih (ofStep 0 c)]
    by_cases hl : l = []
    · subst hl
      simp [ofStep]
    · rw [if_neg hl, if_neg hl, List.length_cons, Int.pow_succ]
      generalize l.foldl ofStep 0 = t
      generalize (256 : Int) ^ l.length = p
      have e1 : ofStep u c = u * 256 + c - 18446744073709551616 * ((u * 256 + c) / 18446744073709551616) := by unfold ofStep; omega
      have e2 : ofStep 0 c = c - 18446744073709551616 * (c / 18446744073709551616) := by unfold ofStep; omega
      rw [e1, e2]
      generalize (u * 256 + c) / 18446744073709551616 = a
      generalize c / 18446744073709551616 = b
      have f1 : (u * 256 + c - 18446744073709551616 * a) * p + t = (u * (p * 256) + (c * p + t)) - 18446744073709551616 * (a * p) := by
        rw [Int.sub_mul, Int.add_mul, Int.mul_assoc u 256 p, Int.mul_comm 256 p, Int.mul_assoc 18446744073709551616 a p]; omega
      have f2 : (c - 18446744073709551616 * b) * p + t = (c * p + t) - 18446744073709551616 * (b * p) := by
        rw [Int.sub_mul, Int.mul_assoc 18446744073709551616 b p]; omega
      rw [f1, f2]
      generalize u * (p * 256) = x
      generalize c * p + t = y
      generalize a * p = z
      generalize b * p = v
      omega

theorem ofV_last (l : List Int) (m : Nat) (h : l.length = m + 8) : ofV l = ofV (l.drop m) := by
  have hs : l = l.take m ++ l.drop m := (List.take_append_drop m l).symm
  have hd : (l.drop m).length = 8 := by rw [List.length_drop]; omega
  have e : ofV l = (l.drop m).foldl ofStep (ofV (l.take m)) := by
    unfold ofV
    rw [← List.foldl_append, List.take_append_drop]
  rw [e, fold_mod, if_neg (by intro h0; rw [h0] at hd; simp at hd), hd]
  have hr := ofV_range (l.drop m)
  show (ofV (l.take m) * 256 ^ 8 + ofV (l.drop m)) % 18446744073709551616 = _
  rw [show (256 : Int) ^ 8 = 18446744073709551616 by decide]
  omega

theorem ofV_put (u : Int) (n : Nat) (hn : n ≤ 8) : ofV (putL u n) = u % 256 ^ n := by
  induction n with
  | zero => show (0 : Int) = u % 1; omega
  | succ n ih =>
    have ih := ih (by omega)
    have hb := nthB_range u n
    have e0 : ofStep 0 (nthB u n) = nthB u n := by unfold ofStep; omega
    have hp : (0 : Int) < 256 ^ (n + 1) := Int.pow_pos (by decide)
    have hle : (256 : Int) ^ (n + 1) ≤ 256 ^ 8 := by
      have h := Int.ofNat_le.2 (Nat.pow_le_pow_right (n := 256) (by decide) hn)
      rw [Int.natCast_pow, Int.natCast_pow] at h
      exact h
    have h1 := Int.emod_nonneg u (Int.ne_of_gt hp)
    have h2 := Int.emod_lt_of_pos u hp
    have h64 : (256 : Int) ^ 8 = 18446744073709551616 := by decide
    show (putL u n).foldl ofStep (ofStep 0 (nthB u n)) = _
    rw [e0, fold_mod]
    by_cases hl : putL u n = []
    · have : n = 0 := by have := putL_length u n; rw [hl] at this; exact this.symm
      subst this
      rw [if_pos hl, emod_step]
      show nthB u 0 = nthB u 0 * 1 + u % 1
      omega
    · rw [if_neg hl, putL_length]
      show (nthB u n * 256 ^ n + ofV (putL u n)) % 18446744073709551616 = _
      rw [ih, ← emod_step]
      omega

theorem ofV_put8 (u : Int) (h1 : 0 ≤ u) (h2 : u ≤ 18446744073709551615) : ofV (putL u 8) = u := by
  rw [ofV_put u 8 (by decide), pow8 u h1 h2]
end Go.Proofs.Ytajpamkdcpbabaa.NumMath
