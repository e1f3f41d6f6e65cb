/- What layer 3 (row) writes and reads, in plain lists of numbers: numbers in groups of seven bits, texts, values, rows; no program is in sight. -/
import Derived.Test.YtfojpengdpnigaaGreatBytCut
namespace Go.Proofs.YtfojpengdpnigaaGreat
open Go.RowKit NumMath
set_option linter.unusedVariables false

/-- the groups ahead of the last one, 128 added to each -/
def hiN (m : Nat) : List Int := if h : m = 0 then [] else hiN (m / 128) ++ [((m % 128 : Nat) : Int) + 128]
  termination_by m
  decreasing_by exact Nat.div_lt_self (by omega) (by omega)

/-- a number's bytes -/
def numN (n : Nat) : List Int := hiN (n / 128) ++ [((n % 128 : Nat) : Int)]
def numL (n : Int) : List Int := numN n.toNat

theorem hiN_zero : hiN 0 = [] := by rw [hiN]; rfl
theorem hiN_step {m : Nat} (h : m ≠ 0) : hiN m = hiN (m / 128) ++ [((m % 128 : Nat) : Int) + 128] := by rw [hiN]; rw [dif_neg h]

theorem hiN_range : ∀ (m : Nat), ∀ c ∈ hiN m, 0 ≤ c ∧ c < 256 := by
  intro m
  induction m using Nat.strongRecOn with
  | _ m ih =>
    intro c hc
    by_cases h : m = 0
    · subst h; rw [hiN_zero] at hc; cases hc
    · rw [hiN_step h, List.mem_append, List.mem_singleton] at hc
      rcases hc with hc | hc
      · exact ih _ (Nat.div_lt_self (by omega) (by omega)) c hc
      · have := Nat.mod_lt m (show 128 > 0 by omega)
        omega

theorem numN_range (n : Nat) : ∀ c ∈ numN n, 0 ≤ c ∧ c < 256 := by
  intro c hc
  unfold numN at hc
  rw [List.mem_append, List.mem_singleton] at hc
  rcases hc with hc | hc
  · exact hiN_range _ c hc
  · have := Nat.mod_lt n (show 128 > 0 by omega)
    omega

theorem numL_range (n : Int) : ∀ c ∈ numL n, 0 ≤ c ∧ c < 256 := numN_range _

/-- how many groups: at most k, if the number is below 128^k -/
theorem hiN_length : ∀ (k m : Nat), m < 128 ^ k → (hiN m).length ≤ k := by
  intro k
  induction k with
  | zero => intro m h; have : m = 0 := by simpa using h
            subst this; rw [hiN_zero]; exact Nat.le_refl _
  | succ k ih =>
    intro m h
    by_cases h0 : m = 0
    · subst h0; rw [hiN_zero]; exact Nat.zero_le _
    · rw [hiN_step h0, List.length_append]
      have : m / 128 < 128 ^ k := by
        rw [Nat.div_lt_iff_lt_mul (by omega)]
        rw [Nat.pow_succ] at h
        exact h
      have := ih _ this
      simp only [List.length_singleton]
      omega

theorem numL_length (n : Int) (h1 : 0 ≤ n) (h2 : n ≤ 18446744073709551615) : (numL n).length ≤ 10 := by
  unfold numL numN
  rw [List.length_append]
  have hn : n.toNat / 128 < 128 ^ 9 := by
    have : n.toNat ≤ 18446744073709551615 := by omega
    have e : (128 : Nat) ^ 9 = 9223372036854775808 := by decide
    rw [e]; omega
  have := hiN_length 9 _ hn
  simp only [List.length_singleton]
  omega

/-- a number, read: the one that was begun, whether none was, the bytes -/
def scan : Bool → Nat → List Int → Option (Nat × List Int)
  | _, _, [] => none
  | f, n, c :: r => if (f = true ∧ c = 128) ∨ 144115188075855872 ≤ n then none else if c < 128 then some (n * 128 + (c % 128).toNat, r) else scan false (n * 128 + (c % 128).toNat) r

theorem scan_nil (f : Bool) (n : Nat) : scan f n [] = none := by cases f <;> rfl

theorem scan_hi : ∀ (m : Nat) (t : List Int), m < 18446744073709551616 → scan true 0 (hiN m ++ t) = if m = 0 then scan true 0 t else scan false m t := by
  intro m
  induction m using Nat.strongRecOn with
  | _ m ih =>
    intro t hm
    by_cases h : m = 0
    · subst h; rw [hiN_zero, if_pos rfl]; rfl
    · rw [if_neg h, hiN_step h, List.append_assoc, List.singleton_append, ih _ (Nat.div_lt_self (by omega) (by omega)) _ (by omega)]
      have hr := Nat.mod_lt m (show 128 > 0 by omega)
      have e : ((((m % 128 : Nat) : Int) + 128) % 128).toNat = m % 128 := by omega
      by_cases h1 : m / 128 = 0
      · rw [if_pos h1]
        rw [scan, if_neg, if_neg (by omega), e]
        · have : 0 * 128 + m % 128 = m := by omega
          rw [this]
        · rintro (⟨_, h2⟩ | h2)
          · omega
          · omega
      · rw [if_neg h1, scan, if_neg, if_neg (by omega), e]
        · have : m / 128 * 128 + m % 128 = m := by omega
          rw [this]
        · rintro (⟨h2, _⟩ | h2)
          · cases h2
          · omega

theorem scan_num (n : Nat) (t : List Int) (hn : n < 18446744073709551616) : scan true 0 (numN n ++ t) = some (n, t) := by
  unfold numN
  rw [List.append_assoc, List.singleton_append, scan_hi _ _ (by omega)]
  have hr := Nat.mod_lt n (show 128 > 0 by omega)
  have e : (((n % 128 : Nat) : Int) % 128).toNat = n % 128 := by omega
  by_cases h1 : n / 128 = 0
  · rw [if_pos h1, scan, if_neg, if_pos (by omega), e]
    · have : 0 * 128 + n % 128 = n := by omega
      rw [this]
    · rintro (⟨_, h2⟩ | h2)
      · omega
      · omega
  · rw [if_neg h1, scan, if_neg, if_pos (by omega), e]
    · have : n / 128 * 128 + n % 128 = n := by omega
      rw [this]
    · rintro (⟨h2, _⟩ | h2)
      · cases h2
      · omega

theorem scan_back : ∀ (t : List Int) (m n : Nat) (r : List Int), (∀ c ∈ t, 0 ≤ c ∧ c < 256) → m ≠ 0 → scan false m t = some (n, r) → hiN m ++ t = numN n ++ r ∧ n < 18446744073709551616 := by
  intro t
  induction t with
  | nil => intro m n r _ _ h; rw [scan_nil] at h; cases h
  | cons c t ih =>
    intro m n r hc hm h
    have hc0 := hc c List.mem_cons_self
    rw [scan] at h
    split at h
    · cases h
    · rename_i hn
      have hlt : m < 144115188075855872 := by
        have : ¬ (144115188075855872 ≤ m) := fun x => hn (.inr x)
        omega
      split at h
      · cases h
        rename_i hlt2
        have e : (c % 128).toNat = c.toNat := by omega
        refine ⟨?_, by omega⟩
        unfold numN
        have e1 : (m * 128 + (c % 128).toNat) / 128 = m := by omega
        have e2 : (m * 128 + (c % 128).toNat) % 128 = c.toNat := by omega
        rw [e1, e2, List.append_assoc, List.singleton_append]
        have : ((c.toNat : Nat) : Int) = c := by omega
        rw [this]
      · rename_i hge
        have h3 := ih _ _ _ (fun x hx => hc x (List.mem_cons_of_mem _ hx)) (by omega) h
        refine ⟨?_, h3.2⟩
        rw [← h3.1, hiN_step (m := m * 128 + (c % 128).toNat) (by omega)]
        have e1 : (m * 128 + (c % 128).toNat) / 128 = m := by omega
        have e2 : (((m * 128 + (c % 128).toNat) % 128 : Nat) : Int) + 128 = c := by omega
        rw [e1, e2, List.append_assoc, List.singleton_append]

theorem scan_inv {xs : List Int} {n : Nat} {r : List Int} (hx : ∀ c ∈ xs, 0 ≤ c ∧ c < 256) (h : scan true 0 xs = some (n, r)) : xs = numN n ++ r ∧ n < 18446744073709551616 := by
  cases xs with
  | nil => cases h
  | cons c t =>
    have hc := hx c List.mem_cons_self
    rw [scan] at h
    split at h
    · cases h
    · rename_i hn
      have hne : c ≠ 128 := fun x => hn (.inl ⟨rfl, x⟩)
      split at h
      · cases h
        refine ⟨?_, by omega⟩
        unfold numN
        have e1 : (0 * 128 + (c % 128).toNat) / 128 = 0 := by omega
        have e2 : (((0 * 128 + (c % 128).toNat) % 128 : Nat) : Int) = c := by omega
        rw [e1, e2, hiN_zero]; rfl
      · have h3 := scan_back t _ _ _ (fun x hx' => hx x (List.mem_cons_of_mem _ hx')) (by omega) h
        refine ⟨?_, h3.2⟩
        rw [← h3.1, hiN_step (m := 0 * 128 + (c % 128).toNat) (by omega)]
        have e1 : (0 * 128 + (c % 128).toNat) / 128 = 0 := by omega
        have e2 : (((0 * 128 + (c % 128).toNat) % 128 : Nat) : Int) + 128 = c := by omega
        rw [e1, e2, hiN_zero]; rfl

end Go.Proofs.YtfojpengdpnigaaGreat
