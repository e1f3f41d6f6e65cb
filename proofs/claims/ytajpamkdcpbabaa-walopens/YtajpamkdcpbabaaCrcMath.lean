/- CRC-32C in plain numbers: a bit out, a byte in, many; that it is linear and loses nothing. No program is in sight. -/
import Derived.Test.YtajpamkdcpbabaaNumMath
namespace Go.Proofs.Ytajpamkdcpbabaa.NumMath
open Go.RowKit
set_option linter.unusedVariables false

/-- one bit out -/
def crcB (c : Nat) : Nat := if c % 2 = 1 then c / 2 ^^^ 2197175160 else c / 2
/-- so many bits out -/
def crcBs : Nat → Nat → Nat
  | 0, c => c
  | n + 1, c => crcB (crcBs n c)
/-- a byte in -/
def crcS (c b : Nat) : Nat := crcBs 8 (c ^^^ b)
def crcM (c : Nat) (xs : List Nat) : Nat := xs.foldl crcS c
/-- so many noughts in -/
def crcZ (n c : Nat) : Nat := crcM c (List.replicate n 0)

theorem xor_half (a b : Nat) : (a ^^^ b) / 2 = a / 2 ^^^ b / 2 := by
  have := Nat.shiftRight_xor_distrib (a := a) (b := b) (i := 1)
  simpa [Nat.shiftRight_succ] using this

theorem xor_low (a b : Nat) : (a ^^^ b) % 2 = 1 ↔ ¬ (a % 2 = 1 ↔ b % 2 = 1) := by
  have h : (a ^^^ b).testBit 0 = (a.testBit 0 ^^ b.testBit 0) := Nat.testBit_xor ..
  simp only [Nat.testBit_zero] at h
  by_cases ha : a % 2 = 1 <;> by_cases hb : b % 2 = 1 <;> simp [ha, hb] at h ⊢ <;> omega

theorem crcB_xor (a b : Nat) : crcB (a ^^^ b) = crcB a ^^^ crcB b := by
  unfold crcB
  have hl := xor_low a b
  rw [xor_half]
  by_cases ha : a % 2 = 1 <;> by_cases hb : b % 2 = 1
  · rw [if_neg (by rw [hl]; simp [ha, hb]), if_pos ha, if_pos hb]
    have e : a / 2 ^^^ 2197175160 ^^^ (b / 2 ^^^ 2197175160) = a / 2 ^^^ b / 2 ^^^ (2197175160 ^^^ 2197175160) := by
      simp only [Nat.xor_assoc]
      congr 1
      simp only [← Nat.xor_assoc]
      rw [Nat.xor_comm 2197175160 (b / 2)]
    rw [e, Nat.xor_self, Nat.xor_zero]
  · rw [if_pos (by rw [hl]; simp [ha, hb]), if_pos ha, if_neg hb, Nat.xor_assoc, Nat.xor_comm (b / 2), ← Nat.xor_assoc]
  · rw [if_pos (by rw [hl]; simp [ha, hb]), if_neg ha, if_pos hb, Nat.xor_assoc]
  · rw [if_neg (by rw [hl]; simp [ha, hb]), if_neg ha, if_neg hb]

theorem crcB_zero : crcB 0 = 0 := rfl

theorem crcBs_xor (n a b : Nat) : crcBs n (a ^^^ b) = crcBs n a ^^^ crcBs n b := by
  induction n with
  | zero => rfl
  | succ n ih => show crcB (crcBs n (a ^^^ b)) = _; rw [ih, crcB_xor]; rfl

theorem crcS_xor (c d a b : Nat) : crcS (c ^^^ d) (a ^^^ b) = crcS c a ^^^ crcS d b := by
  unfold crcS
  rw [← crcBs_xor]
  congr 1
  simp only [Nat.xor_assoc]
  congr 1
  simp only [← Nat.xor_assoc]
  rw [Nat.xor_comm d a]

theorem crcB_lt (c : Nat) (h : c < 4294967296) : crcB c < 4294967296 := by
  unfold crcB
  split
  · exact Nat.xor_lt_two_pow (n := 32) (by omega) (by decide)
  · omega

/-- a bit that goes out is told by the highest -/
theorem crcB_inj (c : Nat) (h : c < 4294967296) (h0 : crcB c = 0) : c = 0 := by
  unfold crcB at h0
  split at h0
  · have e : c / 2 = 2197175160 := by
      have := congrArg (fun x => x ^^^ 2197175160) h0
      simpa [Nat.xor_assoc] using this
    omega
  · omega

theorem crcBs_lt (n c : Nat) (h : c < 4294967296) : crcBs n c < 4294967296 := by
  induction n with
  | zero => exact h
  | succ n ih => exact crcB_lt _ ih

theorem crcBs_inj (n c : Nat) (h : c < 4294967296) (h0 : crcBs n c = 0) : c = 0 := by
  induction n with
  | zero => exact h0
  | succ n ih => exact ih (crcB_inj _ (crcBs_lt n c h) h0)

theorem crcS_lt (c b : Nat) (h : c < 4294967296) (hb : b < 256) : crcS c b < 4294967296 := crcBs_lt 8 _ (Nat.xor_lt_two_pow (n := 32) h (by omega))

theorem crcM_lt (xs : List Nat) : ∀ c, c < 4294967296 → (∀ b ∈ xs, b < 256) → crcM c xs < 4294967296 := by
  induction xs with
  | nil => intro c h _; exact h
  | cons b r ih => intro c h hb; exact ih _ (crcS_lt c b h (hb b List.mem_cons_self)) (fun x hx => hb x (List.mem_cons_of_mem _ hx))

theorem crcM_append (c : Nat) (xs ys : List Nat) : crcM c (xs ++ ys) = crcM (crcM c xs) ys := List.foldl_append

/-- more over two texts of one length, bit by bit -/
theorem crcM_xor : ∀ (xs ys : List Nat) (c d : Nat), xs.length = ys.length → crcM (c ^^^ d) (xs.zipWith (· ^^^ ·) ys) = crcM c xs ^^^ crcM d ys := by
  intro xs
  induction xs with
  | nil => intro ys c d h; cases ys with
    | nil => rfl
    | cons _ _ => cases h
  | cons a r ih => intro ys c d h; cases ys with
    | nil => cases h
    | cons b s =>
      show crcM (crcS (c ^^^ d) (a ^^^ b)) (r.zipWith (· ^^^ ·) s) = crcM (crcS c a) r ^^^ crcM (crcS d b) s
      rw [crcS_xor, ih s _ _ (by simpa using h)]

theorem zip_zero : ∀ (xs : List Nat), xs.zipWith (· ^^^ ·) (List.replicate xs.length 0) = xs := by
  intro xs
  induction xs with
  | nil => rfl
  | cons a r ih => show (a ^^^ 0) :: r.zipWith (· ^^^ ·) (List.replicate r.length 0) = _; rw [ih, Nat.xor_zero]

/-- more over a text, from elsewhere -/
theorem crcM_from (c d : Nat) (xs : List Nat) : crcM (c ^^^ d) xs = crcM c xs ^^^ crcZ xs.length d := by
  have := crcM_xor xs (List.replicate xs.length 0) c d (by simp)
  rw [zip_zero] at this
  exact this

theorem crcZ_succ (n c : Nat) : crcZ (n + 1) c = crcZ n (crcBs 8 c) := by
  unfold crcZ crcM
  rw [List.replicate_succ, List.foldl_cons]
  unfold crcS
  rw [Nat.xor_zero]

theorem crcZ_inj : ∀ (n c : Nat), c < 4294967296 → crcZ n c = 0 → c = 0 := by
  intro n
  induction n with
  | zero => intro c _ h; exact h
  | succ n ih => intro c h h0; rw [crcZ_succ] at h0; exact crcBs_inj 8 c h (ih _ (crcBs_lt 8 c h) h0)

theorem crcZ_zero (n : Nat) : crcZ n 0 = 0 := by
  induction n with
  | zero => rfl
  | succ n ih => rw [crcZ_succ]; exact ih

def crcSum (xs : List Nat) : Nat := 4294967295 - crcM 4294967295 xs

theorem not_xor (c : Nat) (h : c < 4294967296) : 4294967295 - c = c ^^^ 4294967295 := by
  have e : c ^^^ 4294967295 = 2 ^ 32 - 1 - c := by
    apply Nat.eq_of_testBit_eq
    intro i
    rw [Nat.testBit_xor, show (4294967295 : Nat) = 2 ^ 32 - 1 from rfl, Nat.testBit_two_pow_sub_one]
    have h2 : (2 ^ 32 - 1 - c) = 2 ^ 32 - (c + 1) := by omega
    rw [h2, Nat.testBit_two_pow_sub_succ h]
    by_cases hi : i < 32
    · simp [hi]
    · have : c.testBit i = false := Nat.testBit_lt_two_pow (Nat.lt_of_lt_of_le h (Nat.pow_le_pow_right (n := 2) (i := 32) (by omega) (by omega)))
      simp [hi, this]
  rw [e]

/-- the sum of two texts, one behind the other -/
theorem crcSum_join (xs ys : List Nat) (hx : ∀ b ∈ xs, b < 256) (hy : ∀ b ∈ ys, b < 256) : crcSum (xs ++ ys) = crcZ ys.length (crcSum xs) ^^^ crcSum ys := by
  unfold crcSum
  have h1 := crcM_lt xs 4294967295 (by omega) hx
  have h2 := crcM_lt ys 4294967295 (by omega) hy
  have h3 := crcM_lt (xs ++ ys) 4294967295 (by omega) (fun b hb => by rcases List.mem_append.1 hb with hb | hb; exact hx b hb; exact hy b hb)
  rw [not_xor _ h3, not_xor _ h1, not_xor _ h2, crcM_append]
  have e : crcM 4294967295 xs = 4294967295 ^^^ (crcM 4294967295 xs ^^^ 4294967295) := by
    rw [Nat.xor_comm (crcM 4294967295 xs), ← Nat.xor_assoc, Nat.xor_self, Nat.zero_xor]
  conv => lhs; rw [e, crcM_from]
  rw [Nat.xor_comm (crcM 4294967295 ys), Nat.xor_assoc]

/-- two texts that differ in one byte have unlike sums -/
theorem crcSum_differs (xs ys : List Nat) (a b : Nat) (hx : ∀ b ∈ xs, b < 256) (hy : ∀ b ∈ ys, b < 256) (ha : a < 256) (hb : b < 256) (hne : a ≠ b) : crcSum (xs ++ a :: ys) ≠ crcSum (xs ++ b :: ys) := by
  unfold crcSum
  intro h
  have l1 := crcM_lt (xs ++ a :: ys) 4294967295 (by omega) (fun c hc => by rcases List.mem_append.1 hc with hc | hc; exact hx c hc; rcases List.mem_cons.1 hc with rfl | hc; exact ha; exact hy c hc)
  have l2 := crcM_lt (xs ++ b :: ys) 4294967295 (by omega) (fun c hc => by rcases List.mem_append.1 hc with hc | hc; exact hx c hc; rcases List.mem_cons.1 hc with rfl | hc; exact hb; exact hy c hc)
  have e : crcM 4294967295 (xs ++ a :: ys) = crcM 4294967295 (xs ++ b :: ys) := by omega
  rw [crcM_append, crcM_append] at e
  have l0 := crcM_lt xs 4294967295 (by omega) hx
  generalize crcM 4294967295 xs = c at e l0
  have e1 : crcM (crcS c a) ys = crcM (crcS c b) ys := e
  have l3 := crcS_lt c a l0 ha
  have l4 := crcS_lt c b l0 hb
  have e2 : crcS c a = crcS c b ^^^ (crcS c b ^^^ crcS c a) := by rw [← Nat.xor_assoc, Nat.xor_self, Nat.zero_xor]
  rw [e2, crcM_from] at e1
  have e3 : crcZ ys.length (crcS c b ^^^ crcS c a) = 0 := by
    have := congrArg (fun x => crcM (crcS c b) ys ^^^ x) e1
    simpa [← Nat.xor_assoc] using this
  have e4 := crcZ_inj _ _ (Nat.xor_lt_two_pow (n := 32) l4 l3) e3
  rw [← crcS_xor, Nat.xor_self] at e4
  unfold crcS at e4
  rw [Nat.zero_xor] at e4
  have e5 := crcBs_inj 8 _ (Nat.xor_lt_two_pow (n := 32) (by omega) (by omega)) e4
  have e6 : b = a := by
    have := congrArg (fun x => x ^^^ a) e5
    simpa [Nat.xor_assoc] using this
  exact hne e6.symm

end Go.Proofs.Ytajpamkdcpbabaa.NumMath
