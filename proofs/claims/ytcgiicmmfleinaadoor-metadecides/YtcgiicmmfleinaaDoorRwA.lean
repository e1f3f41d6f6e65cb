/- What layer 3 (row) writes and reads, in plain lists of numbers: numbers in groups of seven bits, texts, values, rows; no program is in sight. math/bits.Len64: how many bits a number has. row.appendNumber: a number behind what was gathered. row.firstNumber: the number that bytes begin with, or none. A Writer in memory: what its N, I, Text, Bytes do to it, and that they touch nothing else. A Reader in memory: the program's and the reference's; what they read, and that they touch nothing else. The Reader's N, I, Text, Value, Left, End; Read. row.Read; the Reader's Text and Value. The reference's Reader: N, I, Text, End. The reference's Reader: I, Text, Val, End. The reference's N, Text and Val: the same bytes, in memory of their own. -/
import Derived.Test.YtcgiicmmfleinaaDoorBtA
import Derived.Laws.MathBits
import Derived.Test.YtcgiicmmfleinaaDoorNmA
import Derived.Lib.ConvBytes
import Derived.Deep.RegionHeld
import Derived.Deep.RegionHeld3
namespace Go.Proofs.YtcgiicmmfleinaaDoor
open Go.RowKit NumMath
set_option linter.unusedVariables false

/-- the groups ahead of the last one, 128 added to each -/
def hiN (m : Nat) : List Int := if h : m = 0 then [] else hiN (m / 128) ++ [((m % 128 : Nat) : Int) + 128]
  termination_by m
  decreasing_by exact Nat.div_lt_self (by omega) (by omega)

/-- a number's bytes -/
def numN (n : Nat) : List Int := hiN (n / 128) ++ [((n % 128 : Nat) : Int)]
def numL (n : Int) : List Int := numN n.toNat

theorem hiN_zero : hiN 0 = [] := by rw [hiN]; rfl
theorem hiN_step {m : Nat} (h : m ≠ 0) : hiN m = hiN (m / 128) ++ [((m % 128 : Nat) : Int) + 128] := by rw [hiN]; rw [dif_neg h]

theorem hiN_range : ∀ (m : Nat), ∀ c ∈ hiN m, 0 ≤ c ∧ c < 256 := by
  intro m
  induction m using Nat.strongRecOn with
  | _ m ih =>
    intro c hc
    by_cases h : m = 0
    · subst h; rw [hiN_zero] at hc; cases hc
    · rw [hiN_step h, List.mem_append, List.mem_singleton] at hc
      rcases hc with hc | hc
      · exact ih _ (Nat.div_lt_self (by omega) (by omega)) c hc
      · have := Nat.mod_lt m (show 128 > 0 by omega)
        omega

theorem numN_range (n : Nat) : ∀ c ∈ numN n, 0 ≤ c ∧ c < 256 := by
  intro c hc
  unfold numN at hc
  rw [List.mem_append, List.mem_singleton] at hc
  rcases hc with hc | hc
  · exact hiN_range _ c hc
  · have := Nat.mod_lt n (show 128 > 0 by omega)
    omega

theorem numL_range (n : Int) : ∀ c ∈ numL n, 0 ≤ c ∧ c < 256 := numN_range _

/-- how many groups: at most k, if the number is below 128^k -/
theorem hiN_length : ∀ (k m : Nat), m < 128 ^ k → (hiN m).length ≤ k := by
  intro k
  induction k with
  | zero => intro m h; have : m = 0 := by simpa using h
            subst this; rw [hiN_zero]; exact Nat.le_refl _
  | succ k ih =>
    intro m h
    by_cases h0 : m = 0
    · subst h0; rw [hiN_zero]; exact Nat.zero_le _
    · rw [hiN_step h0, List.length_append]
      have : m / 128 < 128 ^ k := by
        rw [Nat.div_lt_iff_lt_mul (by omega)]
        rw [Nat.pow_succ] at h
        exact h
      have := ih _ this
      simp only [List.length_singleton]
      omega

theorem numL_length (n : Int) (h1 : 0 ≤ n) (h2 : n ≤ 18446744073709551615) : (numL n).length ≤ 10 := by
  unfold numL numN
  rw [List.length_append]
  have hn : n.toNat / 128 < 128 ^ 9 := by
    have : n.toNat ≤ 18446744073709551615 := by omega
    have e : (128 : Nat) ^ 9 = 9223372036854775808 := by decide
    rw [e]; omega
  have := hiN_length 9 _ hn
  simp only [List.length_singleton]
  omega

/-- a number, read: the one that was begun, whether none was, the bytes -/
def scan : Bool → Nat → List Int → Option (Nat × List Int)
  | _, _, [] => none
  | f, n, c :: r => if (f = true ∧ c = 128) ∨ 144115188075855872 ≤ n then none else if c < 128 then some (n * 128 + (c % 128).toNat, r) else scan false (n * 128 + (c % 128).toNat) r

theorem scan_nil (f : Bool) (n : Nat) : scan f n [] = none := by cases f <;> rfl

theorem scan_hi : ∀ (m : Nat) (t : List Int), m < 18446744073709551616 → scan true 0 (hiN m ++ t) = if m = 0 then scan true 0 t else scan false m t := by
  intro m
  induction m using Nat.strongRecOn with
  | _ m ih =>
    intro t hm
    by_cases h : m = 0
    · subst h; rw [hiN_zero, if_pos rfl]; rfl
    · rw [if_neg h, hiN_step h, List.append_assoc, List.singleton_append, ih _ (Nat.div_lt_self (by omega) (by omega)) _ (by omega)]
      have hr := Nat.mod_lt m (show 128 > 0 by omega)
      have e : ((((m % 128 : Nat) : Int) + 128) % 128).toNat = m % 128 := by omega
      by_cases h1 : m / 128 = 0
      · rw [if_pos h1]
        rw [scan, if_neg, if_neg (by omega), e]
        · have : 0 * 128 + m % 128 = m := by omega
          rw [this]
        · rintro (⟨_, h2⟩ | h2)
          · omega
          · omega
      · rw [if_neg h1, scan, if_neg, if_neg (by omega), e]
        · have : m / 128 * 128 + m % 128 = m := by omega
          rw [this]
        · rintro (⟨h2, _⟩ | h2)
          · cases h2
          · omega

theorem scan_num (n : Nat) (t : List Int) (hn : n < 18446744073709551616) : scan true 0 (numN n ++ t) = some (n, t) := by
  unfold numN
  rw [List.append_assoc, List.singleton_append, scan_hi _ _ (by omega)]
  have hr := Nat.mod_lt n (show 128 > 0 by omega)
  have e : (((n % 128 : Nat) : Int) % 128).toNat = n % 128 := by omega
  by_cases h1 : n / 128 = 0
  · rw [if_pos h1, scan, if_neg, if_pos (by omega), e]
    · have : 0 * 128 + n % 128 = n := by omega
      rw [this]
    · rintro (⟨_, h2⟩ | h2)
      · omega
      · omega
  · rw [if_neg h1, scan, if_neg, if_pos (by omega), e]
    · have : n / 128 * 128 + n % 128 = n := by omega
      rw [this]
    · rintro (⟨h2, _⟩ | h2)
      · cases h2
      · omega

theorem scan_back : ∀ (t : List Int) (m n : Nat) (r : List Int), (∀ c ∈ t, 0 ≤ c ∧ c < 256) → m ≠ 0 → scan false m t = some (n, r) → hiN m ++ t = numN n ++ r ∧ n < 18446744073709551616 := by
  intro t
  induction t with
  | nil => intro m n r _ _ h; rw [scan_nil] at h; cases h
  | cons c t ih =>
    intro m n r hc hm h
    have hc0 := hc c List.mem_cons_self
    rw [scan] at h
    split at h
    · cases h
    · rename_i hn
      have hlt : m < 144115188075855872 := by
        have : ¬ (144115188075855872 ≤ m) := fun x => hn (.inr x)
        omega
      split at h
      · cases h
        rename_i hlt2
        have e : (c % 128).toNat = c.toNat := by omega
        refine ⟨?_, by omega⟩
        unfold numN
        have e1 : (m * 128 + (c % 128).toNat) / 128 = m := by omega
        have e2 : (m * 128 + (c % 128).toNat) % 128 = c.toNat := by omega
        rw [e1, e2, List.append_assoc, List.singleton_append]
        have : ((c.toNat : Nat) : Int) = c := by omega
        rw [this]
      · rename_i hge
        have h3 := ih _ _ _ (fun x hx => hc x (List.mem_cons_of_mem _ hx)) (by omega) h
        refine ⟨?_, h3.2⟩
        rw [← h3.1, hiN_step (m := m * 128 + (c % 128).toNat) (by omega)]
        have e1 : (m * 128 + (c % 128).toNat) / 128 = m := by omega
        have e2 : (((m * 128 + (c % 128).toNat) % 128 : Nat) : Int) + 128 = c := by omega
        rw [e1, e2, List.append_assoc, List.singleton_append]

theorem scan_inv {xs : List Int} {n : Nat} {r : List Int} (hx : ∀ c ∈ xs, 0 ≤ c ∧ c < 256) (h : scan true 0 xs = some (n, r)) : xs = numN n ++ r ∧ n < 18446744073709551616 := by
  cases xs with
  | nil => cases h
  | cons c t =>
    have hc := hx c List.mem_cons_self
    rw [scan] at h
    split at h
    · cases h
    · rename_i hn
      have hne : c ≠ 128 := fun x => hn (.inl ⟨rfl, x⟩)
      split at h
      · cases h
        refine ⟨?_, by omega⟩
        unfold numN
        have e1 : (0 * 128 + (c % 128).toNat) / 128 = 0 := by omega
        have e2 : (((0 * 128 + (c % 128).toNat) % 128 : Nat) : Int) = c := by omega
        rw [e1, e2, hiN_zero]; rfl
      · have h3 := scan_back t _ _ _ (fun x hx' => hx x (List.mem_cons_of_mem _ hx')) (by omega) h
        refine ⟨?_, h3.2⟩
        rw [← h3.1, hiN_step (m := 0 * 128 + (c % 128).toNat) (by omega)]
        have e1 : (0 * 128 + (c % 128).toNat) / 128 = 0 := by omega
        have e2 : (((0 * 128 + (c % 128).toNat) % 128 : Nat) : Int) + 128 = c := by omega
        rw [e1, e2, hiN_zero]; rfl

end Go.Proofs.YtcgiicmmfleinaaDoor

namespace Go.Proofs.YtcgiicmmfleinaaDoor
open Go.RowKit NumMath
set_option linter.unusedVariables false

theorem bitLen_at (n : Int) (b : Nat) (p : Int) (hp : p = 2 ^ b) (h1 : p ≤ n) : (bitLen n.toNat : Int) = b + bitLen (n / p).toNat := by
  have hp0 : 0 < p := by rw [hp]; exact Int.pow_pos (by decide)
  obtain ⟨N, rfl⟩ := Int.eq_ofNat_of_zero_le (show 0 ≤ n by omega)
  have e : p = ((2 ^ b : Nat) : Int) := by rw [hp]; simp
  subst e
  have e2 : ((N : Int) / ((2 ^ b : Nat) : Int)).toNat = N / 2 ^ b := by rw [← Int.natCast_ediv, Int.toNat_natCast]
  rw [e2, Int.toNat_natCast]
  have h : N / 2 ^ b ≠ 0 := by
    have : 2 ^ b ≤ N := by omega
    have := Nat.div_pos this (Nat.two_pow_pos b)
    omega
  rw [bitLen_shift N b h]
  omega

theorem wrap_small (a : Int) (h1 : 0 ≤ a) (h2 : a ≤ 1000000) : wrap64 a = a := by unfold wrap64; omega

theorem bitLen_small (n : Int) (h : n < 256) (h0 : 0 ≤ n) : (bitLen n.toNat : Int) ≤ 8 := by
  have := bitLen_le8 n.toNat (by omega)
  omega

/-- s bits, and those of what is left -/
theorem len_sum (n : Int) (s : Nat) (q : Int) (hs : s ≤ 64) (hq : 0 ≤ q) (hq2 : q < 256) (h : (bitLen n.toNat : Int) = s + bitLen q.toNat) : wrap64 (s + wrap64 (bitLen q.toNat : Int)) = bitLen n.toNat := by
  have := bitLen_small q hq2 hq
  rw [wrap_small (bitLen q.toNat : Int) (by omega) (by omega), wrap_small _ (by omega) (by omega), h]

end Go.Proofs.YtcgiicmmfleinaaDoor

namespace Go.Proofs.YtcgiicmmfleinaaDoor
open Go.RowKit NumMath
set_option linter.unusedVariables false

/-- how many groups stand ahead of the last -/
def grpK (n : Nat) : Nat := (bitLen n - 1) / 7

theorem grpK_le (n : Nat) (h : n < 18446744073709551616) : grpK n ≤ 9 := by
  unfold grpK
  have h1 : bitLen n ≤ 64 := by
    by_cases h0 : n = 0
    · subst h0; decide
    · have h2 := (bitLen_spec n).2 h0
      by_cases h3 : bitLen n ≤ 64
      · exact h3
      · have : 2 ^ 64 ≤ 2 ^ (bitLen n - 1) := Nat.pow_le_pow_right (by omega) (by omega)
        have e : (2 : Nat) ^ 64 = 18446744073709551616 := by decide
        omega
  omega

theorem pow128 (k : Nat) : 128 ^ k = 2 ^ (7 * k) := by rw [Nat.pow_mul]

theorem grpK_top (n : Nat) : n < 128 ^ (grpK n + 1) := by
  rw [pow128]
  refine Nat.lt_of_lt_of_le (bitLen_spec n).1 (Nat.pow_le_pow_right (by omega) ?_)
  unfold grpK
  omega

theorem grpK_low (n k : Nat) (hk : k ≤ grpK n) (h0 : 0 < k) : n / 128 ^ k ≠ 0 := by
  have hb : bitLen n ≠ 0 := by
    intro h
    unfold grpK at hk
    rw [h] at hk
    omega
  have hn : n ≠ 0 := by
    intro h
    subst h
    exact hb rfl
  have h1 := (bitLen_spec n).2 hn
  have h2 : 128 ^ k ≤ n := by
    rw [pow128]
    refine Nat.le_trans (Nat.pow_le_pow_right (by omega) ?_) h1
    unfold grpK at hk
    omega
  have := Nat.div_pos h2 (Nat.pow_pos (by omega))
  omega

theorem hiN_top (n : Nat) : hiN (n / 128 ^ (grpK n + 1)) = [] := by
  rw [Nat.div_eq_of_lt (grpK_top n), hiN_zero]

theorem hiN_next (n k : Nat) (hk : k ≤ grpK n) (h0 : 0 < k) : hiN (n / 128 ^ k) = hiN (n / 128 ^ (k + 1)) ++ [((n / 128 ^ k % 128 : Nat) : Int) + 128] := by
  rw [hiN_step (grpK_low n k hk h0), Nat.div_div_eq_div_mul, ← Nat.pow_succ]

theorem grow_alloc {w w' : World} {o : Obj} {r : Option Nat} (h : (w.alloc o).grownBy w' r) : w.grownBy w' r :=
  ⟨h.os, h.tape, h.output, Nat.le_trans (by simp) h.size, fun k hk hn => (h.block k (by simp; omega) hn).trans (Below.heap_alloc w o k hk)⟩

theorem or128 (x : Int) (h1 : 0 ≤ x) (h2 : x < 256) : bits .or .u8 x 128 = x % 128 + 128 := by
  have all : ∀ j : Fin 256, bits .or .u8 ((j.val : Nat) : Int) 128 = ((j.val : Nat) : Int) % 128 + 128 := by decide +kernel
  have := all ⟨x.toNat, by omega⟩
  have e : ((x.toNat : Nat) : Int) = x := by omega
  simpa [e] using this

theorem andNot128 (x : Int) (h1 : 0 ≤ x) (h2 : x < 256) : bits .andNot .u8 x 128 = x % 128 := by
  have all : ∀ j : Fin 256, bits .andNot .u8 ((j.val : Nat) : Int) 128 = ((j.val : Nat) : Int) % 128 := by decide +kernel
  have := all ⟨x.toNat, by omega⟩
  have e : ((x.toNat : Nat) : Int) = x := by omega
  simpa [e] using this

theorem grp_byte (n : Int) (k : Nat) (h : 0 ≤ n) : bits .or .u8 (n / 2 ^ (7 * k) % 256) 128 = ((n.toNat / 128 ^ k % 128 : Nat) : Int) + 128 := by
  rw [or128 _ (Int.emod_nonneg _ (by decide)) (Int.emod_lt_of_pos _ (by decide)), pow128]
  obtain ⟨N, rfl⟩ := Int.eq_ofNat_of_zero_le h
  rw [Int.toNat_natCast]
  have e : ((N : Int) / 2 ^ (7 * k)) = ((N / 2 ^ (7 * k) : Nat) : Int) := by rw [Int.natCast_ediv]; simp
  rw [e]
  omega

theorem last_byte (n : Int) (h : 0 ≤ n) : bits .andNot .u8 (n % 256) 128 = ((n.toNat % 128 : Nat) : Int) := by
  rw [andNot128 _ (by omega) (by omega)]
  omega

theorem grpK_start (n : Nat) (h : n < 18446744073709551616) : wrap64 ((wrap64 ((bitLen n : Int) - 1)).tdiv 7) = (grpK n : Int) := by
  have h9 := grpK_le n h
  unfold grpK at *
  have h1 : bitLen n ≤ 70 := by omega
  by_cases h0 : bitLen n = 0
  · rw [h0]; decide +kernel
  · have e : wrap64 ((bitLen n : Int) - 1) = ((bitLen n - 1 : Nat) : Int) := by unfold wrap64; omega
    rw [e]
    have e2 : ((bitLen n - 1 : Nat) : Int).tdiv 7 = (((bitLen n - 1) / 7 : Nat) : Int) := by rw [Int.tdiv_eq_ediv_of_nonneg (by omega)]; omega
    rw [e2]
    unfold wrap64; omega

theorem hi_few (n k : Nat) (h : n < 18446744073709551616) : (hiN (n / 128 ^ (k + 1))).length ≤ 9 := by
  refine hiN_length 9 _ ?_
  have e : (128 : Nat) ^ 9 = 9223372036854775808 := by decide
  rw [e]
  have h1 : n / 128 ^ (k + 1) ≤ n / 128 := Nat.div_le_div_left (by rw [Nat.pow_succ]; have := Nat.pow_pos (n := k) (show 0 < 128 by omega); omega) (by omega)
  omega

end Go.Proofs.YtcgiicmmfleinaaDoor

namespace Go.Proofs.YtcgiicmmfleinaaDoor
open Go.RowKit NumMath
set_option linter.unusedVariables false

/-- the number that the bytes begin with, and what is left -/
def numAt (xs : List Int) : Option (Nat × List Int) := scan true 0 xs

/-- as the program tells it -/
def fstN (xs : List Int) : Int := match numAt xs with | some (n, _) => n | none => 0
def fstS (xs : List Int) : Int := match numAt xs with | some (_, r) => (xs.length : Int) - r.length | none => 0

theorem dropAt (xs : List Int) (k : Nat) (h : k < xs.length) : xs.drop k = xs.getD k 0 :: xs.drop (k + 1) := by
  rw [List.drop_eq_getElem_cons h]
  simp [List.getD, List.getElem?_eq_getElem h]

theorem scan_more (c : Int) (m : Nat) (h1 : 0 ≤ c) (h2 : c < 256) (hm : m < 144115188075855872) : bits .or .u64 ((m : Int) * 128) (IntKind.u64.wrap (bits .andNot .u8 c 128)) = ((m * 128 + (c % 128).toNat : Nat) : Int) := by
  rw [andNot128 c h1 h2]
  have e : IntKind.u64.wrap (c % 128) = c % 128 := by simp [IntKind.wrap, IntKind.bits, IntKind.signed]; omega
  rw [e, u64_or _ _ (by omega) (by omega) (by omega) (by omega)]
  have e2 : ((m : Int) * 128).toNat = 2 ^ 7 * m := by omega
  rw [e2]
  have h3 : (c % 128).toNat < 2 ^ 7 := by omega
  rw [← Nat.two_pow_add_eq_or_of_lt h3 m]
  have e4 : 2 ^ 7 * m = m * 128 := by omega
  rw [e4]

theorem retUI {a b c d : Int} (h : a = b) (g : c = d) : Ending.returned (.tuple #[.int .u64 a, .int .i64 c]) = .returned (.tuple #[.int .u64 b, .int .i64 d]) := by rw [h, g]

end Go.Proofs.YtcgiicmmfleinaaDoor

namespace Go.Proofs.YtcgiicmmfleinaaDoor
open Go.RowKit NumMath
set_option linter.unusedVariables false

/-- the blocks of the Writer at p -/
def WB (w : World) (p k : Nat) : Prop := k = p ∨ ∃ v, w.cell? ⟨p, 0, none⟩ = some v ∧ v.ownBlock = some k

/-- the Writer at p holds the bytes bs -/
def IsW (w : World) (base p : Nat) (bs : List Int) : Prop :=
  ∃ a n c, w.cell? ⟨p, 0, none⟩ = some (.slice a n c) ∧ w.frozen? ⟨p, 0, none⟩ = false ∧ OwnB w base (.slice a n c) bs ∧ base ≤ p ∧ some p ≠ (Value.slice a n c).ownBlock

theorem IsW.lt {w : World} {base p : Nat} {bs : List Int} (h : IsW w base p bs) {k : Nat} (hk : WB w p k) : k < w.heap.size ∧ base ≤ k := by
  obtain ⟨a, n, c, hc, hf, ho, hp, hn⟩ := h
  rcases hk with rfl | ⟨v, hv, hb⟩
  · exact ⟨World.block_lt_of_cell? _ ⟨k, 0, none⟩ hc, hp⟩
  · rw [hc] at hv
    cases hv
    have := World.ownsRow.lt ho k hb
    exact ⟨this.2, this.1⟩

theorem IsW.at {w : World} {base p : Nat} {bs : List Int} (h : IsW w base p bs) : p < w.heap.size := (h.lt (k := p) (.inl rfl)).1

theorem IsW.keep {w w' : World} {base p : Nat} {bs : List Int} (h : IsW w base p bs) (hb : Below w.heap.size w w') : IsW w' base p bs := by
  have hp := h.at
  obtain ⟨a, n, c, hc, hf, ho, hp', hn⟩ := h
  exact ⟨a, n, c, (hb.cell (p := ⟨p, 0, none⟩) hp).trans hc, (hb.frozen (p := ⟨p, 0, none⟩) hp).trans hf, ho.keep hb, hp', hn⟩

theorem IsW.same {w w' : World} {base p : Nat} {bs : List Int} (h : IsW w base p bs) (hb : Below w.heap.size w w') {k : Nat} (hk : WB w' p k) : WB w p k := by
  have hp := h.at
  rcases hk with rfl | ⟨v, hv, hb'⟩
  · exact .inl rfl
  · rw [hb.cell (p := ⟨p, 0, none⟩) hp] at hv
    exact .inr ⟨v, hv, hb'⟩

theorem IsW.same' {w w' : World} {base p : Nat} {bs : List Int} (h : IsW w base p bs) (hb : Below w.heap.size w w') {k : Nat} (hk : WB w p k) : WB w' p k := by
  have hp := h.at
  rcases hk with rfl | ⟨v, hv, hb'⟩
  · exact .inl rfl
  · exact .inr ⟨v, (hb.cell (p := ⟨p, 0, none⟩) hp).trans hv, hb'⟩

/-- what a Writer's call leaves -/
def WPost (w : World) (base p : Nat) (bs : List Int) (w' : World) : Prop := IsW w' base p bs ∧ Keeps (WB w p) w w' ∧ ∀ k, WB w' p k → WB w p k ∨ w.heap.size ≤ k

theorem WPost.refl {w : World} {base p : Nat} {bs : List Int} (h : IsW w base p bs) : WPost w base p bs w := ⟨h, ⟨rfl, rfl, rfl, Nat.le_refl _, fun _ _ _ => rfl⟩, fun k hk => .inl hk⟩

theorem WPost.trans {w w1 w2 : World} {base p : Nat} {bs bs' : List Int} (h : WPost w base p bs w1) (k : WPost w1 base p bs' w2) : WPost w base p bs' w2 := by
  obtain ⟨h1, h2, h3⟩ := h
  obtain ⟨k1, k2, k3⟩ := k
  refine ⟨k1, ⟨k2.os.trans h2.os, k2.tape.trans h2.tape, k2.output.trans h2.output, Nat.le_trans h2.size k2.size, fun i hi hn => (k2.block i (Nat.lt_of_lt_of_le hi h2.size) ?_).trans (h2.block i hi hn)⟩, ?_⟩
  · intro hx
    rcases h3 i hx with h | h
    · exact hn h
    · omega
  · intro i hi
    rcases k3 i hi with h | h
    · exact h3 i h
    · exact .inr (Nat.le_trans h2.size h)

theorem WPost.ahead {w w1 w2 : World} {base p : Nat} {bs bs' : List Int} (h : IsW w base p bs) (hb : Below w.heap.size w w1) (k : WPost w1 base p bs' w2) : WPost w base p bs' w2 :=
  WPost.trans (bs := bs) ⟨h.keep hb, Below.keeps hb _, fun i hi => .inl (h.same hb hi)⟩ k

theorem WPost.behind {w w1 w2 : World} {base p : Nat} {bs : List Int} (h : WPost w base p bs w1) (hb : Below w1.heap.size w1 w2) : WPost w base p bs w2 :=
  WPost.trans h ⟨h.1.keep hb, Below.keeps hb _, fun i hi => .inl (h.1.same hb hi)⟩

theorem WPost.below {w w' : World} {base p : Nat} {bs bs' : List Int} (h : WPost w base p bs w') (h0 : IsW w base p bs') (hB : base ≤ w.heap.size) : Below base w w' :=
  h.2.1.below hB (fun k hk => (h0.lt hk).2)

/-- a block that was not the Writer's is as it was, and is not the Writer's -/
theorem WPost.cell {w w' : World} {base p : Nat} {bs : List Int} (h : WPost w base p bs w') {g i : Nat} (hg : g < w.heap.size) (hn : ¬ WB w p g) : w'.cell? ⟨g, i, none⟩ = w.cell? ⟨g, i, none⟩ := h.2.1.cell hg hn

theorem WPost.apart {w w' : World} {base p : Nat} {bs : List Int} (h : WPost w base p bs w') {g : Nat} (hg : g < w.heap.size) (hn : ¬ WB w p g) : ¬ WB w' p g := by
  intro hx
  rcases h.2.2 g hx with h | h
  · exact hn h
  · omega

/-- the new slice, stored into the Writer's field -/
theorem wpost_store {w w1 : World} {base p : Nat} {a a' : Option Addr} {n c n' c' : Nat} {bs bs' : List Int} (hc : w.cell? ⟨p, 0, none⟩ = some (.slice a n c)) (hf : w.frozen? ⟨p, 0, none⟩ = false) (ho : OwnB w base (.slice a n c) bs) (hp : base ≤ p) (hn : some p ≠ (Value.slice a n c).ownBlock)
    (h1 : OwnB w1 base (.slice a' n' c') bs') (hg : w.grownBy w1 (Value.slice a n c).ownBlock) (hat : AtB w (.slice a n c) (.slice a' n' c')) : WPost w base p bs' (w1.setCell ⟨p, 0, none⟩ (.slice a' n' c')) := by
  have hlt : p < w.heap.size := World.block_lt_of_cell? _ ⟨p, 0, none⟩ hc
  have hne : some p ≠ (Value.slice a' n' c').ownBlock := by
    intro e
    rcases hat with h | ⟨g, h, hle⟩
    · rw [h] at e; exact hn e
    · rw [h] at e; cases e; omega
  have hc1 : w1.cell? ⟨p, 0, none⟩ = some (.slice a n c) := hg.cell hc hn
  have hf1 : w1.frozen? ⟨p, 0, none⟩ = false := (World.frozen?_of_block (a := ⟨p, 0, none⟩) (hg.block p hlt hn)).trans hf
  have hcell : (w1.setCell ⟨p, 0, none⟩ (.slice a' n' c')).cell? ⟨p, 0, none⟩ = some (.slice a' n' c') := World.cell?_setCell_same _ _ _ hc1
  refine ⟨⟨a', n', c', hcell, ?_, ?_, hp, hne⟩, ?_, ?_⟩
  · simp [hf1]
  · refine h1.lies ?_
    intro g hg'
    exact Below.heap_setCell _ _ _ _ (by intro e; subst e; exact hne hg'.symm)
  · refine ⟨hg.os, hg.tape, hg.output, Nat.le_trans hg.size (by simp [World.setCell]), ?_⟩
    intro k hk hM
    have hkp : k ≠ p := fun e => hM (.inl e)
    rw [Below.heap_setCell _ _ _ _ hkp]
    exact hg.block k hk (fun e => hM (.inr ⟨_, hc, e.symm⟩))
  · rintro k (rfl | ⟨v, hv, hb⟩)
    · exact .inl (.inl rfl)
    · rw [hcell] at hv
      cases hv
      rcases hat with h | ⟨g, h, hle⟩
      · rw [h] at hb; exact .inl (.inr ⟨_, hc, hb⟩)
      · rw [h] at hb; cases hb; exact .inr hle

/-- the new world with a list of one number -/
theorem one_num (w : World) (n : Int) (g : Nat) (hg : w.heap.size = g) : (w.alloc (.cells #[.int .u64 n] 28)).cell? ⟨g, 0, none⟩ = some (.int .u64 n) := by
  subst hg
  simp

end Go.Proofs.YtcgiicmmfleinaaDoor

namespace Go.Proofs.YtcgiicmmfleinaaDoor
open Go.RowKit NumMath
set_option linter.unusedVariables false

/-! What is read, in plain lists: none: it has failed; some xs: xs are left. -/

def rdN (most : Int) : Option (List Int) → Int × Option (List Int)
  | none => (0, none)
  | some xs => match numAt xs with
    | none => (0, none)
    | some (n, r) => if (n : Int) ≤ most then ((n : Int), some r) else (0, none)

def rdI (st : Option (List Int)) : Int × Option (List Int) := (zagV (rdN 18446744073709551615 st).1, (rdN 18446744073709551615 st).2)

def rdT (most : Int) (st : Option (List Int)) : List Int × Option (List Int) :=
  if most < 0 then ([], none) else match (rdN most st).2 with
    | none => ([], none)
    | some xs => if (rdN most st).1 ≤ xs.length then (xs.take (rdN most st).1.toNat, some (xs.drop (rdN most st).1.toNat)) else ([], none)

def rdLeft (st : Option (List Int)) : Int := match st with | none => 0 | some xs => xs.length
def rdEnd (st : Option (List Int)) : Int := match st with | some [] => 0 | _ => 30

/-- numbers of bytes alone -/
def Byt (st : Option (List Int)) : Prop := ∀ xs, st = some xs → ∀ c ∈ xs, 0 ≤ c ∧ c < 256

/-- the bytes that are left lie in block q, in the field at p; good: what the flag says of a reader that has not failed -/
def IsR (good : Bool) (w : World) (p q : Nat) (st : Option (List Int)) : Prop :=
  w.frozen? ⟨p, 0, none⟩ = false ∧ w.frozen? ⟨p, 1, none⟩ = false ∧ q < w.heap.size ∧ ∃ a n c, w.cell? ⟨p, 0, none⟩ = some (.slice a n c) ∧ (n ≠ 0 → ∀ x, a = some x → x.block = q ∧ q ≠ p) ∧
    match st with
    | none => w.cell? ⟨p, 1, none⟩ = some (.bool (!good)) ∧ (a, n, c) = (none, 0, 0)
    | some xs => w.cell? ⟨p, 1, none⟩ = some (.bool good) ∧ IsBytes w a n c xs

theorem IsR.at {good : Bool} {w : World} {p q : Nat} {st : Option (List Int)} (h : IsR good w p q st) : p < w.heap.size := by
  obtain ⟨_, _, _, a, n, c, hc, _⟩ := h
  exact World.block_lt_of_cell? _ ⟨p, 0, none⟩ hc

theorem IsBytes.liesM {w w' : World} {a : Option Addr} {len cap : Nat} {xs : List Int} {M : Nat → Prop} (h : IsBytes w a len cap xs) (hk : Keeps M w w') (ho : OffB a M) : IsBytes w' a len cap xs := by
  obtain ⟨h1, h2, h3, h4, h5⟩ := h
  exact ⟨h1, h2, h3, h4, (SrcB.lies (w := w) ⟨h1, h5⟩ hk ho).2⟩

theorem IsBytes.liesO {w w' : World} {a : Option Addr} {len cap : Nat} {xs : List Int} {M : Nat → Prop} (h : IsBytes w a len cap xs) (hk : Keeps M w w') (ho : OffB a M ∨ len = 0) : IsBytes w' a len cap xs := by
  rcases ho with ho | h0
  · exact h.liesM hk ho
  · exact ⟨h.1, h.2.1, h.2.2.1, h.2.2.2.1, .inl h0⟩

theorem IsR.lies {good : Bool} {w w' : World} {p q : Nat} {st : Option (List Int)} {M : Nat → Prop} (h : IsR good w p q st) (hk : Keeps M w w') (hp : ¬ M p) (hq : ¬ M q) : IsR good w' p q st := by
  have hlt := h.at
  obtain ⟨f0, f1, hql, a, n, c, hc, ha, hs⟩ := h
  have e : w'.heap[p]? = w.heap[p]? := hk.block p hlt hp
  refine ⟨(World.frozen?_of_block (a := ⟨p, 0, none⟩) e).trans f0, (World.frozen?_of_block (a := ⟨p, 1, none⟩) e).trans f1, Nat.lt_of_lt_of_le hql hk.size, a, n, c, (hk.cell hlt hp).trans hc, ha, ?_⟩
  cases st with
  | none => exact ⟨(hk.cell hlt hp).trans hs.1, hs.2⟩
  | some xs => exact ⟨(hk.cell hlt hp).trans hs.1, hs.2.liesO hk (by by_cases h0 : n = 0; (exact .inr h0); exact .inl (fun x hx => by rw [(ha h0 x hx).1]; exact hq))⟩

theorem IsR.keep {good : Bool} {w w' : World} {p q : Nat} {st : Option (List Int)} (h : IsR good w p q st) (hb : Below w.heap.size w w') : IsR good w' p q st :=
  h.lies (Below.keeps hb (fun _ => False)) (fun h => h) (fun h => h)

/-- what a Reader's call leaves -/
def RPost (good : Bool) (w : World) (p q : Nat) (st : Option (List Int)) (w' : World) : Prop := IsR good w' p q st ∧ Keeps (fun k => k = p) w w'

theorem Keeps.refl (M : Nat → Prop) (w : World) : Keeps M w w := ⟨rfl, rfl, rfl, Nat.le_refl _, fun _ _ _ => rfl⟩

theorem Keeps.trans {M : Nat → Prop} {w w1 w2 : World} (h : Keeps M w w1) (k : Keeps M w1 w2) : Keeps M w w2 :=
  ⟨k.os.trans h.os, k.tape.trans h.tape, k.output.trans h.output, Nat.le_trans h.size k.size, fun i hi hn => (k.block i (Nat.lt_of_lt_of_le hi h.size) hn).trans (h.block i hi hn)⟩

theorem Keeps.set {p i : Nat} {w : World} (v : Value) : Keeps (fun k => k = p) w (w.setCell ⟨p, i, none⟩ v) :=
  ⟨rfl, rfl, rfl, by simp [World.setCell], fun k hk hn => Below.heap_setCell _ _ _ _ hn⟩

theorem RPost.refl {good : Bool} {w : World} {p q : Nat} {st : Option (List Int)} (h : IsR good w p q st) : RPost good w p q st w := ⟨h, Keeps.refl _ _⟩

theorem RPost.trans {good : Bool} {w w1 w2 : World} {p q : Nat} {st st' : Option (List Int)} (h : RPost good w p q st w1) (k : RPost good w1 p q st' w2) : RPost good w p q st' w2 := ⟨k.1, h.2.trans k.2⟩

theorem RPost.ahead {good : Bool} {w w1 w2 : World} {p q : Nat} {st : Option (List Int)} (hb : Below w.heap.size w w1) (k : RPost good w1 p q st w2) : RPost good w p q st w2 := ⟨k.1, (Below.keeps hb _).trans k.2⟩

theorem RPost.behind {good : Bool} {w w1 w2 : World} {p q : Nat} {st : Option (List Int)} (h : RPost good w p q st w1) (hb : Below w1.heap.size w1 w2) : RPost good w p q st w2 := ⟨h.1.keep hb, h.2.trans (Below.keeps hb _)⟩

/-- the field set anew: a later beginning of the same bytes -/
theorem rpost_set {good : Bool} {w : World} {p q : Nat} {st : Option (List Int)} {a' : Option Addr} {n' c' : Nat} {xs : List Int} (h : IsR good w p q st) (hf : w.cell? ⟨p, 1, none⟩ = some (.bool good)) (ha : n' ≠ 0 → ∀ x, a' = some x → x.block = q ∧ q ≠ p) (hB : IsBytes w a' n' c' xs) :
    RPost good w p q (some xs) (w.setCell ⟨p, 0, none⟩ (.slice a' n' c')) := by
  obtain ⟨f0, f1, hql, b, m, d, hc, _, _⟩ := h
  refine ⟨⟨by simpa using f0, by simpa using f1, Nat.lt_of_lt_of_le hql (Keeps.set (p := p) (i := 0) (.slice a' n' c')).size, a', n', c', World.cell?_setCell_same _ _ _ hc, ha, ?_, ?_⟩, Keeps.set _⟩
  · exact (World.cell?_setCell_other _ _ _ _ (by intro e; cases e)).trans hf
  · exact hB.liesO (Keeps.set (p := p) (i := 0) (.slice a' n' c')) (by by_cases h0 : n' = 0; (exact .inr h0); exact .inl (fun x hx => by rw [(ha h0 x hx).1]; exact (ha h0 x hx).2))

/-- the whole set to noughts -/
theorem rpost_fail {good : Bool} {w : World} {p q : Nat} {st : Option (List Int)} (h : IsR good w p q st) :
    RPost good w p q none ((w.setCell ⟨p, 0, none⟩ (.slice none 0 0)).setCell ⟨p, 1, none⟩ (.bool (!good))) := by
  obtain ⟨f0, f1, hql, b, m, d, hc, _, hs⟩ := h
  have hf : ∃ u, w.cell? ⟨p, 1, none⟩ = some u := by
    cases st with
    | none => exact ⟨_, hs.1⟩
    | some xs => exact ⟨_, hs.1⟩
  obtain ⟨u, hu⟩ := hf
  refine ⟨⟨by simpa using f0, by simpa using f1, Nat.lt_of_lt_of_le hql ((Keeps.set (p := p) (i := 0) (.slice none 0 0)).trans (Keeps.set (p := p) (i := 1) (.bool (!good)))).size, none, 0, 0, ?_, by (intro _ x hx; cases hx), ?_, rfl⟩, (Keeps.set _).trans (Keeps.set _)⟩
  · rw [World.cell?_setCell_other _ _ _ _ (by intro e; cases e)]
    exact World.cell?_setCell_same _ _ _ hc
  · exact World.cell?_setCell_same _ _ _ ((World.cell?_setCell_other _ _ _ _ (by intro e; cases e)).trans hu)

theorem IsR.flag {good : Bool} {w : World} {p q : Nat} {st : Option (List Int)} (h : IsR good w p q st) : w.cell? ⟨p, 1, none⟩ = some (.bool (if st.isSome then good else !good)) := by
  obtain ⟨f0, f1, -, b, m, d, hc, _, hs⟩ := h
  cases st with
  | none => exact hs.1
  | some xs => exact hs.1

theorem IsR.qlt {good : Bool} {w : World} {p q : Nat} {st : Option (List Int)} (h : IsR good w p q st) : q < w.heap.size := h.2.2.1

theorem Keeps.setNew {M : Nat → Prop} {w w1 : World} (h : Keeps M w w1) {g i : Nat} (hg : w.heap.size ≤ g) (v : Value) : Keeps M w (w1.setCell ⟨g, i, none⟩ v) :=
  ⟨h.os, h.tape, h.output, Nat.le_trans h.size (by simp [World.setCell]), fun k hk hn => (Below.heap_setCell _ _ _ _ (by show k ≠ g; omega)).trans (h.block k hk hn)⟩

theorem RPost.setNew {good : Bool} {w w1 : World} {p q : Nat} {st st0 : Option (List Int)} (h0 : IsR good w p q st0) (h : RPost good w p q st w1) {g i : Nat} (hg : w.heap.size ≤ g) (v : Value) : RPost good w p q st (w1.setCell ⟨g, i, none⟩ v) :=
  ⟨h.1.lies (Keeps.set (p := g) (i := i) v) (by have := h0.at; omega) (by have := h0.qlt; omega), h.2.setNew hg v⟩

end Go.Proofs.YtcgiicmmfleinaaDoor

namespace Go.Proofs.YtcgiicmmfleinaaDoor
open Go.RowKit NumMath
set_option linter.unusedVariables false

theorem num_split {xs : List Int} {n : Nat} {r : List Int} (hr : ∀ c ∈ xs, 0 ≤ c ∧ c < 256) (h : numAt xs = some (n, r)) : ∃ s : Nat, 1 ≤ s ∧ s ≤ xs.length ∧ r = xs.drop s ∧ fstS xs = (s : Int) ∧ fstN xs = (n : Int) ∧ n < 18446744073709551616 := by
  obtain ⟨e, hn⟩ := scan_inv hr h
  refine ⟨(numN n).length, ?_, ?_, ?_, ?_, ?_, hn⟩
  · unfold numN; rw [List.length_append]; simp only [List.length_singleton]; omega
  · rw [e, List.length_append]; omega
  · rw [e, List.drop_left]
  · unfold fstS; rw [h]; dsimp only; rw [e, List.length_append]; omega
  · unfold fstN; rw [h]

theorem IsBytes.drop {w : World} {g off len cap : Nat} {xs : List Int} (h : IsBytes w (some ⟨g, off, none⟩) len cap xs) (s : Nat) (hs : s ≤ len) : IsBytes w (some ⟨g, off + s, none⟩) (len - s) (cap - s) (xs.drop s) := by
  obtain ⟨h1, h2, h3, h4, h5⟩ := h
  refine ⟨by rw [List.length_drop, h1], by omega, by omega, fun c hc => h4 c (List.mem_of_mem_drop hc), ?_⟩
  rcases h5 with h5 | ⟨g', off', e, hg, hB⟩
  · exact .inl (by omega)
  · cases e
    refine .inr ⟨g, off + s, rfl, hg, ?_⟩
    intro i hi
    rw [List.length_drop] at hi
    have := hB (s + i) (by omega)
    rw [Nat.add_assoc, this]
    simp [List.getD]

theorem IsBytes.drop0 {w : World} {g off len cap : Nat} {xs : List Int} (h : IsBytes w (some ⟨g, off, none⟩) len cap xs) (hs : cap ≤ len) : IsBytes w (some ⟨g, off, none⟩) (len - cap) 0 (xs.drop cap) := by
  obtain ⟨h1, h2, h3, h4, h5⟩ := h
  exact ⟨by rw [List.length_drop, h1], by omega, by unfold maxLen; omega, fun c hc => h4 c (List.mem_of_mem_drop hc), .inl (by omega)⟩

theorem SrcB.take {w : World} {g off len cap : Nat} {xs : List Int} (h : IsBytes w (some ⟨g, off, none⟩) len cap xs) (s : Nat) (hs : s ≤ len) : SrcB w (some ⟨g, off, none⟩) s (xs.take s) := by
  obtain ⟨h1, h2, h3, h4, h5⟩ := h
  refine ⟨by rw [List.length_take, h1]; omega, ?_⟩
  rcases h5 with h5 | ⟨g', off', e, hg, hB⟩
  · exact .inl (by omega)
  · cases e
    refine .inr ⟨g, off, rfl, hg, ?_⟩
    intro i hi
    rw [List.length_take] at hi
    rw [hB i (by omega)]
    have hi' : i < s := by omega
    simp [List.getD, hi']

theorem rdN_range (most : Int) (st : Option (List Int)) (hb : Byt st) (h1 : 0 ≤ most) : 0 ≤ (rdN most st).1 ∧ (rdN most st).1 ≤ most ∧ Byt (rdN most st).2 := by
  cases st with
  | none => exact ⟨Int.le_refl _, h1, by intro xs h; cases h⟩
  | some xs =>
    unfold rdN
    dsimp only
    cases hn : numAt xs with
    | none => exact ⟨Int.le_refl _, h1, by intro xs h; cases h⟩
    | some nr =>
      obtain ⟨n, r⟩ := nr
      dsimp only
      by_cases hm : (n : Int) ≤ most
      · rw [if_pos hm]
        refine ⟨by dsimp only; omega, hm, ?_⟩
        intro ys hy c hc
        cases hy
        obtain ⟨s, _, _, hr, _⟩ := num_split (hb xs rfl) hn
        rw [hr] at hc
        exact hb xs rfl c (List.mem_of_mem_drop hc)
      · rw [if_neg hm]
        exact ⟨Int.le_refl _, h1, by intro xs h; cases h⟩

theorem IsR.byt {good : Bool} {w : World} {p q : Nat} {st : Option (List Int)} (h : IsR good w p q st) : Byt st := by
  obtain ⟨f0, f1, -, b, m, d, hc, _, hs⟩ := h
  intro xs hx
  subst hx
  exact hs.2.2.2.2.1

end Go.Proofs.YtcgiicmmfleinaaDoor

namespace Go.Proofs.YtcgiicmmfleinaaDoor
open Go.RowKit NumMath
set_option linter.unusedVariables false

theorem isR_new (good : Bool) (t : TypeId) (w : World) (a : Option Addr) (n c : Nat) (xs : List Int) (g q : Nat) (hg : w.heap.size = g) (hB : IsBytes w a n c xs) (hq : n ≠ 0 → ∀ x, a = some x → x.block = q ∧ q < w.heap.size) (hq2 : q ≤ g) :
    IsR good (w.alloc (.cells #[.slice a n c, .bool good] t)) g q (some xs) := by
  subst hg
  exact ⟨by simp, by simp, by simp; omega, a, n, c, by simp, fun h0 x hx => ⟨(hq h0 x hx).1, by have := (hq h0 x hx).2; omega⟩, by simp, hB.keep (new_below _ _)⟩

/-- a slice of the call's own, whose block is told -/
theorem OwnB.block {w : World} {base : Nat} {v : Value} {bs : List Int} (h : OwnB w base v bs) (hr : ∀ c ∈ bs, 0 ≤ c ∧ c < 256) (d : Nat) : ∃ a n cap q, v = .slice a n cap ∧ IsBytes w a n cap bs ∧ (∀ x, a = some x → x.block = q ∧ q < w.heap.size ∧ base ≤ q) ∧ (a = none → q = d) := by
  rcases h.form with ⟨rfl, rfl⟩ | ⟨g, cap, rfl, hg1, hg2, hc, hm, hB⟩
  · exact ⟨none, 0, 0, d, rfl, ⟨rfl, Nat.le_refl _, by unfold maxLen; omega, hr, .inl rfl⟩, by (intro x hx; cases hx), fun _ => rfl⟩
  · exact ⟨_, _, cap, g, rfl, ⟨rfl, hc, hm, hr, .inr ⟨g, 0, rfl, hg2, fun i hi => by rw [Nat.zero_add]; exact hB i hi⟩⟩, by (intro x hx; cases hx; exact ⟨rfl, hg2, hg1⟩), by (intro e; cases e)⟩

theorem OwnB.set {w : World} {base : Nat} {v : Value} {bs : List Int} (h : OwnB w base v bs) {p i : Nat} (hp : p < base) (u : Value) : OwnB (w.setCell ⟨p, i, none⟩ u) base v bs :=
  h.lies (fun g hg => Below.heap_setCell _ _ _ _ (by have := (World.ownsRow.lt h g hg).1; show g ≠ p; omega))

theorem rdT_neg (most : Int) (st : Option (List Int)) (h : most < 0) : rdT most st = ([], none) := by unfold rdT; rw [if_pos h]
theorem rdT_none (most : Int) (st : Option (List Int)) (h : ¬ most < 0) (h2 : (rdN most st).2 = none) : rdT most st = ([], none) := by unfold rdT; rw [if_neg h, h2]
theorem rdT_some (most : Int) (st : Option (List Int)) (h : ¬ most < 0) (xs : List Int) (h2 : (rdN most st).2 = some xs) (h3 : (rdN most st).1 ≤ xs.length) : rdT most st = (xs.take (rdN most st).1.toNat, some (xs.drop (rdN most st).1.toNat)) := by unfold rdT; rw [if_neg h, h2]; dsimp only; rw [if_pos h3]
theorem rdT_long (most : Int) (st : Option (List Int)) (h : ¬ most < 0) (xs : List Int) (h2 : (rdN most st).2 = some xs) (h3 : ¬ (rdN most st).1 ≤ xs.length) : rdT most st = ([], none) := by unfold rdT; rw [if_neg h, h2]; dsimp only; rw [if_neg h3]

theorem rdN_fails (most : Int) (st : Option (List Int)) (h : (rdN most st).2 = none) : (rdN most st).1 = 0 := by
  cases st with
  | none => rfl
  | some xs =>
    unfold rdN at h ⊢
    dsimp only at h ⊢
    cases hn : numAt xs with
    | none => rfl
    | some nr =>
      obtain ⟨n, r⟩ := nr
      rw [hn] at h
      dsimp only at h ⊢
      by_cases hm : (n : Int) ≤ most
      · rw [if_pos hm] at h; cases h
      · rw [if_neg hm]

theorem rdN_shorter (most : Int) (st : Option (List Int)) (hb : Byt st) (ys : List Int) (h : (rdN most st).2 = some ys) : (ys.length : Int) < rdLeft st := by
  cases st with
  | none => cases h
  | some xs =>
    unfold rdN at h
    dsimp only at h
    cases hn : numAt xs with
    | none => rw [hn] at h; cases h
    | some nr =>
      obtain ⟨n, r⟩ := nr
      rw [hn] at h
      dsimp only at h
      by_cases hm : (n : Int) ≤ most
      · rw [if_pos hm] at h
        cases h
        obtain ⟨s, h1, h2, hr, _⟩ := num_split (hb xs rfl) hn
        show ((List.length _ : Nat) : Int) < xs.length
        rw [hr, List.length_drop]
        omega
      · rw [if_neg hm] at h; cases h

end Go.Proofs.YtcgiicmmfleinaaDoor

namespace Go.Proofs.YtcgiicmmfleinaaDoor
open Go.RowKit NumMath
set_option linter.unusedVariables false

theorem pow128_9 : (128 : Nat) ^ 9 = 9223372036854775808 := by decide

/-- a number that was begun with k groups is not small -/
theorem grown_step (k m : Nat) (c : Int) (h1 : 0 ≤ c) (hk : k = 0 ∨ 128 ^ (k - 1) ≤ m) (h0 : k = 0 → ¬ c = 128) (hc : ¬ c < 128) (h2 : c < 256) : 128 ^ k ≤ m * 128 + (c % 128).toNat := by
  rcases hk with h | h
  · subst h
    have := h0 rfl
    rw [Nat.pow_zero]
    omega
  · by_cases hk0 : k = 0
    · subst hk0
      have := h0 rfl
      rw [Nat.pow_zero]
      omega
    · have e : 128 ^ k = 128 ^ (k - 1) * 128 := by rw [← Nat.pow_succ]; congr 1; omega
      rw [e]
      omega

theorem rdN_fst (most : Int) (xs : List Int) (h : numAt xs = none) : rdN most (some xs) = (0, none) := by unfold rdN; dsimp only; rw [h]
theorem rdN_big (most : Int) (xs : List Int) (n : Nat) (r : List Int) (h : numAt xs = some (n, r)) (hm : ¬ (n : Int) ≤ most) : rdN most (some xs) = (0, none) := by unfold rdN; dsimp only; rw [h]; dsimp only; rw [if_neg hm]
theorem rdN_fit (most : Int) (xs : List Int) (n : Nat) (r : List Int) (h : numAt xs = some (n, r)) (hm : (n : Int) ≤ most) : rdN most (some xs) = ((n : Int), some r) := by unfold rdN; dsimp only; rw [h]; dsimp only; rw [if_pos hm]

theorem scan_mul (c : Int) (m : Nat) (h1 : 0 ≤ c) (h2 : c < 256) (hm : m < 144115188075855872) : (m : Int) * 128 + c % 128 = ((m * 128 + (c % 128).toNat : Nat) : Int) := by omega

end Go.Proofs.YtcgiicmmfleinaaDoor

namespace Go.Proofs.YtcgiicmmfleinaaDoor
open Go.RowKit NumMath
set_option linter.unusedVariables false

theorem SrcB.conv {w : World} {a : Option Addr} {len cap : Nat} {xs : List Int} (h : SrcB w a len xs) : (convert 30 9 (.slice a len cap)).run Tryd.prog w = .ok (.string (strB xs)) w := by
  obtain ⟨h1, h5⟩ := h
  rcases h5 with h5 | ⟨g, off, rfl, hg, hB⟩
  · subst h5
    have : xs = [] := List.length_eq_zero_iff.1 h1
    subst this
    exact conv_none w a cap
  · exact run_convert_bytes_arg w 30 5 Tryd.underlying30 Tryd.underlying5 g off len cap xs h1 (fun i hi => hB i (by omega)) 9 Tryd.underlying9

theorem zag_odd (n : Int) (h : n % 2 = 1) : zagV n = -(n / 2) - 1 := by unfold zagV; rw [if_neg (by omega)]; omega
theorem zag_even (n : Int) (h : ¬ n % 2 = 1) : zagV n = n / 2 := by unfold zagV; rw [if_pos (by omega)]

/-- a text that the reference told: bytes of the block q -/
def TextPost (w : World) (p q : Nat) (r : List Int × Option (List Int)) (e : Ending) (w' : World) : Prop :=
  ∃ a n c, e = .returned (.slice a n c) ∧ SrcB w' a n r.1 ∧ (n ≠ 0 → ∀ x, a = some x → x.block = q ∧ q ≠ p) ∧ RPost false w p q r.2 w' ∧ n ≤ c ∧ c ≤ maxLen

end Go.Proofs.YtcgiicmmfleinaaDoor

namespace Go.Proofs.YtcgiicmmfleinaaDoor
open Go.RowKit NumMath
set_option linter.unusedVariables false

theorem own_one (w : World) (B : Nat) (c : Int) (hB : B ≤ w.heap.size) : OwnB (w.alloc (.cells #[.int .u8 c] 5)) B (.slice (some ⟨w.heap.size, 0, none⟩) 1 1) [c] :=
  ⟨by simp, .inr ⟨w.heap.size, 1, #[.int .u8 c], rfl, hB, heap_alloc_new w _, Nat.le_refl _, by unfold maxLen; omega, rfl, rfl⟩⟩

end Go.Proofs.YtcgiicmmfleinaaDoor
