/- What layer 3 (row) writes and reads, in plain lists of numbers: numbers in groups of seven bits, texts, values, rows; no program is in sight. math/bits.Len64: how many bits a number has. row.appendNumber: a number behind what was gathered. row.firstNumber: the number that bytes begin with, or none. A Writer in memory: what its N, I, Text, Bytes do to it, and that they touch nothing else. A Reader in memory: the program's and the reference's; what they read, and that they touch nothing else. The Reader's N, I, Text, Value, Left, End; Read. row.Read; the Reader's Text and Value. The reference's Reader: N, I, Text, End. The reference's Reader: I, Text, Val, End. The reference's N, Text and Val: the same bytes, in memory of their own. -/
import Derived.Test.YtcgiicmmfleinaaGreatDoorBtA
import Derived.Laws.MathBits
import Derived.Test.YtcgiicmmfleinaaGreatDoorNmA
import Derived.Lib.ConvBytes
import Derived.Deep.RegionHeld
import Derived.Deep.RegionHeld3
namespace Go.Proofs.YtcgiicmmfleinaaGreatDoor
open Go.RowKit NumMath
set_option linter.unusedVariables false

/-- the groups ahead of the last one, 128 added to each -/
def hiN (m : Nat) : List Int := if h : m = 0 then [] else hiN (m / 128) ++ [((m % 128 : Nat) : Int) + 128]
  termination_by m
  decreasing_by exact Nat.div_lt_self (by omega) (by omega)

/-- a number's bytes -/
def numN (n : Nat) : List Int := hiN (n / 128) ++ [((n % 128 : Nat) : Int)]
def numL (n : Int) : List Int := numN n.toNat

theorem hiN_zero : hiN 0 = [] := by rw [hiN]; rfl
theorem hiN_step {m : Nat} (h : m ≠ 0) : hiN m = hiN (m / 128) ++ [((m % 128 : Nat) : Int) + 128] := by rw [hiN]; rw [dif_neg h]

theorem hiN_range : ∀ (m : Nat), ∀ c ∈ hiN m, 0 ≤ c ∧ c < 256 := by
  intro m
  induction m using Nat.strongRecOn with
  | _ m ih =>
    intro c hc
    by_cases h : m = 0
    · subst h; rw [hiN_zero] at hc; cases hc
    · rw [hiN_step h, List.mem_append, List.mem_singleton] at hc
      rcases hc with hc | hc
      · exact ih _ (Nat.div_lt_self (by omega) (by omega)) c hc
      · have := Nat.mod_lt m (show 128 > 0 by omega)
        omega

theorem numN_range (n : Nat) : ∀ c ∈ numN n, 0 ≤ c ∧ c < 256 := by
  intro c hc
  unfold numN at hc
  rw [List.mem_append, List.mem_singleton] at hc
  rcases hc with hc | hc
  · exact hiN_range _ c hc
  · have := Nat.mod_lt n (show 128 > 0 by omega)
    omega

theorem numL_range (n : Int) : ∀ c ∈ numL n, 0 ≤ c ∧ c < 256 := numN_range _

/-- how many groups: at most k, if the number is below 128^k -/
theorem hiN_length : ∀ (k m : Nat), m < 128 ^ k → (hiN m).length ≤ k := by
  intro k
  induction k with
  | zero => intro m h; have : m = 0 := by simpa using h
            subst this; rw [hiN_zero]; exact Nat.le_refl _
  | succ k ih =>
    intro m h
    by_cases h0 : m = 0
    · subst h0; rw [hiN_zero]; exact Nat.zero_le _
    · rw [hiN_step h0, List.length_append]
      have : m / 128 < 128 ^ k := by
        rw [Nat.div_lt_iff_lt_mul (by omega)]
        rw [Nat.pow_succ] at h
        exact h
      have := ih _ this
      simp only [List.length_singleton]
      omega

theorem numL_length (n : Int) (h1 : 0 ≤ n) (h2 : n ≤ 18446744073709551615) : (numL n).length ≤ 10 := by
  unfold numL numN
  rw [List.length_append]
  have hn : n.toNat / 128 < 128 ^ 9 := by
    have : n.toNat ≤ 18446744073709551615 := by omega
    have e : (128 : Nat) ^ 9 = 9223372036854775808 := by decide
    rw [e]; omega
  have := hiN_length 9 _ hn
  simp only [List.length_singleton]
  omega

/-- a number, read: the one that was begun, whether none was, the bytes -/
def scan : Bool → Nat → List Int → Option (Nat × List Int)
  | _, _, [] => none
  | f, n, c :: r => if (f = true ∧ c = 128) ∨ 144115188075855872 ≤ n then none else if c < 128 then some (n * 128 + (c % 128).toNat, r) else scan false (n * 128 + (c % 128).toNat) r

theorem scan_nil (f : Bool) (n : Nat) : scan f n [] = none := by cases f <;> rfl

theorem scan_hi : ∀ (m : Nat) (t : List Int), m < 18446744073709551616 → scan true 0 (hiN m ++ t) = if m = 0 then scan true 0 t else scan false m t := by
  intro m
  induction m using Nat.strongRecOn with
  | _ m ih =>
    intro t hm
    by_cases h : m = 0
    · subst h; rw [hiN_zero, if_pos rfl]; rfl
    · rw [if_neg h, hiN_step h, List.append_assoc, List.singleton_append, ih _ (Nat.div_lt_self (by omega) (by omega)) _ (by omega)]
      have hr := Nat.mod_lt m (show 128 > 0 by omega)
      have e : ((((m % 128 : Nat) : Int) + 128) % 128).toNat = m % 128 := by omega
      by_cases h1 : m / 128 = 0
      · rw [if_pos h1]
        rw [scan, if_neg, if_neg (by omega), e]
        · have : 0 * 128 + m % 128 = m := by omega
          rw [this]
        · rintro (⟨_, h2⟩ | h2)
          · omega
          · omega
      · rw [if_neg h1, scan, if_neg, if_neg (by omega), e]
        · have : m / 128 * 128 + m % 128 = m := by omega
          rw [this]
        · rintro (⟨h2, _⟩ | h2)
          · cases h2
          · omega

theorem scan_num (n : Nat) (t : List Int) (hn : n < 18446744073709551616) : scan true 0 (numN n ++ t) = some (n, t) := by
  unfold numN
  rw [List.append_assoc, List.singleton_append, scan_hi _ _ (by omega)]
  have hr := Nat.mod_lt n (show 128 > 0 by omega)
  have e : (((n % 128 : Nat) : Int) % 128).toNat = n % 128 := by omega
  by_cases h1 : n / 128 = 0
  · rw [if_pos h1, scan, if_neg, if_pos (by omega), e]
    · have : 0 * 128 + n % 128 = n := by omega
      rw [this]
    · rintro (⟨_, h2⟩ | h2)
      · omega
      · omega
  · rw [if_neg h1, scan, if_neg, if_pos (by omega), e]
    · have : n / 128 * 128 + n % 128 = n := by omega
      rw [this]
    · rintro (⟨h2, _⟩ | h2)
      · cases h2
      · omega

theorem scan_back : ∀ (t : List Int) (m n : Nat) (r : List Int), (∀ c ∈ t, 0 ≤ c ∧ c < 256) → m ≠ 0 → scan false m t = some (n, r) → hiN m ++ t = numN n ++ r ∧ n < 18446744073709551616 := by
  intro t
  induction t with
  | nil => intro m n r _ _ h; rw [scan_nil] at h; cases h
  | cons c t ih =>
    intro m n r hc hm h
    have hc0 := hc c List.mem_cons_self
    rw [scan] at h
    split at h
    · cases h
    · rename_i hn
      have hlt : m < 144115188075855872 := by
        have : ¬ (144115188075855872 ≤ m) := fun x => hn (.inr x)
        omega
      split at h
      · cases h
        rename_i hlt2
        have e : (c % 128).toNat = c.toNat := by omega
        refine ⟨?_, by omega⟩
        unfold numN
        have e1 : (m * 128 + (c % 128).toNat) / 128 = m := by omega
        have e2 : (m * 128 + (c % 128).toNat) % 128 = c.toNat := by omega
        rw [e1, e2, List.append_assoc, List.singleton_append]
        have : ((c.toNat : Nat) : Int) = c := by omega
        rw [this]
      · rename_i hge
        have h3 := ih _ _ _ (fun x hx => hc x (List.mem_cons_of_mem _ hx)) (by omega) h
        refine ⟨?_, h3.2⟩
        rw [← h3.1, hiN_step (m := m * 128 + (c % 128).toNat) (by omega)]
        have e1 : (m * 128 + (c % 128).toNat) / 128 = m := by omega
        have e2 : (((m * 128 + (c % 128).toNat) % 128 : Nat) : Int) + 128 = c := by omega
        rw [e1, e2, List.append_assoc, List.singleton_append]

theorem scan_inv {xs : List Int} {n : Nat} {r : List Int} (hx : ∀ c ∈ xs, 0 ≤ c ∧ c < 256) (h : scan true 0 xs = some (n, r)) : xs = numN n ++ r ∧ n < 18446744073709551616 := by
  cases xs with
  | nil => cases h
  | cons c t =>
    have hc := hx c List.mem_cons_self
    rw [scan] at h
    split at h
    · cases h
    · rename_i hn
      have hne : c ≠ 128 := fun x => hn (.inl ⟨rfl, x⟩)
      split at h
      · cases h
        refine ⟨?_, by omega⟩
        unfold numN
        have e1 : (0 * 128 + (c % 128).toNat) / 128 = 0 := by omega
        have e2 : (((0 * 128 + (c % 128).toNat) % 128 : Nat) : Int) = c := by omega
        rw [e1, e2, hiN_zero]; rfl
      · have h3 := scan_back t _ _ _ (fun x hx' => hx x (List.mem_cons_of_mem _ hx')) (by omega) h
        refine ⟨?_, h3.2⟩
        rw [← h3.1, hiN_step (m := 0 * 128 + (c % 128).toNat) (by omega)]
        have e1 : (0 * 128 + (c % 128).toNat) / 128 = 0 := by omega
        have e2 : (((0 * 128 + (c % 128).toNat) % 128 : Nat) : Int) + 128 = c := by omega
        rw [e1, e2, hiN_zero]; rfl

end Go.Proofs.YtcgiicmmfleinaaGreatDoor

namespace Go.Proofs.YtcgiicmmfleinaaGreatDoor
open Go.RowKit NumMath
set_option linter.unusedVariables false

theorem bitLen_at (n : Int) (b : Nat) (p : Int) (hp : p = 2 ^ b) (h1 : p ≤ n) : (bitLen n.toNat : Int) = b + bitLen (n / p).toNat := by
  have hp0 : 0 < p := by rw [hp]; exact Int.pow_pos (by decide)
  obtain ⟨N, rfl⟩ := Int.eq_ofNat_of_zero_le (show 0 ≤ n by omega)
  have e : p = ((2 ^ b : Nat) : Int) := by rw [hp]; simp
  subst e
  have e2 : ((N : Int) / ((2 ^ b : Nat) : Int)).toNat = N / 2 ^ b := by rw [← Int.natCast_ediv, Int.toNat_natCast]
  rw [e2, Int.toNat_natCast]
  have h : N / 2 ^ b ≠ 0 := by
    have : 2 ^ b ≤ N := by omega
    have := Nat.div_pos this (Nat.two_pow_pos b)
    omega
  rw [bitLen_shift N b h]
  omega

theorem wrap_small (a : Int) (h1 : 0 ≤ a) (h2 : a ≤ 1000000) : wrap64 a = a := by unfold wrap64; omega

theorem bitLen_small (n : Int) (h : n < 256) (h0 : 0 ≤ n) : (bitLen n.toNat : Int) ≤ 8 := by
  have := bitLen_le8 n.toNat (by omega)
  omega

/-- s bits, and those of what is left -/
theorem len_sum (n : Int) (s : Nat) (q : Int) (hs : s ≤ 64) (hq : 0 ≤ q) (hq2 : q < 256) (h : (bitLen n.toNat : Int) = s + bitLen q.toNat) : wrap64 (s + wrap64 (bitLen q.toNat : Int)) = bitLen n.toNat := by
  have := bitLen_small q hq2 hq
  rw [wrap_small (bitLen q.toNat : Int) (by omega) (by omega), wrap_small _ (by omega) (by omega), h]

set_option maxRecDepth 100000 in
set_option maxHeartbeats 1000000 in
theorem len64_any (n : Int) (w : World) (h1 : 0 ≤ n) (h2 : n ≤ 18446744073709551615) :
    Calls Tryz.prog 134 #[.int .u64 n] w fun e w' => e = .returned (.int .i64 (bitLen n.toNat)) ∧ w' = w := by
  by_cases c1 : 4294967296 ≤ n
  · have HA : Hid ((bitLen n.toNat : Int) = 32 + bitLen (n / 4294967296).toNat) := bitLen_at n 32 4294967296 (by decide) c1
    by_cases c2 : 65536 ≤ n / 4294967296
    · have HB : Hid ((bitLen (n / 4294967296).toNat : Int) = 16 + bitLen (n / 4294967296 / 65536).toNat) := bitLen_at _ 16 65536 (by decide) c2
      by_cases c3 : 256 ≤ n / 4294967296 / 65536
      · have HC : Hid ((bitLen (n / 4294967296 / 65536).toNat : Int) = 8 + bitLen (n / 4294967296 / 65536 / 256).toNat) := bitLen_at _ 8 256 (by decide) c3
        go_enter Tryz.func134, Tryz.ntmps134
        go_wp2
        go_ret
        refine ⟨?_, rfl⟩
        rw [len8tab_get]
        exact ret1 (len_sum n 56 _ (by omega) (by omega) (by omega) (by have := HA.out; have := HB.out; have := HC.out; omega))
      · go_enter Tryz.func134, Tryz.ntmps134
        go_wp2
        go_ret
        refine ⟨?_, rfl⟩
        rw [len8tab_get]
        exact ret1 (len_sum n 48 _ (by omega) (by omega) (by omega) (by have := HA.out; have := HB.out; omega))
    · by_cases c3 : 256 ≤ n / 4294967296
      · have HC : Hid ((bitLen (n / 4294967296).toNat : Int) = 8 + bitLen (n / 4294967296 / 256).toNat) := bitLen_at _ 8 256 (by decide) c3
        go_enter Tryz.func134, Tryz.ntmps134
        go_wp2
        go_ret
        refine ⟨?_, rfl⟩
        rw [len8tab_get]
        exact ret1 (len_sum n 40 _ (by omega) (by omega) (by omega) (by have := HA.out; have := HC.out; omega))
      · go_enter Tryz.func134, Tryz.ntmps134
        go_wp2
        go_ret
        refine ⟨?_, rfl⟩
        rw [len8tab_get]
        exact ret1 (len_sum n 32 _ (by omega) (by omega) (by omega) (by have := HA.out; omega))
  · by_cases c2 : 65536 ≤ n
    · have HB : Hid ((bitLen n.toNat : Int) = 16 + bitLen (n / 65536).toNat) := bitLen_at _ 16 65536 (by decide) c2
      by_cases c3 : 256 ≤ n / 65536
      · have HC : Hid ((bitLen (n / 65536).toNat : Int) = 8 + bitLen (n / 65536 / 256).toNat) := bitLen_at _ 8 256 (by decide) c3
        go_enter Tryz.func134, Tryz.ntmps134
        go_wp2
        go_ret
        refine ⟨?_, rfl⟩
        rw [len8tab_get]
        exact ret1 (len_sum n 24 _ (by omega) (by omega) (by omega) (by have := HB.out; have := HC.out; omega))
      · go_enter Tryz.func134, Tryz.ntmps134
        go_wp2
        go_ret
        refine ⟨?_, rfl⟩
        rw [len8tab_get]
        exact ret1 (len_sum n 16 _ (by omega) (by omega) (by omega) (by have := HB.out; omega))
    · by_cases c3 : 256 ≤ n
      · have HC : Hid ((bitLen n.toNat : Int) = 8 + bitLen (n / 256).toNat) := bitLen_at _ 8 256 (by decide) c3
        go_enter Tryz.func134, Tryz.ntmps134
        go_wp2
        go_ret
        refine ⟨?_, rfl⟩
        rw [len8tab_get]
        exact ret1 (len_sum n 8 _ (by omega) (by omega) (by omega) (by have := HC.out; omega))
      · go_enter Tryz.func134, Tryz.ntmps134
        go_wp2
        go_ret
        refine ⟨?_, rfl⟩
        rw [len8tab_get]
        have := bitLen_small n (by omega) h1
        exact ret1 (by rw [wrap_small (bitLen n.toNat : Int) (by omega) (by omega), wrap_small _ (by omega) (by omega)])

end Go.Proofs.YtcgiicmmfleinaaGreatDoor

namespace Go.Proofs.YtcgiicmmfleinaaGreatDoor
open Go.RowKit NumMath
set_option linter.unusedVariables false

/-- how many groups stand ahead of the last -/
def grpK (n : Nat) : Nat := (bitLen n - 1) / 7

theorem grpK_le (n : Nat) (h : n < 18446744073709551616) : grpK n ≤ 9 := by
  unfold grpK
  have h1 : bitLen n ≤ 64 := by
    by_cases h0 : n = 0
    · subst h0; decide
    · have h2 := (bitLen_spec n).2 h0
      by_cases h3 : bitLen n ≤ 64
      · exact h3
      · have : 2 ^ 64 ≤ 2 ^ (bitLen n - 1) := Nat.pow_le_pow_right (by omega) (by omega)
        have e : (2 : Nat) ^ 64 = 18446744073709551616 := by decide
        omega
  omega

theorem pow128 (k : Nat) : 128 ^ k = 2 ^ (7 * k) := by rw [Nat.pow_mul]

theorem grpK_top (n : Nat) : n < 128 ^ (grpK n + 1) := by
  rw [pow128]
  refine Nat.lt_of_lt_of_le (bitLen_spec n).1 (Nat.pow_le_pow_right (by omega) ?_)
  unfold grpK
  omega

theorem grpK_low (n k : Nat) (hk : k ≤ grpK n) (h0 : 0 < k) : n / 128 ^ k ≠ 0 := by
  have hb : bitLen n ≠ 0 := by
    intro h
    unfold grpK at hk
    rw [h] at hk
    omega
  have hn : n ≠ 0 := by
    intro h
    subst h
    exact hb rfl
  have h1 := (bitLen_spec n).2 hn
  have h2 : 128 ^ k ≤ n := by
    rw [pow128]
    refine Nat.le_trans (Nat.pow_le_pow_right (by omega) ?_) h1
    unfold grpK at hk
    omega
  have := Nat.div_pos h2 (Nat.pow_pos (by omega))
  omega

theorem hiN_top (n : Nat) : hiN (n / 128 ^ (grpK n + 1)) = [] := by
  rw [Nat.div_eq_of_lt (grpK_top n), hiN_zero]

theorem hiN_next (n k : Nat) (hk : k ≤ grpK n) (h0 : 0 < k) : hiN (n / 128 ^ k) = hiN (n / 128 ^ (k + 1)) ++ [((n / 128 ^ k % 128 : Nat) : Int) + 128] := by
  rw [hiN_step (grpK_low n k hk h0), Nat.div_div_eq_div_mul, ← Nat.pow_succ]

theorem grow_alloc {w w' : World} {o : Obj} {r : Option Nat} (h : (w.alloc o).grownBy w' r) : w.grownBy w' r :=
  ⟨h.os, h.tape, h.output, Nat.le_trans (by simp) h.size, fun k hk hn => (h.block k (by simp; omega) hn).trans (Below.heap_alloc w o k hk)⟩

theorem or128 (x : Int) (h1 : 0 ≤ x) (h2 : x < 256) : bits .or .u8 x 128 = x % 128 + 128 := by
  have all : ∀ j : Fin 256, bits .or .u8 ((j.val : Nat) : Int) 128 = ((j.val : Nat) : Int) % 128 + 128 := by decide +kernel
  have := all ⟨x.toNat, by omega⟩
  have e : ((x.toNat : Nat) : Int) = x := by omega
  simpa [e] using this

theorem andNot128 (x : Int) (h1 : 0 ≤ x) (h2 : x < 256) : bits .andNot .u8 x 128 = x % 128 := by
  have all : ∀ j : Fin 256, bits .andNot .u8 ((j.val : Nat) : Int) 128 = ((j.val : Nat) : Int) % 128 := by decide +kernel
  have := all ⟨x.toNat, by omega⟩
  have e : ((x.toNat : Nat) : Int) = x := by omega
  simpa [e] using this

theorem grp_byte (n : Int) (k : Nat) (h : 0 ≤ n) : bits .or .u8 (n / 2 ^ (7 * k) % 256) 128 = ((n.toNat / 128 ^ k % 128 : Nat) : Int) + 128 := by
  rw [or128 _ (Int.emod_nonneg _ (by decide)) (Int.emod_lt_of_pos _ (by decide)), pow128]
  obtain ⟨N, rfl⟩ := Int.eq_ofNat_of_zero_le h
  rw [Int.toNat_natCast]
  have e : ((N : Int) / 2 ^ (7 * k)) = ((N / 2 ^ (7 * k) : Nat) : Int) := by rw [Int.natCast_ediv]; simp
  rw [e]
  omega

theorem last_byte (n : Int) (h : 0 ≤ n) : bits .andNot .u8 (n % 256) 128 = ((n.toNat % 128 : Nat) : Int) := by
  rw [andNot128 _ (by omega) (by omega)]
  omega

theorem grpK_start (n : Nat) (h : n < 18446744073709551616) : wrap64 ((wrap64 ((bitLen n : Int) - 1)).tdiv 7) = (grpK n : Int) := by
  have h9 := grpK_le n h
  unfold grpK at *
  have h1 : bitLen n ≤ 70 := by omega
  by_cases h0 : bitLen n = 0
  · rw [h0]; decide +kernel
  · have e : wrap64 ((bitLen n : Int) - 1) = ((bitLen n - 1 : Nat) : Int) := by unfold wrap64; omega
    rw [e]
    have e2 : ((bitLen n - 1 : Nat) : Int).tdiv 7 = (((bitLen n - 1) / 7 : Nat) : Int) := by rw [Int.tdiv_eq_ediv_of_nonneg (by omega)]; omega
    rw [e2]
    unfold wrap64; omega

theorem hi_few (n k : Nat) (h : n < 18446744073709551616) : (hiN (n / 128 ^ (k + 1))).length ≤ 9 := by
  refine hiN_length 9 _ ?_
  have e : (128 : Nat) ^ 9 = 9223372036854775808 := by decide
  rw [e]
  have h1 : n / 128 ^ (k + 1) ≤ n / 128 := Nat.div_le_div_left (by rw [Nat.pow_succ]; have := Nat.pow_pos (n := k) (show 0 < 128 by omega); omega) (by omega)
  omega

set_option maxHeartbeats 1000000 in
theorem addnum_any (base : Nat) (v : Value) (bs : List Int) (n : Int) (w : World) (h : OwnB w base v bs) (h1 : 0 ≤ n) (h2 : n ≤ 18446744073709551615) (hn : bs.length ≤ 1000000000) (hbase : base ≤ w.heap.size) :
    Calls Tryz.prog 97 #[v, .int .u64 n] w fun e w' => ∃ v', e = .returned v' ∧ OwnB w' base v' (bs ++ numL n) ∧ w.grownBy w' v.ownBlock ∧ AtB w v v' := by
  have H := hide h
  clear h
  have HK := hide (grpK_le n.toNat (by omega))
  have HT := hide (hiN_top n.toNat)
  go_enter Tryz.func97, Tryz.ntmps97
  go_wp2_with (first | (go_at_call 134; refine (len64_any n _ h1 h2).mono ?_; rintro e w' ⟨rfl, hw⟩; have hw := hw.symm; subst hw))
  go_loopw [0, 5] (fun v1 i wr => ∃ k : Nat, k ≤ grpK n.toNat ∧ i = .int .i64 k ∧ OwnB wr base v1 (bs ++ hiN (n.toNat / 128 ^ (k + 1))) ∧ w.grownBy wr v.ownBlock ∧ AtB w v v1) (fun _ i _ => (intOf i).toNat)
  case atStart => exact ⟨grpK n.toNat, Nat.le_refl _, by rw [grpK_start _ (by omega)], by rw [HT.out, List.append_nil]; exact H.out, ⟨rfl, rfl, rfl, Nat.le_refl _, fun _ _ _ => rfl⟩, .inl rfl⟩
  case round =>
    obtain ⟨k, hk, rfl, hown, hg, hat⟩ := hrel
    have HO := hide hown
    have HG := hide hg
    have HA := hide hat
    have hsz := hg.size
    have HL : Hid ((bs ++ hiN (n.toNat / 128 ^ (k + 1))).length ≤ 1000000100) := by
      have := hi_few n.toNat k (by omega)
      show _ ≤ _
      rw [List.length_append]
      omega
    clear hown hg hat
    have hk9 : k ≤ 9 := Nat.le_trans hk HK.out
    by_cases hlt : 0 < k
    · have HB := hide (grp_byte n k h1)
      have HX := hide (hiN_next n.toNat k hk hlt)
      go_wp2_with (first
        | (at_builtin; go_must (refine wp_appBg _ rfl (.tmp 14) (.tmp 21) rfl base _ _ rfl (HO.out.alloc _) _ 1 1 [bits .or .u8 (n / 2 ^ (7 * k) % 256) 128] rfl rfl (bytes_alloc _ [_] _) (by have := HL.out; simp only [List.length_singleton]; omega) (by simp; omega) ?_); intro v2 w2 hown2 hg2 hat2; have HO2 := hide hown2; have HG2 := hide (grow_trans HG.out HA.out (grow_alloc hg2)); have HA2 := hide (at_trans HA.out (at_alloc hat2) hsz); clear hown2 hg2 hat2))
      go_roundw
      case rel => exact ⟨k - 1, by omega, by go_num, by have h2 := HO2.out; rw [HB.out, List.append_assoc, ← HX.out] at h2; rw [Nat.sub_add_cancel hlt]; exact h2, HG2.out, HA2.out⟩
      case measure => simp [intOf]; omega
    · have hk0 : k = 0 := by omega
      subst hk0
      have HB := hide (last_byte n h1)
      go_wp2_with (first
        | (at_builtin; go_must (refine wp_appBg _ rfl (.tmp 23) (.tmp 27) rfl base _ _ rfl (HO.out.alloc _) _ 1 1 [bits .andNot .u8 (n % 256) 128] rfl rfl (bytes_alloc _ [_] _) (by have := HL.out; simp only [List.length_singleton]; omega) (by simp; omega) ?_); intro v2 w2 hown2 hg2 hat2; have HO2 := hide hown2; have HG2 := hide (grow_trans HG.out HA.out (grow_alloc hg2)); have HA2 := hide (at_trans HA.out (at_alloc hat2) hsz); clear hown2 hg2 hat2))
      go_ret
      refine ⟨v2, rfl, ?_, HG2.out, HA2.out⟩
      have h2 := HO2.out
      rw [HB.out] at h2
      unfold numL numN
      simpa using h2

end Go.Proofs.YtcgiicmmfleinaaGreatDoor

namespace Go.Proofs.YtcgiicmmfleinaaGreatDoor
open Go.RowKit NumMath
set_option linter.unusedVariables false

/-- the number that the bytes begin with, and what is left -/
def numAt (xs : List Int) : Option (Nat × List Int) := scan true 0 xs

/-- as the program tells it -/
def fstN (xs : List Int) : Int := match numAt xs with | some (n, _) => n | none => 0
def fstS (xs : List Int) : Int := match numAt xs with | some (_, r) => (xs.length : Int) - r.length | none => 0

theorem dropAt (xs : List Int) (k : Nat) (h : k < xs.length) : xs.drop k = xs.getD k 0 :: xs.drop (k + 1) := by
  rw [List.drop_eq_getElem_cons h]
  simp [List.getD, List.getElem?_eq_getElem h]

theorem scan_more (c : Int) (m : Nat) (h1 : 0 ≤ c) (h2 : c < 256) (hm : m < 144115188075855872) : bits .or .u64 ((m : Int) * 128) (IntKind.u64.wrap (bits .andNot .u8 c 128)) = ((m * 128 + (c % 128).toNat : Nat) : Int) := by
  rw [andNot128 c h1 h2]
  have e : IntKind.u64.wrap (c % 128) = c % 128 := by simp [IntKind.wrap, IntKind.bits, IntKind.signed]; omega
  rw [e, u64_or _ _ (by omega) (by omega) (by omega) (by omega)]
  have e2 : ((m : Int) * 128).toNat = 2 ^ 7 * m := by omega
  rw [e2]
  have h3 : (c % 128).toNat < 2 ^ 7 := by omega
  rw [← Nat.two_pow_add_eq_or_of_lt h3 m]
  have e4 : 2 ^ 7 * m = m * 128 := by omega
  rw [e4]

theorem retUI {a b c d : Int} (h : a = b) (g : c = d) : Ending.returned (.tuple #[.int .u64 a, .int .i64 c]) = .returned (.tuple #[.int .u64 b, .int .i64 d]) := by rw [h, g]

set_option maxHeartbeats 1000000 in
theorem rowfirst_any (a : Option Addr) (len cap : Nat) (xs : List Int) (w : World) (h : IsBytes w a len cap xs) :
    Calls Tryz.prog 130 #[.slice a len cap] w fun e w' => e = .returned (.tuple #[.int .u64 (fstN xs), .int .i64 (fstS xs)]) ∧ w' = w := by
  have HV := hide h
  obtain ⟨hl, hlc, hm, hr, -⟩ := h
  unfold maxLen at hm
  have HL : Hid (xs.length = len) := hl
  have HR := hide hr
  clear hl hr
  go_enter Tryz.func130, Tryz.ntmps130
  go_wp2
  go_step3
  go_wp2
  go_step3
  go_wp2
  go_loopw [4, 9] (fun n i wr => ∃ k m : Nat, k ≤ len ∧ i = .int .i64 k ∧ n = .int .u64 m ∧ m < 18446744073709551616 ∧ scan (decide (k = 0)) m (xs.drop k) = numAt xs ∧ wr = w) (fun _ i _ => len - (intOf i).toNat)
  case atStart => exact ⟨0, 0, Nat.zero_le _, rfl, rfl, by omega, rfl, rfl⟩
  case round =>
    obtain ⟨k, m, hk, rfl, rfl, hm, hscan, hw⟩ := hrel
    subst hw
    have HC := hide hscan
    clear hscan
    by_cases hlt : k < len
    · obtain ⟨g, off, rfl, hg, hB⟩ := HV.out.at hlt
      have hk' : k < xs.length := by rw [HL.out]; exact hlt
      have hc := hB k hk'
      have HD := hide (dropAt xs k hk')
      obtain ⟨c1, c2⟩ := HV.out.nth k
      generalize xs.getD k 0 = c at *
      clear hB hk'
      by_cases h1 : k = 0 ∧ c = 128
      · obtain ⟨rfl, rfl⟩ := h1
        rw [Nat.add_zero] at hc
        have HX : Hid (numAt xs = none) := by
          show _ = _
          rw [← HC.out, HD.out, scan, if_pos (.inl ⟨rfl, rfl⟩)]
        go_wp2
        try rw [Exit.noGoto_ret]
        go_ret2
        unfold fstN fstS
        rw [HX.out]
        exact ⟨rfl, rfl⟩
      · by_cases h2 : 144115188075855872 ≤ m
        · have HX : Hid (numAt xs = none) := by
            show _ = _
            rw [← HC.out, HD.out, scan, if_pos (.inr h2)]
          have h2' : ¬ ((m : Int) / 144115188075855872 = 0) := by omega
          have h2b : ((m : Int) / 144115188075855872 == 0) = false := by simpa using h2'
          by_cases hk0 : k = 0
          · have hc128 : ¬ c = 128 := fun e => h1 ⟨hk0, e⟩
            have hcb : (c == 128) = false := by simpa using hc128
            subst hk0
            rw [Nat.add_zero] at hc
            go_wp2
            try rw [Exit.noGoto_ret]
            go_ret2
            unfold fstN fstS
            rw [HX.out]
            exact ⟨rfl, rfl⟩
          · have hkb : ((k : Int) == 0) = false := by simpa using hk0
            go_wp2
            try rw [Exit.noGoto_ret]
            go_ret2
            unfold fstN fstS
            rw [HX.out]
            exact ⟨rfl, rfl⟩
        · have h2' : (m : Int) / 144115188075855872 = 0 := by omega
          have HE := hide (scan_more c m c1 c2 (by omega))
          by_cases h3 : c < 128
          · have HX : Hid (numAt xs = some (m * 128 + (c % 128).toNat, xs.drop (k + 1))) := by
              show _ = _
              rw [← HC.out, HD.out, scan, if_neg, if_pos h3]
              rintro (⟨h, h'⟩ | h)
              · exact h1 ⟨of_decide_eq_true h, h'⟩
              · exact h2 h
            by_cases hk0 : k = 0
            · have hc128 : ¬ c = 128 := by omega
              have hcb : (c == 128) = false := by simpa using hc128
              subst hk0
              rw [Nat.add_zero] at hc
              go_wp2
              try rw [Exit.noGoto_ret]
              go_ret2
              unfold fstN fstS
              rw [HX.out]
              exact ⟨retUI HE.out (by dsimp only; rw [List.length_drop, HL.out]; omega), rfl⟩
            · have hkb : ((k : Int) == 0) = false := by simpa using hk0
              go_wp2
              try rw [Exit.noGoto_ret]
              go_ret2
              unfold fstN fstS
              rw [HX.out]
              exact ⟨retUI HE.out (by dsimp only; rw [List.length_drop, HL.out]; omega), rfl⟩
          · have HX : Hid (scan (decide (k + 1 = 0)) (m * 128 + (c % 128).toNat) (xs.drop (k + 1)) = numAt xs) := by
              show _ = _
              rw [← HC.out, HD.out, scan.eq_def (decide (k = 0)) m (c :: xs.drop (k + 1))]
              dsimp only
              rw [if_neg, if_neg h3]
              · rfl
              · rintro (⟨h, h'⟩ | h)
                · exact h1 ⟨of_decide_eq_true h, h'⟩
                · exact h2 h
            by_cases hk0 : k = 0
            · have hc128 : ¬ c = 128 := fun e => h1 ⟨hk0, e⟩
              have hcb : (c == 128) = false := by simpa using hc128
              subst hk0
              rw [Nat.add_zero] at hc
              go_wp2
              go_roundw
              case rel => exact ⟨1, m * 128 + (c % 128).toNat, by omega, rfl, by rw [HE.out], by omega, HX.out, (by first | rfl | trivial)⟩
              case measure => simp [intOf]; omega
            · have hkb : ((k : Int) == 0) = false := by simpa using hk0
              go_wp2
              go_roundw
              case rel => exact ⟨k + 1, m * 128 + (c % 128).toNat, by omega, by go_num, by rw [HE.out], by omega, HX.out, (by first | rfl | trivial)⟩
              case measure => simp [intOf]; omega
    · have hkl : k = len := by omega
      subst hkl
      have HX : Hid (numAt xs = none) := by
        show _ = _
        rw [← HC.out, List.drop_of_length_le (by rw [HL.out]; exact Nat.le_refl _), scan_nil]
      go_wp2
      try rw [Exit.noGoto_ret]
      go_ret2
      unfold fstN fstS
      rw [HX.out]
      exact ⟨rfl, rfl⟩

end Go.Proofs.YtcgiicmmfleinaaGreatDoor

namespace Go.Proofs.YtcgiicmmfleinaaGreatDoor
open Go.RowKit NumMath
set_option linter.unusedVariables false

/-- the blocks of the Writer at p -/
def WB (w : World) (p k : Nat) : Prop := k = p ∨ ∃ v, w.cell? ⟨p, 0, none⟩ = some v ∧ v.ownBlock = some k

/-- the Writer at p holds the bytes bs -/
def IsW (w : World) (base p : Nat) (bs : List Int) : Prop :=
  ∃ a n c, w.cell? ⟨p, 0, none⟩ = some (.slice a n c) ∧ w.frozen? ⟨p, 0, none⟩ = false ∧ OwnB w base (.slice a n c) bs ∧ base ≤ p ∧ some p ≠ (Value.slice a n c).ownBlock

theorem IsW.lt {w : World} {base p : Nat} {bs : List Int} (h : IsW w base p bs) {k : Nat} (hk : WB w p k) : k < w.heap.size ∧ base ≤ k := by
  obtain ⟨a, n, c, hc, hf, ho, hp, hn⟩ := h
  rcases hk with rfl | ⟨v, hv, hb⟩
  · exact ⟨World.block_lt_of_cell? _ ⟨k, 0, none⟩ hc, hp⟩
  · rw [hc] at hv
    cases hv
    have := World.ownsRow.lt ho k hb
    exact ⟨this.2, this.1⟩

theorem IsW.at {w : World} {base p : Nat} {bs : List Int} (h : IsW w base p bs) : p < w.heap.size := (h.lt (k := p) (.inl rfl)).1

theorem IsW.keep {w w' : World} {base p : Nat} {bs : List Int} (h : IsW w base p bs) (hb : Below w.heap.size w w') : IsW w' base p bs := by
  have hp := h.at
  obtain ⟨a, n, c, hc, hf, ho, hp', hn⟩ := h
  exact ⟨a, n, c, (hb.cell (p := ⟨p, 0, none⟩) hp).trans hc, (hb.frozen (p := ⟨p, 0, none⟩) hp).trans hf, ho.keep hb, hp', hn⟩

theorem IsW.same {w w' : World} {base p : Nat} {bs : List Int} (h : IsW w base p bs) (hb : Below w.heap.size w w') {k : Nat} (hk : WB w' p k) : WB w p k := by
  have hp := h.at
  rcases hk with rfl | ⟨v, hv, hb'⟩
  · exact .inl rfl
  · rw [hb.cell (p := ⟨p, 0, none⟩) hp] at hv
    exact .inr ⟨v, hv, hb'⟩

theorem IsW.same' {w w' : World} {base p : Nat} {bs : List Int} (h : IsW w base p bs) (hb : Below w.heap.size w w') {k : Nat} (hk : WB w p k) : WB w' p k := by
  have hp := h.at
  rcases hk with rfl | ⟨v, hv, hb'⟩
  · exact .inl rfl
  · exact .inr ⟨v, (hb.cell (p := ⟨p, 0, none⟩) hp).trans hv, hb'⟩

/-- what a Writer's call leaves -/
def WPost (w : World) (base p : Nat) (bs : List Int) (w' : World) : Prop := IsW w' base p bs ∧ Keeps (WB w p) w w' ∧ ∀ k, WB w' p k → WB w p k ∨ w.heap.size ≤ k

theorem WPost.refl {w : World} {base p : Nat} {bs : List Int} (h : IsW w base p bs) : WPost w base p bs w := ⟨h, ⟨rfl, rfl, rfl, Nat.le_refl _, fun _ _ _ => rfl⟩, fun k hk => .inl hk⟩

theorem WPost.trans {w w1 w2 : World} {base p : Nat} {bs bs' : List Int} (h : WPost w base p bs w1) (k : WPost w1 base p bs' w2) : WPost w base p bs' w2 := by
  obtain ⟨h1, h2, h3⟩ := h
  obtain ⟨k1, k2, k3⟩ := k
  refine ⟨k1, ⟨k2.os.trans h2.os, k2.tape.trans h2.tape, k2.output.trans h2.output, Nat.le_trans h2.size k2.size, fun i hi hn => (k2.block i (Nat.lt_of_lt_of_le hi h2.size) ?_).trans (h2.block i hi hn)⟩, ?_⟩
  · intro hx
    rcases h3 i hx with h | h
    · exact hn h
    · omega
  · intro i hi
    rcases k3 i hi with h | h
    · exact h3 i h
    · exact .inr (Nat.le_trans h2.size h)

theorem WPost.ahead {w w1 w2 : World} {base p : Nat} {bs bs' : List Int} (h : IsW w base p bs) (hb : Below w.heap.size w w1) (k : WPost w1 base p bs' w2) : WPost w base p bs' w2 :=
  WPost.trans (bs := bs) ⟨h.keep hb, Below.keeps hb _, fun i hi => .inl (h.same hb hi)⟩ k

theorem WPost.behind {w w1 w2 : World} {base p : Nat} {bs : List Int} (h : WPost w base p bs w1) (hb : Below w1.heap.size w1 w2) : WPost w base p bs w2 :=
  WPost.trans h ⟨h.1.keep hb, Below.keeps hb _, fun i hi => .inl (h.1.same hb hi)⟩

theorem WPost.below {w w' : World} {base p : Nat} {bs bs' : List Int} (h : WPost w base p bs w') (h0 : IsW w base p bs') (hB : base ≤ w.heap.size) : Below base w w' :=
  h.2.1.below hB (fun k hk => (h0.lt hk).2)

/-- a block that was not the Writer's is as it was, and is not the Writer's -/
theorem WPost.cell {w w' : World} {base p : Nat} {bs : List Int} (h : WPost w base p bs w') {g i : Nat} (hg : g < w.heap.size) (hn : ¬ WB w p g) : w'.cell? ⟨g, i, none⟩ = w.cell? ⟨g, i, none⟩ := h.2.1.cell hg hn

theorem WPost.apart {w w' : World} {base p : Nat} {bs : List Int} (h : WPost w base p bs w') {g : Nat} (hg : g < w.heap.size) (hn : ¬ WB w p g) : ¬ WB w' p g := by
  intro hx
  rcases h.2.2 g hx with h | h
  · exact hn h
  · omega

/-- a Writer that was just made -/
theorem isW_new (w : World) (base g : Nat) (hg : w.heap.size = g) (hb : base ≤ g) : IsW (w.alloc (.cells #[.slice none 0 0] 113)) base g [] := by
  subst hg
  exact ⟨none, 0, 0, by simp, by simp, (ownB_nil _ _), hb, by intro h; cases h⟩

/-- the new slice, stored into the Writer's field -/
theorem wpost_store {w w1 : World} {base p : Nat} {a a' : Option Addr} {n c n' c' : Nat} {bs bs' : List Int} (hc : w.cell? ⟨p, 0, none⟩ = some (.slice a n c)) (hf : w.frozen? ⟨p, 0, none⟩ = false) (ho : OwnB w base (.slice a n c) bs) (hp : base ≤ p) (hn : some p ≠ (Value.slice a n c).ownBlock)
    (h1 : OwnB w1 base (.slice a' n' c') bs') (hg : w.grownBy w1 (Value.slice a n c).ownBlock) (hat : AtB w (.slice a n c) (.slice a' n' c')) : WPost w base p bs' (w1.setCell ⟨p, 0, none⟩ (.slice a' n' c')) := by
  have hlt : p < w.heap.size := World.block_lt_of_cell? _ ⟨p, 0, none⟩ hc
  have hne : some p ≠ (Value.slice a' n' c').ownBlock := by
    intro e
    rcases hat with h | ⟨g, h, hle⟩
    · rw [h] at e; exact hn e
    · rw [h] at e; cases e; omega
  have hc1 : w1.cell? ⟨p, 0, none⟩ = some (.slice a n c) := hg.cell hc hn
  have hf1 : w1.frozen? ⟨p, 0, none⟩ = false := (World.frozen?_of_block (a := ⟨p, 0, none⟩) (hg.block p hlt hn)).trans hf
  have hcell : (w1.setCell ⟨p, 0, none⟩ (.slice a' n' c')).cell? ⟨p, 0, none⟩ = some (.slice a' n' c') := World.cell?_setCell_same _ _ _ hc1
  refine ⟨⟨a', n', c', hcell, ?_, ?_, hp, hne⟩, ?_, ?_⟩
  · simp [hf1]
  · refine h1.lies ?_
    intro g hg'
    exact Below.heap_setCell _ _ _ _ (by intro e; subst e; exact hne hg'.symm)
  · refine ⟨hg.os, hg.tape, hg.output, Nat.le_trans hg.size (by simp [World.setCell]), ?_⟩
    intro k hk hM
    have hkp : k ≠ p := fun e => hM (.inl e)
    rw [Below.heap_setCell _ _ _ _ hkp]
    exact hg.block k hk (fun e => hM (.inr ⟨_, hc, e.symm⟩))
  · rintro k (rfl | ⟨v, hv, hb⟩)
    · exact .inl (.inl rfl)
    · rw [hcell] at hv
      cases hv
      rcases hat with h | ⟨g, h, hle⟩
      · rw [h] at hb; exact .inl (.inr ⟨_, hc, hb⟩)
      · rw [h] at hb; cases hb; exact .inr hle

set_option maxHeartbeats 1000000 in
theorem wN_any (base p : Nat) (bs : List Int) (n : Int) (g : Nat) (w : World) (h : IsW w base p bs) (hg : w.cell? ⟨g, 0, none⟩ = some (.int .u64 n)) (h1 : 0 ≤ n) (h2 : n ≤ 18446744073709551615) (hn : bs.length ≤ 1000000000) (hbase : base ≤ w.heap.size) :
    Calls Tryz.prog 51 #[.pointer (some ⟨p, 0, none⟩), .slice (some ⟨g, 0, none⟩) 1 1] w fun e w' => e = .returned (.tuple #[]) ∧ WPost w base p (bs ++ numL n) w' := by
  have H := hide h
  obtain ⟨a, m, c, hc, hf, ho, hp, hne⟩ := h
  have HO := hide ho
  have HN := hide hne
  clear ho hne
  go_enter Tryz.func51, Tryz.ntmps51
  go_wp2
  go_loopw [10] (fun i wr => (i = .int .i64 0 ∧ wr = w) ∨ (i = .int .i64 1 ∧ WPost w base p (bs ++ numL n) wr)) (fun i _ => 1 - (intOf i).toNat)
  case atStart => exact .inl ⟨rfl, rfl⟩
  case round =>
    rcases hrel with ⟨rfl, rfl⟩ | ⟨rfl, hpost⟩
    · go_wp2_with (first | (go_at_call 97; go_must (refine (addnum_any base _ bs n _ HO.out h1 h2 hn hbase).mono ?_); rintro e w2 ⟨v2, rfl, hown2, hg2, hat2⟩; obtain ⟨a2, n2, c2, rfl⟩ : ∃ a2 n2 c2, v2 = .slice a2 n2 c2 := (by obtain ⟨x, y, z, _⟩ := hown2.src; exact ⟨x, _, y, z⟩); have HP := hide (wpost_store hc hf HO.out hp HN.out hown2 hg2 hat2); have hc2 := hg2.cell hc HN.out; have hf2 := (World.frozen?_of_block (a := ⟨p, 0, none⟩) (hg2.block p (World.block_lt_of_cell? _ ⟨p, 0, none⟩ hc) HN.out)).trans hf; clear hown2 hg2 hat2))
      go_roundw
      case rel => exact .inr ⟨by go_num, HP.out⟩
      case measure => simp [intOf]
    · go_wp2
      go_end0
      exact ⟨rfl, hpost⟩

/-- the new world with a list of one number -/
theorem one_num (w : World) (n : Int) (g : Nat) (hg : w.heap.size = g) : (w.alloc (.cells #[.int .u64 n] 31)).cell? ⟨g, 0, none⟩ = some (.int .u64 n) := by
  subst hg
  simp

set_option maxHeartbeats 400000 in
theorem wI_any (base p : Nat) (bs : List Int) (n : Int) (w : World) (h : IsW w base p bs) (h1 : -9223372036854775808 ≤ n) (h2 : n ≤ 9223372036854775807) (hn : bs.length ≤ 1000000000) (hbase : base ≤ w.heap.size) :
    Calls Tryz.prog 98 #[.pointer (some ⟨p, 0, none⟩), .int .i64 n] w fun e w' => e = .returned (.tuple #[]) ∧ WPost w base p (bs ++ numL (zigV n)) w' := by
  have H := hide h
  clear h
  obtain ⟨z1, z2⟩ := zigV_range n h1 h2
  go_enter Tryz.func98, Tryz.ntmps98
  go_wp2_with (first
    | (go_at_call 135; refine (zig_any n _ h1 h2).mono ?_; rintro e w' ⟨rfl, hw⟩; have hw := hw.symm; subst hw)
    | (go_at_call 51; go_must (refine (wN_any base p bs (zigV n) w.heap.size _ (H.out.keep (new_below _ _)) (one_num _ _ _ rfl) z1 z2 hn (by simp; omega)).mono ?_); rintro e w2 ⟨rfl, hpost⟩; have HP := hide (WPost.ahead H.out (new_below _ _) hpost); clear hpost))
  go_end0
  exact ⟨rfl, HP.out⟩

set_option maxHeartbeats 400000 in
theorem wText_any (base p : Nat) (bs : List Int) (a : Option Addr) (len cap : Nat) (xs : List Int) (w : World) (h : IsW w base p bs) (hs : SrcB w a len xs) (ho : OffB a (WB w p) ∨ len = 0) (hl : len ≤ 1000000000) (hn : bs.length ≤ 100000000) (hbase : base ≤ w.heap.size) :
    Calls Tryz.prog 55 #[.pointer (some ⟨p, 0, none⟩), .slice a len cap] w fun e w' => e = .returned (.tuple #[]) ∧ WPost w base p (bs ++ (numL len ++ xs)) w' := by
  have H := hide h
  have HS := hide hs
  have HQ := hide ho
  clear h hs ho
  have HNL := hide (numL_length (len : Int) (by omega) (by omega))
  go_enter Tryz.func55, Tryz.ntmps55
  go_wp2_with (first
    | (go_at_call 51; go_must (refine (wN_any base p bs (len : Int) w.heap.size _ (H.out.keep (new_below _ _)) (one_num _ _ _ rfl) (by omega) (by omega) (by omega) (by simp; omega)).mono ?_); rintro e w2 ⟨rfl, hpost⟩; have hpost1 := WPost.ahead H.out (new_below _ _) hpost; have HP := hide hpost1; have HS2 := hide (HS.out.liesO hpost1.2.1 HQ.out); have hsz2 := hpost1.2.1.size; obtain ⟨a2, n2, c2, hc2, hf2, ho2, hp2, hne2⟩ := hpost1.1; have HO2 := hide ho2; have HN2 := hide hne2; clear hpost hpost1 ho2 hne2)
    | (at_builtin; go_must (refine wp_joinB _ rfl (.tmp 16) (.tmp 17) rfl base _ _ rfl HO2.out a len cap xs rfl HS2.out (by have := HNL.out; rw [HS2.out.1, List.length_append]; omega) (by omega) ?_); intro v3 w3 hown3 hg3 hat3; obtain ⟨a3, n3, c3, rfl⟩ : ∃ a3 n3 c3, v3 = .slice a3 n3 c3 := (by obtain ⟨x, y, z, _⟩ := hown3.src; exact ⟨x, _, y, z⟩); have HP3 := hide (HP.out.trans (wpost_store hc2 hf2 HO2.out hp2 HN2.out hown3 hg3 hat3)); have hc3 := hg3.cell hc2 HN2.out; have hf3 := (World.frozen?_of_block (a := ⟨p, 0, none⟩) (hg3.block p (World.block_lt_of_cell? _ ⟨p, 0, none⟩ hc2) HN2.out)).trans hf2; clear hown3 hg3 hat3))
  go_end0
  refine ⟨rfl, ?_⟩
  rw [← List.append_assoc]
  exact HP3.out

set_option maxHeartbeats 400000 in
theorem wBytes_any (base p : Nat) (bs : List Int) (w : World) (h : IsW w base p bs) (hn : bs.length ≤ 1000000000) :
    Calls Tryz.prog 63 #[.pointer (some ⟨p, 0, none⟩)] w fun e w' => ∃ v, e = .returned v ∧ OwnB w' w.heap.size v bs ∧ Below w.heap.size w w' := by
  obtain ⟨a, n, c, hc, hf, ho, hp, hne⟩ := h
  obtain ⟨a', c', e, hs, hb⟩ := ho.src
  cases e
  have HS := hide hs
  clear hs hb ho hne
  go_enter Tryz.func63, Tryz.ntmps63
  go_wp2_with (first
    | (go_at_call 88; go_must (refine (clone_src a bs.length c bs _ HS.out hn).mono ?_); rintro e w2 ⟨v2, rfl, hown2, hb2⟩))
  go_ret
  exact ⟨v2, rfl, hown2, hb2⟩

end Go.Proofs.YtcgiicmmfleinaaGreatDoor

namespace Go.Proofs.YtcgiicmmfleinaaGreatDoor
open Go.RowKit NumMath
set_option linter.unusedVariables false

/-! What is read, in plain lists: none: it has failed; some xs: xs are left. -/

def rdN (most : Int) : Option (List Int) → Int × Option (List Int)
  | none => (0, none)
  | some xs => match numAt xs with
    | none => (0, none)
    | some (n, r) => if (n : Int) ≤ most then ((n : Int), some r) else (0, none)

def rdI (st : Option (List Int)) : Int × Option (List Int) := (zagV (rdN 18446744073709551615 st).1, (rdN 18446744073709551615 st).2)

def rdT (most : Int) (st : Option (List Int)) : List Int × Option (List Int) :=
  if most < 0 then ([], none) else match (rdN most st).2 with
    | none => ([], none)
    | some xs => if (rdN most st).1 ≤ xs.length then (xs.take (rdN most st).1.toNat, some (xs.drop (rdN most st).1.toNat)) else ([], none)

def rdLeft (st : Option (List Int)) : Int := match st with | none => 0 | some xs => xs.length
def rdEnd (st : Option (List Int)) : Int := match st with | some [] => 0 | _ => 30

/-- numbers of bytes alone -/
def Byt (st : Option (List Int)) : Prop := ∀ xs, st = some xs → ∀ c ∈ xs, 0 ≤ c ∧ c < 256

/-- the bytes that are left lie in block q, in the field at p; good: what the flag says of a reader that has not failed -/
def IsR (good : Bool) (w : World) (p q : Nat) (st : Option (List Int)) : Prop :=
  w.frozen? ⟨p, 0, none⟩ = false ∧ w.frozen? ⟨p, 1, none⟩ = false ∧ q < w.heap.size ∧ ∃ a n c, w.cell? ⟨p, 0, none⟩ = some (.slice a n c) ∧ (n ≠ 0 → ∀ x, a = some x → x.block = q ∧ q ≠ p) ∧
    match st with
    | none => w.cell? ⟨p, 1, none⟩ = some (.bool (!good)) ∧ (a, n, c) = (none, 0, 0)
    | some xs => w.cell? ⟨p, 1, none⟩ = some (.bool good) ∧ IsBytes w a n c xs

theorem IsR.at {good : Bool} {w : World} {p q : Nat} {st : Option (List Int)} (h : IsR good w p q st) : p < w.heap.size := by
  obtain ⟨_, _, _, a, n, c, hc, _⟩ := h
  exact World.block_lt_of_cell? _ ⟨p, 0, none⟩ hc

theorem IsBytes.liesM {w w' : World} {a : Option Addr} {len cap : Nat} {xs : List Int} {M : Nat → Prop} (h : IsBytes w a len cap xs) (hk : Keeps M w w') (ho : OffB a M) : IsBytes w' a len cap xs := by
  obtain ⟨h1, h2, h3, h4, h5⟩ := h
  exact ⟨h1, h2, h3, h4, (SrcB.lies (w := w) ⟨h1, h5⟩ hk ho).2⟩

theorem IsBytes.liesO {w w' : World} {a : Option Addr} {len cap : Nat} {xs : List Int} {M : Nat → Prop} (h : IsBytes w a len cap xs) (hk : Keeps M w w') (ho : OffB a M ∨ len = 0) : IsBytes w' a len cap xs := by
  rcases ho with ho | h0
  · exact h.liesM hk ho
  · exact ⟨h.1, h.2.1, h.2.2.1, h.2.2.2.1, .inl h0⟩

theorem IsR.lies {good : Bool} {w w' : World} {p q : Nat} {st : Option (List Int)} {M : Nat → Prop} (h : IsR good w p q st) (hk : Keeps M w w') (hp : ¬ M p) (hq : ¬ M q) : IsR good w' p q st := by
  have hlt := h.at
  obtain ⟨f0, f1, hql, a, n, c, hc, ha, hs⟩ := h
  have e : w'.heap[p]? = w.heap[p]? := hk.block p hlt hp
  refine ⟨(World.frozen?_of_block (a := ⟨p, 0, none⟩) e).trans f0, (World.frozen?_of_block (a := ⟨p, 1, none⟩) e).trans f1, Nat.lt_of_lt_of_le hql hk.size, a, n, c, (hk.cell hlt hp).trans hc, ha, ?_⟩
  cases st with
  | none => exact ⟨(hk.cell hlt hp).trans hs.1, hs.2⟩
  | some xs => exact ⟨(hk.cell hlt hp).trans hs.1, hs.2.liesO hk (by by_cases h0 : n = 0; (exact .inr h0); exact .inl (fun x hx => by rw [(ha h0 x hx).1]; exact hq))⟩

theorem IsR.keep {good : Bool} {w w' : World} {p q : Nat} {st : Option (List Int)} (h : IsR good w p q st) (hb : Below w.heap.size w w') : IsR good w' p q st :=
  h.lies (Below.keeps hb (fun _ => False)) (fun h => h) (fun h => h)

/-- what a Reader's call leaves -/
def RPost (good : Bool) (w : World) (p q : Nat) (st : Option (List Int)) (w' : World) : Prop := IsR good w' p q st ∧ Keeps (fun k => k = p) w w'

theorem Keeps.refl (M : Nat → Prop) (w : World) : Keeps M w w := ⟨rfl, rfl, rfl, Nat.le_refl _, fun _ _ _ => rfl⟩

theorem Keeps.trans {M : Nat → Prop} {w w1 w2 : World} (h : Keeps M w w1) (k : Keeps M w1 w2) : Keeps M w w2 :=
  ⟨k.os.trans h.os, k.tape.trans h.tape, k.output.trans h.output, Nat.le_trans h.size k.size, fun i hi hn => (k.block i (Nat.lt_of_lt_of_le hi h.size) hn).trans (h.block i hi hn)⟩

theorem Keeps.set {p i : Nat} {w : World} (v : Value) : Keeps (fun k => k = p) w (w.setCell ⟨p, i, none⟩ v) :=
  ⟨rfl, rfl, rfl, by simp [World.setCell], fun k hk hn => Below.heap_setCell _ _ _ _ hn⟩

theorem RPost.refl {good : Bool} {w : World} {p q : Nat} {st : Option (List Int)} (h : IsR good w p q st) : RPost good w p q st w := ⟨h, Keeps.refl _ _⟩

theorem RPost.trans {good : Bool} {w w1 w2 : World} {p q : Nat} {st st' : Option (List Int)} (h : RPost good w p q st w1) (k : RPost good w1 p q st' w2) : RPost good w p q st' w2 := ⟨k.1, h.2.trans k.2⟩

theorem RPost.ahead {good : Bool} {w w1 w2 : World} {p q : Nat} {st : Option (List Int)} (hb : Below w.heap.size w w1) (k : RPost good w1 p q st w2) : RPost good w p q st w2 := ⟨k.1, (Below.keeps hb _).trans k.2⟩

theorem RPost.behind {good : Bool} {w w1 w2 : World} {p q : Nat} {st : Option (List Int)} (h : RPost good w p q st w1) (hb : Below w1.heap.size w1 w2) : RPost good w p q st w2 := ⟨h.1.keep hb, h.2.trans (Below.keeps hb _)⟩

/-- the field set anew: a later beginning of the same bytes -/
theorem rpost_set {good : Bool} {w : World} {p q : Nat} {st : Option (List Int)} {a' : Option Addr} {n' c' : Nat} {xs : List Int} (h : IsR good w p q st) (hf : w.cell? ⟨p, 1, none⟩ = some (.bool good)) (ha : n' ≠ 0 → ∀ x, a' = some x → x.block = q ∧ q ≠ p) (hB : IsBytes w a' n' c' xs) :
    RPost good w p q (some xs) (w.setCell ⟨p, 0, none⟩ (.slice a' n' c')) := by
  obtain ⟨f0, f1, hql, b, m, d, hc, _, _⟩ := h
  refine ⟨⟨by simpa using f0, by simpa using f1, Nat.lt_of_lt_of_le hql (Keeps.set (p := p) (i := 0) (.slice a' n' c')).size, a', n', c', World.cell?_setCell_same _ _ _ hc, ha, ?_, ?_⟩, Keeps.set _⟩
  · exact (World.cell?_setCell_other _ _ _ _ (by intro e; cases e)).trans hf
  · exact hB.liesO (Keeps.set (p := p) (i := 0) (.slice a' n' c')) (by by_cases h0 : n' = 0; (exact .inr h0); exact .inl (fun x hx => by rw [(ha h0 x hx).1]; exact (ha h0 x hx).2))

/-- the whole set to noughts -/
theorem rpost_fail {good : Bool} {w : World} {p q : Nat} {st : Option (List Int)} (h : IsR good w p q st) :
    RPost good w p q none ((w.setCell ⟨p, 0, none⟩ (.slice none 0 0)).setCell ⟨p, 1, none⟩ (.bool (!good))) := by
  obtain ⟨f0, f1, hql, b, m, d, hc, _, hs⟩ := h
  have hf : ∃ u, w.cell? ⟨p, 1, none⟩ = some u := by
    cases st with
    | none => exact ⟨_, hs.1⟩
    | some xs => exact ⟨_, hs.1⟩
  obtain ⟨u, hu⟩ := hf
  refine ⟨⟨by simpa using f0, by simpa using f1, Nat.lt_of_lt_of_le hql ((Keeps.set (p := p) (i := 0) (.slice none 0 0)).trans (Keeps.set (p := p) (i := 1) (.bool (!good)))).size, none, 0, 0, ?_, by (intro _ x hx; cases hx), ?_, rfl⟩, (Keeps.set _).trans (Keeps.set _)⟩
  · rw [World.cell?_setCell_other _ _ _ _ (by intro e; cases e)]
    exact World.cell?_setCell_same _ _ _ hc
  · exact World.cell?_setCell_same _ _ _ ((World.cell?_setCell_other _ _ _ _ (by intro e; cases e)).trans hu)

theorem IsR.flag {good : Bool} {w : World} {p q : Nat} {st : Option (List Int)} (h : IsR good w p q st) : w.cell? ⟨p, 1, none⟩ = some (.bool (if st.isSome then good else !good)) := by
  obtain ⟨f0, f1, -, b, m, d, hc, _, hs⟩ := h
  cases st with
  | none => exact hs.1
  | some xs => exact hs.1

theorem IsR.qlt {good : Bool} {w : World} {p q : Nat} {st : Option (List Int)} (h : IsR good w p q st) : q < w.heap.size := h.2.2.1

theorem Keeps.setNew {M : Nat → Prop} {w w1 : World} (h : Keeps M w w1) {g i : Nat} (hg : w.heap.size ≤ g) (v : Value) : Keeps M w (w1.setCell ⟨g, i, none⟩ v) :=
  ⟨h.os, h.tape, h.output, Nat.le_trans h.size (by simp [World.setCell]), fun k hk hn => (Below.heap_setCell _ _ _ _ (by show k ≠ g; omega)).trans (h.block k hk hn)⟩

theorem RPost.setNew {good : Bool} {w w1 : World} {p q : Nat} {st st0 : Option (List Int)} (h0 : IsR good w p q st0) (h : RPost good w p q st w1) {g i : Nat} (hg : w.heap.size ≤ g) (v : Value) : RPost good w p q st (w1.setCell ⟨g, i, none⟩ v) :=
  ⟨h.1.lies (Keeps.set (p := g) (i := i) v) (by have := h0.at; omega) (by have := h0.qlt; omega), h.2.setNew hg v⟩

theorem fine_any (p q : Nat) (st : Option (List Int)) (w : World) (h : IsR true w p q st) :
    Calls Tryz.prog 95 #[.pointer (some ⟨p, 0, none⟩)] w fun e w' => e = .returned (.bool st.isSome) ∧ w' = w := by
  have hf := h.flag
  clear h
  cases st with
  | none =>
    simp only [Option.isSome_none, Bool.not_true, Bool.false_eq_true, if_false] at hf
    go_enter Tryz.func95, Tryz.ntmps95
    go_wp2
    go_ret
    exact ⟨rfl, rfl⟩
  | some xs =>
    simp only [Option.isSome_some, if_true] at hf
    go_enter Tryz.func95, Tryz.ntmps95
    go_wp2
    go_ret
    exact ⟨rfl, rfl⟩

theorem fail_any (p q : Nat) (st : Option (List Int)) (w : World) (h : IsR true w p q st) :
    Calls Tryz.prog 131 #[.pointer (some ⟨p, 0, none⟩)] w fun e w' => e = .returned (.tuple #[]) ∧ RPost true w p q none w' := by
  have HP := hide (rpost_fail h)
  have hf := h.flag
  obtain ⟨f0, f1, -, b, m, d, hc, -, -⟩ := h
  go_enter Tryz.func131, Tryz.ntmps131
  go_wp2
  go_end0
  exact ⟨rfl, HP.out⟩

theorem xfail_any (p q : Nat) (st : Option (List Int)) (w : World) (h : IsR false w p q st) :
    Calls Tryz.prog 96 #[.pointer (some ⟨p, 0, none⟩)] w fun e w' => e = .returned (.tuple #[]) ∧ RPost false w p q none w' := by
  have HP := hide (rpost_fail h)
  have hf := h.flag
  obtain ⟨f0, f1, -, b, m, d, hc, -, -⟩ := h
  go_enter Tryz.func96, Tryz.ntmps96
  go_wp2
  go_end0
  exact ⟨rfl, HP.out⟩

end Go.Proofs.YtcgiicmmfleinaaGreatDoor

namespace Go.Proofs.YtcgiicmmfleinaaGreatDoor
open Go.RowKit NumMath
set_option linter.unusedVariables false

theorem num_split {xs : List Int} {n : Nat} {r : List Int} (hr : ∀ c ∈ xs, 0 ≤ c ∧ c < 256) (h : numAt xs = some (n, r)) : ∃ s : Nat, 1 ≤ s ∧ s ≤ xs.length ∧ r = xs.drop s ∧ fstS xs = (s : Int) ∧ fstN xs = (n : Int) ∧ n < 18446744073709551616 := by
  obtain ⟨e, hn⟩ := scan_inv hr h
  refine ⟨(numN n).length, ?_, ?_, ?_, ?_, ?_, hn⟩
  · unfold numN; rw [List.length_append]; simp only [List.length_singleton]; omega
  · rw [e, List.length_append]; omega
  · rw [e, List.drop_left]
  · unfold fstS; rw [h]; dsimp only; rw [e, List.length_append]; omega
  · unfold fstN; rw [h]

theorem IsBytes.drop {w : World} {g off len cap : Nat} {xs : List Int} (h : IsBytes w (some ⟨g, off, none⟩) len cap xs) (s : Nat) (hs : s ≤ len) : IsBytes w (some ⟨g, off + s, none⟩) (len - s) (cap - s) (xs.drop s) := by
  obtain ⟨h1, h2, h3, h4, h5⟩ := h
  refine ⟨by rw [List.length_drop, h1], by omega, by omega, fun c hc => h4 c (List.mem_of_mem_drop hc), ?_⟩
  rcases h5 with h5 | ⟨g', off', e, hg, hB⟩
  · exact .inl (by omega)
  · cases e
    refine .inr ⟨g, off + s, rfl, hg, ?_⟩
    intro i hi
    rw [List.length_drop] at hi
    have := hB (s + i) (by omega)
    rw [Nat.add_assoc, this]
    simp [List.getD]

theorem IsBytes.drop0 {w : World} {g off len cap : Nat} {xs : List Int} (h : IsBytes w (some ⟨g, off, none⟩) len cap xs) (hs : cap ≤ len) : IsBytes w (some ⟨g, off, none⟩) (len - cap) 0 (xs.drop cap) := by
  obtain ⟨h1, h2, h3, h4, h5⟩ := h
  exact ⟨by rw [List.length_drop, h1], by omega, by unfold maxLen; omega, fun c hc => h4 c (List.mem_of_mem_drop hc), .inl (by omega)⟩

theorem SrcB.take {w : World} {g off len cap : Nat} {xs : List Int} (h : IsBytes w (some ⟨g, off, none⟩) len cap xs) (s : Nat) (hs : s ≤ len) : SrcB w (some ⟨g, off, none⟩) s (xs.take s) := by
  obtain ⟨h1, h2, h3, h4, h5⟩ := h
  refine ⟨by rw [List.length_take, h1]; omega, ?_⟩
  rcases h5 with h5 | ⟨g', off', e, hg, hB⟩
  · exact .inl (by omega)
  · cases e
    refine .inr ⟨g, off, rfl, hg, ?_⟩
    intro i hi
    rw [List.length_take] at hi
    rw [hB i (by omega)]
    have hi' : i < s := by omega
    simp [List.getD, hi']

set_option maxHeartbeats 1000000 in
theorem rdN_any (p q : Nat) (st : Option (List Int)) (most : Int) (w : World) (h : IsR true w p q st) (h1 : 0 ≤ most) (h2 : most ≤ 18446744073709551615) :
    Calls Tryz.prog 89 #[.pointer (some ⟨p, 0, none⟩), .int .u64 most] w fun e w' => e = .returned (.int .u64 (rdN most st).1) ∧ RPost true w p q (rdN most st).2 w' := by
  have H := hide h
  cases st with
  | none =>
    clear h
    go_enter Tryz.func89, Tryz.ntmps89
    go_wp2_with (first | (go_at_call 95; refine (fine_any p q none _ H.out).mono ?_; rintro e w' ⟨rfl, hw⟩; have hw := hw.symm; subst hw))
    go_ret
    exact ⟨rfl, RPost.refl H.out⟩
  | some xs =>
    have hf := h.flag
    simp only [Option.isSome_some, if_true] at hf
    obtain ⟨f0, f1, -, a, len, cap, hc, ha, -, hB⟩ := h
    have HA := hide ha
    have HB := hide hB
    clear ha
    cases hn : numAt xs with
    | none =>
      have HX : Hid (rdN most (some xs) = (0, none)) := by show _ = _; unfold rdN; dsimp only; rw [hn]
      have e1 : fstN xs = 0 := by unfold fstN; rw [hn]
      have e2 : fstS xs = 0 := by unfold fstS; rw [hn]
      have HFst := hide (rowfirst_any a len cap xs w hB)
      rw [e1, e2] at HFst
      clear hB hn e1 e2
      go_enter Tryz.func89, Tryz.ntmps89
      go_wp2_with (first
        | (go_at_call 95; refine (fine_any p q (some xs) _ H.out).mono ?_; rintro e w' ⟨rfl, hw⟩; have hw := hw.symm; subst hw)
        | (go_at_call 130; refine HFst.out.mono ?_; rintro e w' ⟨rfl, hw⟩; have hw := hw.symm; subst hw)
        | (go_at_call 131; refine (fail_any p q (some xs) _ H.out).mono ?_; rintro e w2 ⟨rfl, hpost⟩; have HP := hide hpost; clear hpost))
      go_ret
      rw [HX.out]
      exact ⟨rfl, HP.out⟩
    | some nr =>
      obtain ⟨n, r⟩ := nr
      obtain ⟨s, hs1, hs2, hr, e2, e1, hn64⟩ := num_split hB.2.2.2.1 hn
      have HFst := hide (rowfirst_any a len cap xs w hB)
      rw [e1, e2] at HFst
      have hlen := hB.1
      have hlc := hB.2.1
      have hmx := hB.2.2.1
      unfold maxLen at hmx
      have hsl : s ≤ len := by omega
      by_cases hmost : (n : Int) ≤ most
      · have HX : Hid (rdN most (some xs) = ((n : Int), some r)) := by show _ = _; unfold rdN; dsimp only; rw [hn]; dsimp only; rw [if_pos hmost]
        obtain ⟨g, off, rfl, hg, -⟩ := hB.at (k := 0) (by omega)
        have HQ := hide (HA.out (by omega) _ rfl)
        by_cases hcs : cap = s
        · subst hcs
          have hs0 : ((cap : Int) == 0) = false := by simp; omega
          have HP := hide (rpost_set H.out hf (a' := some ⟨g, off, none⟩) (n' := 0) (c' := 0) (xs := r) (by intro _ x hx; cases hx; exact HQ.out) (by rw [hr]; have h := hB.drop0 hsl; rw [show len - cap = 0 by omega] at h; exact h))
          clear hB hn e1 e2 hr hlen
          go_enter Tryz.func89, Tryz.ntmps89
          go_wp2_with (first
            | (go_at_call 95; refine (fine_any p q (some xs) _ H.out).mono ?_; rintro e w' ⟨rfl, hw⟩; have hw := hw.symm; subst hw)
            | (go_at_call 130; refine HFst.out.mono ?_; rintro e w' ⟨rfl, hw⟩; have hw := hw.symm; subst hw))
          go_ret
          rw [HX.out]
          exact ⟨rfl, HP.out⟩
        · have hs0 : ((s : Int) == 0) = false := by simp; omega
          have HP := hide (rpost_set H.out hf (a' := some ⟨g, off + s, none⟩) (n' := len - s) (c' := cap - s) (xs := r) (by intro _ x hx; cases hx; exact HQ.out) (by rw [hr]; exact hB.drop s hsl))
          clear hB hn e1 e2 hr hlen
          go_enter Tryz.func89, Tryz.ntmps89
          go_wp2_with (first
            | (go_at_call 95; refine (fine_any p q (some xs) _ H.out).mono ?_; rintro e w' ⟨rfl, hw⟩; have hw := hw.symm; subst hw)
            | (go_at_call 130; refine HFst.out.mono ?_; rintro e w' ⟨rfl, hw⟩; have hw := hw.symm; subst hw))
          go_ret
          rw [HX.out]
          exact ⟨rfl, HP.out⟩
      · have HX : Hid (rdN most (some xs) = (0, none)) := by show _ = _; unfold rdN; dsimp only; rw [hn]; dsimp only; rw [if_neg hmost]
        clear hB hn e1 e2 hr hlen
        go_enter Tryz.func89, Tryz.ntmps89
        go_wp2_with (first
          | (go_at_call 95; refine (fine_any p q (some xs) _ H.out).mono ?_; rintro e w' ⟨rfl, hw⟩; have hw := hw.symm; subst hw)
          | (go_at_call 130; refine HFst.out.mono ?_; rintro e w' ⟨rfl, hw⟩; have hw := hw.symm; subst hw)
          | (go_at_call 131; refine (fail_any p q (some xs) _ H.out).mono ?_; rintro e w2 ⟨rfl, hpost⟩; have HP := hide hpost; clear hpost))
        go_ret
        rw [HX.out]
        exact ⟨rfl, HP.out⟩

theorem rdN_range (most : Int) (st : Option (List Int)) (hb : Byt st) (h1 : 0 ≤ most) : 0 ≤ (rdN most st).1 ∧ (rdN most st).1 ≤ most ∧ Byt (rdN most st).2 := by
  cases st with
  | none => exact ⟨Int.le_refl _, h1, by intro xs h; cases h⟩
  | some xs =>
    unfold rdN
    dsimp only
    cases hn : numAt xs with
    | none => exact ⟨Int.le_refl _, h1, by intro xs h; cases h⟩
    | some nr =>
      obtain ⟨n, r⟩ := nr
      dsimp only
      by_cases hm : (n : Int) ≤ most
      · rw [if_pos hm]
        refine ⟨by dsimp only; omega, hm, ?_⟩
        intro ys hy c hc
        cases hy
        obtain ⟨s, _, _, hr, _⟩ := num_split (hb xs rfl) hn
        rw [hr] at hc
        exact hb xs rfl c (List.mem_of_mem_drop hc)
      · rw [if_neg hm]
        exact ⟨Int.le_refl _, h1, by intro xs h; cases h⟩

theorem IsR.byt {good : Bool} {w : World} {p q : Nat} {st : Option (List Int)} (h : IsR good w p q st) : Byt st := by
  obtain ⟨f0, f1, -, b, m, d, hc, _, hs⟩ := h
  intro xs hx
  subst hx
  exact hs.2.2.2.2.1

set_option maxHeartbeats 400000 in
theorem rdI_any (p q : Nat) (st : Option (List Int)) (w : World) (h : IsR true w p q st) :
    Calls Tryz.prog 90 #[.pointer (some ⟨p, 0, none⟩)] w fun e w' => e = .returned (.int .i64 (rdI st).1) ∧ RPost true w p q (rdI st).2 w' := by
  have H := hide h
  obtain ⟨r1, r2, -⟩ := rdN_range 18446744073709551615 st h.byt (by omega)
  clear h
  unfold rdI
  dsimp only
  have HC := hide (fun w h => rdN_any p q st 18446744073709551615 w h (by omega) (by omega))
  generalize rdN 18446744073709551615 st = ns at *
  obtain ⟨n, s⟩ := ns
  dsimp only at *
  go_enter Tryz.func90, Tryz.ntmps90
  go_wp2_with (first
    | (go_at_call 89; refine (HC.out _ H.out).mono ?_; rintro e w2 ⟨rfl, hpost⟩; have HP := hide hpost; clear hpost)
    | (go_at_call 132; refine (zag_any n _ r1 r2).mono ?_; rintro e w' ⟨rfl, hw⟩; have hw := hw.symm; subst hw))
  go_ret
  exact ⟨rfl, HP.out⟩

theorem left_any (p q : Nat) (st : Option (List Int)) (w : World) (h : IsR true w p q st) :
    Calls Tryz.prog 133 #[.pointer (some ⟨p, 0, none⟩)] w fun e w' => e = .returned (.int .i64 (rdLeft st)) ∧ w' = w := by
  have H := hide h
  obtain ⟨f0, f1, -, a, len, cap, hc, -, hs⟩ := h
  cases st with
  | none =>
    go_enter Tryz.func133, Tryz.ntmps133
    go_wp2_with (first | (go_at_call 95; refine (fine_any p q none _ H.out).mono ?_; rintro e w' ⟨rfl, hw⟩; have hw := hw.symm; subst hw))
    go_ret
    exact ⟨rfl, rfl⟩
  | some xs =>
    have hl := hs.2.1
    have HL : Hid (rdLeft (some xs) = (len : Int)) := by show ((xs.length : Nat) : Int) = _; rw [hl]
    clear hs hl
    go_enter Tryz.func133, Tryz.ntmps133
    go_wp2_with (first | (go_at_call 95; refine (fine_any p q (some xs) _ H.out).mono ?_; rintro e w' ⟨rfl, hw⟩; have hw := hw.symm; subst hw))
    go_ret
    exact ⟨ret1 HL.out.symm, rfl⟩

theorem end_any (p q : Nat) (st : Option (List Int)) (w : World) (h : IsR true w p q st) :
    Calls Tryz.prog 46 #[.pointer (some ⟨p, 0, none⟩)] w fun e w' => e = .returned (.int .i64 (rdEnd st)) ∧ w' = w := by
  have H := hide h
  obtain ⟨f0, f1, -, a, len, cap, hc, -, hs⟩ := h
  cases st with
  | none =>
    go_enter Tryz.func46, Tryz.ntmps46
    go_wp2_with (first | (go_at_call 95; refine (fine_any p q none _ H.out).mono ?_; rintro e w' ⟨rfl, hw⟩; have hw := hw.symm; subst hw))
    go_ret
    exact ⟨rfl, rfl⟩
  | some xs =>
    have hl := hs.2.1
    clear hs
    cases xs with
    | nil =>
      have h0 : len = 0 := hl.symm
      subst h0
      go_enter Tryz.func46, Tryz.ntmps46
      go_wp2_with (first | (go_at_call 95; refine (fine_any p q (some []) _ H.out).mono ?_; rintro e w' ⟨rfl, hw⟩; have hw := hw.symm; subst hw))
      go_ret
      exact ⟨rfl, rfl⟩
    | cons c r =>
      have h0 : 0 < len := by rw [← hl]; simp
      clear hl
      go_enter Tryz.func46, Tryz.ntmps46
      go_wp2_with (first | (go_at_call 95; refine (fine_any p q (some (c :: r)) _ H.out).mono ?_; rintro e w' ⟨rfl, hw⟩; have hw := hw.symm; subst hw))
      go_ret
      exact ⟨rfl, rfl⟩

end Go.Proofs.YtcgiicmmfleinaaGreatDoor

namespace Go.Proofs.YtcgiicmmfleinaaGreatDoor
open Go.RowKit NumMath
set_option linter.unusedVariables false

theorem isR_new (good : Bool) (t : TypeId) (w : World) (a : Option Addr) (n c : Nat) (xs : List Int) (g q : Nat) (hg : w.heap.size = g) (hB : IsBytes w a n c xs) (hq : n ≠ 0 → ∀ x, a = some x → x.block = q ∧ q < w.heap.size) (hq2 : q ≤ g) :
    IsR good (w.alloc (.cells #[.slice a n c, .bool good] t)) g q (some xs) := by
  subst hg
  exact ⟨by simp, by simp, by simp; omega, a, n, c, by simp, fun h0 x hx => ⟨(hq h0 x hx).1, by have := (hq h0 x hx).2; omega⟩, by simp, hB.keep (new_below _ _)⟩

/-- a slice of the call's own, whose block is told -/
theorem OwnB.block {w : World} {base : Nat} {v : Value} {bs : List Int} (h : OwnB w base v bs) (hr : ∀ c ∈ bs, 0 ≤ c ∧ c < 256) (d : Nat) : ∃ a n cap q, v = .slice a n cap ∧ IsBytes w a n cap bs ∧ (∀ x, a = some x → x.block = q ∧ q < w.heap.size ∧ base ≤ q) ∧ (a = none → q = d) := by
  rcases h.form with ⟨rfl, rfl⟩ | ⟨g, cap, rfl, hg1, hg2, hc, hm, hB⟩
  · exact ⟨none, 0, 0, d, rfl, ⟨rfl, Nat.le_refl _, by unfold maxLen; omega, hr, .inl rfl⟩, by (intro x hx; cases hx), fun _ => rfl⟩
  · exact ⟨_, _, cap, g, rfl, ⟨rfl, hc, hm, hr, .inr ⟨g, 0, rfl, hg2, fun i hi => by rw [Nat.zero_add]; exact hB i hi⟩⟩, by (intro x hx; cases hx; exact ⟨rfl, hg2, hg1⟩), by (intro e; cases e)⟩

set_option maxHeartbeats 400000 in
theorem read_any (a : Option Addr) (len cap : Nat) (xs : List Int) (w : World) (h : IsBytes w a len cap xs) (hl : len ≤ 1000000000) :
    Calls Tryz.prog 35 #[.slice a len cap] w fun e w' => ∃ p q, e = .returned (.pointer (some ⟨p, 0, none⟩)) ∧ w.heap.size ≤ p ∧ w.heap.size ≤ q ∧ IsR true w' p q (some xs) ∧ Below w.heap.size w w' := by
  have HS := hide h.src
  have HR := hide h.2.2.2.1
  clear h
  go_enter Tryz.func35, Tryz.ntmps35
  go_wp2_with (first
    | (go_at_call 88; refine (clone_src a len cap xs _ HS.out hl).mono ?_; rintro e w2 ⟨v2, rfl, hown2, hb2⟩; obtain ⟨a2, n2, c2, q2, rfl, hB2, hq2, hq3⟩ := hown2.block HR.out w2.heap.size; have HB2 := hide hB2; have HQ2 := hide hq2; have HQ3 := hide hq3; clear hown2 hB2 hq2 hq3))
  go_ret
  refine ⟨w2.heap.size, q2, rfl, hb2.size, ?_, isR_new true _ w2 a2 n2 c2 xs _ q2 rfl HB2.out (fun _ x hx => ⟨(HQ2.out x hx).1, (HQ2.out x hx).2.1⟩) (by cases a2 with | none => rw [HQ3.out rfl]; exact Nat.le_refl _ | some x => exact Nat.le_of_lt (HQ2.out x rfl).2.1), hb2.trans ((new_below _ _).mono hb2.size)⟩
  cases a2 with
  | none => rw [HQ3.out rfl]; exact hb2.size
  | some x => exact (HQ2.out x rfl).2.2

theorem OwnB.set {w : World} {base : Nat} {v : Value} {bs : List Int} (h : OwnB w base v bs) {p i : Nat} (hp : p < base) (u : Value) : OwnB (w.setCell ⟨p, i, none⟩ u) base v bs :=
  h.lies (fun g hg => Below.heap_setCell _ _ _ _ (by have := (World.ownsRow.lt h g hg).1; show g ≠ p; omega))

theorem rdT_neg (most : Int) (st : Option (List Int)) (h : most < 0) : rdT most st = ([], none) := by unfold rdT; rw [if_pos h]
theorem rdT_none (most : Int) (st : Option (List Int)) (h : ¬ most < 0) (h2 : (rdN most st).2 = none) : rdT most st = ([], none) := by unfold rdT; rw [if_neg h, h2]
theorem rdT_some (most : Int) (st : Option (List Int)) (h : ¬ most < 0) (xs : List Int) (h2 : (rdN most st).2 = some xs) (h3 : (rdN most st).1 ≤ xs.length) : rdT most st = (xs.take (rdN most st).1.toNat, some (xs.drop (rdN most st).1.toNat)) := by unfold rdT; rw [if_neg h, h2]; dsimp only; rw [if_pos h3]
theorem rdT_long (most : Int) (st : Option (List Int)) (h : ¬ most < 0) (xs : List Int) (h2 : (rdN most st).2 = some xs) (h3 : ¬ (rdN most st).1 ≤ xs.length) : rdT most st = ([], none) := by unfold rdT; rw [if_neg h, h2]; dsimp only; rw [if_neg h3]

theorem rdN_fails (most : Int) (st : Option (List Int)) (h : (rdN most st).2 = none) : (rdN most st).1 = 0 := by
  cases st with
  | none => rfl
  | some xs =>
    unfold rdN at h ⊢
    dsimp only at h ⊢
    cases hn : numAt xs with
    | none => rfl
    | some nr =>
      obtain ⟨n, r⟩ := nr
      rw [hn] at h
      dsimp only at h ⊢
      by_cases hm : (n : Int) ≤ most
      · rw [if_pos hm] at h; cases h
      · rw [if_neg hm]

theorem rdN_shorter (most : Int) (st : Option (List Int)) (hb : Byt st) (ys : List Int) (h : (rdN most st).2 = some ys) : (ys.length : Int) < rdLeft st := by
  cases st with
  | none => cases h
  | some xs =>
    unfold rdN at h
    dsimp only at h
    cases hn : numAt xs with
    | none => rw [hn] at h; cases h
    | some nr =>
      obtain ⟨n, r⟩ := nr
      rw [hn] at h
      dsimp only at h
      by_cases hm : (n : Int) ≤ most
      · rw [if_pos hm] at h
        cases h
        obtain ⟨s, h1, h2, hr, _⟩ := num_split (hb xs rfl) hn
        show ((List.length _ : Nat) : Int) < xs.length
        rw [hr, List.length_drop]
        omega
      · rw [if_neg hm] at h; cases h

theorem left_none (p q : Nat) (w : World) (h : IsR true w p q none) : Calls Tryz.prog 133 #[.pointer (some ⟨p, 0, none⟩)] w fun e w' => e = .returned (.int .i64 0) ∧ w' = w := left_any p q none w h
theorem left_some (p q : Nat) (xs : List Int) (w : World) (h : IsR true w p q (some xs)) : Calls Tryz.prog 133 #[.pointer (some ⟨p, 0, none⟩)] w fun e w' => e = .returned (.int .i64 xs.length) ∧ w' = w := left_any p q (some xs) w h

set_option maxHeartbeats 1000000 in
theorem rdT_any (p q : Nat) (st : Option (List Int)) (most : Int) (w : World) (h : IsR true w p q st) (h1 : most ≤ 9223372036854775807) (h1' : -9223372036854775808 ≤ most) (hbig : rdLeft st ≤ 1000000000) :
    Calls Tryz.prog 91 #[.pointer (some ⟨p, 0, none⟩), .int .i64 most] w fun e w' => ∃ v, e = .returned v ∧ OwnB w' w.heap.size v (rdT most st).1 ∧ RPost true w p q (rdT most st).2 w' := by
  have H := hide h
  by_cases hneg : most < 0
  · have HX := hide (rdT_neg most st hneg)
    clear h
    go_enter Tryz.func91, Tryz.ntmps91
    go_wp2_with (first
      | (go_at_call 131; refine (fail_any p q st _ H.out).mono ?_; rintro e w2 ⟨rfl, hpost⟩; have HP := hide hpost; clear hpost))
    go_ret
    rw [HX.out]
    exact ⟨_, rfl, ownB_nil _ _, HP.out⟩
  · obtain ⟨r1, r2, -⟩ := rdN_range most st h.byt (by omega)
    have HC := hide (fun w h => rdN_any p q st most w h (by omega) (by omega))
    have H0 := hide (rdT_none most st hneg)
    have H3 := hide (rdT_some most st hneg)
    have H4 := hide (rdT_long most st hneg)
    have HLn := hide (rdN_shorter most st h.byt)
    have HZ := hide (rdN_fails most st)
    have hp0 := h.at
    clear h
    generalize rdN most st = ns at *
    generalize rdT most st = tr at *
    obtain ⟨n, st1⟩ := ns
    dsimp only at *
    cases st1 with
    | none =>
      have HX := hide (H0.out rfl)
      have hn0 := HZ.out rfl
      subst hn0
      go_enter Tryz.func91, Tryz.ntmps91
      go_wp2_with (first
        | (go_at_call 89; refine (HC.out _ H.out).mono ?_; rintro e w2 ⟨rfl, hpost⟩; have HP := hide hpost; clear hpost)
        | (go_at_call 133; refine (left_none p q _ HP.out.1).mono ?_; rintro e w' ⟨rfl, hw⟩; have hw := hw.symm; subst hw)
        | (go_at_call 95; refine (fine_any p q none _ HP.out.1).mono ?_; rintro e w' ⟨rfl, hw⟩; have hw := hw.symm; subst hw))
      go_ret
      rw [HX.out]
      exact ⟨_, rfl, ownB_nil _ _, HP.out⟩
    | some ys =>
      have hyl := HLn.out ys rfl
      have hyl' : ys.length ≤ 1000000000 := by omega
      by_cases hfit : n ≤ (ys.length : Int)
      · have HX := hide (H3.out ys rfl hfit)
        obtain ⟨N, rfl⟩ := Int.eq_ofNat_of_zero_le r1
        have hN : N ≤ ys.length := by omega
        have HTk : Hid (((N : Int)).toNat = N) := Int.toNat_natCast N
        clear H0 H3 H4 HZ HLn hyl
        go_enter Tryz.func91, Tryz.ntmps91
        go_wp2_with (first
          | (go_at_call 89; refine (HC.out _ H.out).mono ?_; rintro e w2 ⟨rfl, hpost⟩; have HP := hide hpost; have hsz2 := hpost.2.size; have hfl := hpost.1.flag; simp only [Option.isSome_some, if_true] at hfl; obtain ⟨f0, f1, -, a, len, cap, hc, ha, -, hB⟩ := hpost.1; have HA := hide ha; have HB := hide hB; have hlen := hB.1; have hlc := hB.2.1; have hmx := hB.2.2.1; unfold maxLen at hmx; clear hpost ha hB)
          | (go_at_call 133; refine (left_some p q ys _ HP.out.1).mono ?_; rintro e w' ⟨rfl, hw⟩; have hw := hw.symm; subst hw)
          | (go_at_call 95; refine (fine_any p q (some ys) _ HP.out.1).mono ?_; rintro e w' ⟨rfl, hw⟩; have hw := hw.symm; subst hw))
        cases a with
        | none =>
          have h0 : len = 0 := by
            rcases HB.out.2.2.2.2 with h | ⟨g, off, h, _⟩
            · exact h
            · cases h
          subst h0
          have hN0 : N = 0 := by omega
          subst hN0
          have HX2 : Hid (tr = ([], some ys)) := by
            show _ = _
            rw [HX.out, HTk.out, List.take_zero, List.drop_zero]
          go_wp2_with (first
            | (go_at_call 88; refine (clone_src none 0 cap [] _ ⟨rfl, .inl rfl⟩ (by omega)).mono ?_; rintro e w3 ⟨v3, rfl, hown3, hb3⟩; have HO3 := hide hown3; have HP3 := hide (HP.out.behind hb3); have HB3 := hide (HB.out.keep hb3); have hc3 := (hb3.cell (p := ⟨p, 0, none⟩) (by show p < _; omega)).trans hc; have f03 := (hb3.frozen (p := ⟨p, 0, none⟩) (by show p < _; omega)).trans f0; have hfl3 := (hb3.cell (p := ⟨p, 1, none⟩) (by show p < _; omega)).trans hfl; clear hown3 hb3))
          go_ret
          rw [HX2.out]
          exact ⟨v3, rfl, (HO3.out.set (by omega) _).mono hsz2, HP3.out.trans (rpost_set HP3.out.1 hfl3 (a' := none) (n' := 0) (c' := cap) (xs := ys) (by intro _ x hx; cases hx) HB3.out)⟩
        | some x =>
          by_cases h0 : len = 0
          · subst h0
            have hN0 : N = 0 := by omega
            subst hN0
            have HX2 : Hid (tr = ([], some ys)) := by
              show _ = _
              rw [HX.out, HTk.out, List.take_zero, List.drop_zero]
            by_cases hcap : cap = 0
            · subst hcap
              go_wp2_with (first
                | (go_at_call 88; refine (clone_src (some x) 0 0 [] _ ⟨rfl, .inl rfl⟩ (by omega)).mono ?_; rintro e w3 ⟨v3, rfl, hown3, hb3⟩; have HO3 := hide hown3; have HP3 := hide (HP.out.behind hb3); have HB3 := hide (HB.out.keep hb3); have hc3 := (hb3.cell (p := ⟨p, 0, none⟩) (by show p < _; omega)).trans hc; have f03 := (hb3.frozen (p := ⟨p, 0, none⟩) (by show p < _; omega)).trans f0; have hfl3 := (hb3.cell (p := ⟨p, 1, none⟩) (by show p < _; omega)).trans hfl; clear hown3 hb3))
              go_ret
              rw [HX2.out]
              exact ⟨v3, rfl, (HO3.out.set (by omega) _).mono hsz2, HP3.out.trans (rpost_set HP3.out.1 hfl3 (a' := some x) (n' := 0) (c' := 0) (xs := ys) (fun h => absurd rfl h) HB3.out)⟩
            · go_wp2_with (first
                | (go_at_call 88; refine (clone_src (some x) 0 cap [] _ ⟨rfl, .inl rfl⟩ (by omega)).mono ?_; rintro e w3 ⟨v3, rfl, hown3, hb3⟩; have HO3 := hide hown3; have HP3 := hide (HP.out.behind hb3); have HB3 := hide (HB.out.keep hb3); have hc3 := (hb3.cell (p := ⟨p, 0, none⟩) (by show p < _; omega)).trans hc; have f03 := (hb3.frozen (p := ⟨p, 0, none⟩) (by show p < _; omega)).trans f0; have hfl3 := (hb3.cell (p := ⟨p, 1, none⟩) (by show p < _; omega)).trans hfl; clear hown3 hb3))
              go_ret
              rw [HX2.out]
              exact ⟨v3, rfl, (HO3.out.set (by omega) _).mono hsz2, HP3.out.trans (rpost_set HP3.out.1 hfl3 (a' := some x) (n' := 0) (c' := cap) (xs := ys) (fun h => absurd rfl h) HB3.out)⟩
          · obtain ⟨g, off, e, hg, -⟩ := HB.out.at (k := 0) (by omega)
            cases e
            have HQ := hide (HA.out h0 _ rfl)
            have HT := hide (SrcB.take HB.out N (by omega))
            rw [HTk.out] at HX
            by_cases hcs : cap = N
            · subst hcs
              have hcl : len = cap := by omega
              subst hcl
              go_wp2_with (first
                | (go_at_call 88; refine (clone_src (some ⟨g, off, none⟩) _ _ _ _ HT.out (by omega)).mono ?_; rintro e w3 ⟨v3, rfl, hown3, hb3⟩; have HO3 := hide hown3; have HP3 := hide (HP.out.behind hb3); have HB3 := hide (HB.out.keep hb3); have hc3 := (hb3.cell (p := ⟨p, 0, none⟩) (by show p < _; omega)).trans hc; have f03 := (hb3.frozen (p := ⟨p, 0, none⟩) (by show p < _; omega)).trans f0; have hfl3 := (hb3.cell (p := ⟨p, 1, none⟩) (by show p < _; omega)).trans hfl; clear hown3 hb3))
              go_ret
              rw [HX.out]
              exact ⟨v3, rfl, (HO3.out.set (by omega) _).mono hsz2, HP3.out.trans (rpost_set HP3.out.1 hfl3 (a' := some ⟨g, off, none⟩) (n' := 0) (c' := 0) (by intro _ x hx; cases hx; exact HQ.out) (by have h := HB3.out.drop0 (Nat.le_refl _); rw [Nat.sub_self] at h; exact h))⟩
            · go_wp2_with (first
                | (go_at_call 88; refine (clone_src (some ⟨g, off, none⟩) N cap _ _ HT.out (by omega)).mono ?_; rintro e w3 ⟨v3, rfl, hown3, hb3⟩; have HO3 := hide hown3; have HP3 := hide (HP.out.behind hb3); have HB3 := hide (HB.out.keep hb3); have hc3 := (hb3.cell (p := ⟨p, 0, none⟩) (by show p < _; omega)).trans hc; have f03 := (hb3.frozen (p := ⟨p, 0, none⟩) (by show p < _; omega)).trans f0; have hfl3 := (hb3.cell (p := ⟨p, 1, none⟩) (by show p < _; omega)).trans hfl; clear hown3 hb3))
              go_ret
              rw [HX.out]
              exact ⟨v3, rfl, (HO3.out.set (by omega) _).mono hsz2, HP3.out.trans (rpost_set HP3.out.1 hfl3 (a' := some ⟨g, off + N, none⟩) (n' := len - N) (c' := cap - N) (by intro _ x hx; cases hx; exact HQ.out) (HB3.out.drop N (by omega)))⟩
      · have HX := hide (H4.out ys rfl hfit)
        clear H0 H3 H4 HZ HLn hyl
        go_enter Tryz.func91, Tryz.ntmps91
        go_wp2_with (first
          | (go_at_call 89; refine (HC.out _ H.out).mono ?_; rintro e w2 ⟨rfl, hpost⟩; have HP := hide hpost; clear hpost)
          | (go_at_call 133; refine (left_some p q ys _ HP.out.1).mono ?_; rintro e w' ⟨rfl, hw⟩; have hw := hw.symm; subst hw)
          | (go_at_call 131; refine (fail_any p q (some ys) _ HP.out.1).mono ?_; rintro e w3 ⟨rfl, hpost⟩; have HP3 := hide (HP.out.trans hpost); clear hpost)
          | (go_at_call 95; refine (fine_any p q none _ HP3.out.1).mono ?_; rintro e w' ⟨rfl, hw⟩; have hw := hw.symm; subst hw))
        go_ret
        rw [HX.out]
        exact ⟨_, rfl, ownB_nil _ _, HP3.out⟩

end Go.Proofs.YtcgiicmmfleinaaGreatDoor

namespace Go.Proofs.YtcgiicmmfleinaaGreatDoor
open Go.RowKit NumMath
set_option linter.unusedVariables false

theorem pow128_9 : (128 : Nat) ^ 9 = 9223372036854775808 := by decide

/-- a number that was begun with k groups is not small -/
theorem grown_step (k m : Nat) (c : Int) (h1 : 0 ≤ c) (hk : k = 0 ∨ 128 ^ (k - 1) ≤ m) (h0 : k = 0 → ¬ c = 128) (hc : ¬ c < 128) (h2 : c < 256) : 128 ^ k ≤ m * 128 + (c % 128).toNat := by
  rcases hk with h | h
  · subst h
    have := h0 rfl
    rw [Nat.pow_zero]
    omega
  · by_cases hk0 : k = 0
    · subst hk0
      have := h0 rfl
      rw [Nat.pow_zero]
      omega
    · have e : 128 ^ k = 128 ^ (k - 1) * 128 := by rw [← Nat.pow_succ]; congr 1; omega
      rw [e]
      omega

theorem rdN_fst (most : Int) (xs : List Int) (h : numAt xs = none) : rdN most (some xs) = (0, none) := by unfold rdN; dsimp only; rw [h]
theorem rdN_big (most : Int) (xs : List Int) (n : Nat) (r : List Int) (h : numAt xs = some (n, r)) (hm : ¬ (n : Int) ≤ most) : rdN most (some xs) = (0, none) := by unfold rdN; dsimp only; rw [h]; dsimp only; rw [if_neg hm]
theorem rdN_fit (most : Int) (xs : List Int) (n : Nat) (r : List Int) (h : numAt xs = some (n, r)) (hm : (n : Int) ≤ most) : rdN most (some xs) = ((n : Int), some r) := by unfold rdN; dsimp only; rw [h]; dsimp only; rw [if_pos hm]

theorem scan_mul (c : Int) (m : Nat) (h1 : 0 ≤ c) (h2 : c < 256) (hm : m < 144115188075855872) : (m : Int) * 128 + c % 128 = ((m * 128 + (c % 128).toNat : Nat) : Int) := by omega

set_option maxRecDepth 20000 in
set_option maxHeartbeats 2000000 in
theorem xN_any (p q : Nat) (st : Option (List Int)) (most : Int) (w : World) (h : IsR false w p q st) (h1 : 0 ≤ most) (h2 : most ≤ 18446744073709551615) :
    Calls Tryz.prog 47 #[.pointer (some ⟨p, 0, none⟩), .int .u64 most] w fun e w' => e = .returned (.int .u64 (rdN most st).1) ∧ RPost false w p q (rdN most st).2 w' := by
  have H := hide h
  cases st with
  | none =>
    obtain ⟨f0, f1, -, a, len, cap, hc, -, -, e⟩ := h
    cases e
    go_enter Tryz.func47, Tryz.ntmps47
    go_wp2
    go_loopw [6] (fun i wr => i = .int .i64 0 ∧ wr = w) (fun _ _ => 0)
    case atStart => exact ⟨rfl, rfl⟩
    case round =>
      obtain ⟨rfl, rfl⟩ := hrel
      go_wp2_with (first | (go_at_call 96; refine (xfail_any p q none _ H.out).mono ?_; rintro e w2 ⟨rfl, hpost⟩; have HP := hide hpost; clear hpost))
      go_ret
      exact ⟨rfl, HP.out⟩
  | some xs =>
    have hf := h.flag
    simp only [Option.isSome_some, if_true] at hf
    obtain ⟨f0, f1, -, a, len, cap, hc, ha, -, hB⟩ := h
    have HA := hide ha
    have HB := hide hB
    have hlen := hB.1
    have hlc := hB.2.1
    have hmx := hB.2.2.1
    unfold maxLen at hmx
    have HL : Hid (xs.length = len) := hlen
    clear ha hB hlen
    go_enter Tryz.func47, Tryz.ntmps47
    go_wp2
    go_loopw [5, 6] (fun n i wr => ∃ k m : Nat, k ≤ len ∧ k ≤ 10 ∧ i = .int .i64 k ∧ n = .int .u64 m ∧ m < 18446744073709551616 ∧ (k = 0 ∨ 128 ^ (k - 1) ≤ m) ∧ scan (decide (k = 0)) m (xs.drop k) = numAt xs ∧ wr = w) (fun _ i _ => len - (intOf i).toNat)
    case atStart => exact ⟨0, 0, Nat.zero_le _, by omega, rfl, rfl, by omega, .inl rfl, rfl, rfl⟩
    case round =>
      obtain ⟨k, m, hk, hk10, rfl, rfl, hm, hgr, hscan, hw⟩ := hrel
      subst hw
      have HC := hide hscan
      have HG := hide hgr
      clear hscan hgr
      by_cases hlt : k < len
      · obtain ⟨g, off, rfl, hg, hB⟩ := HB.out.at hlt
        have hk' : k < xs.length := by rw [HL.out]; exact hlt
        have hcl := hB k hk'
        have HD := hide (dropAt xs k hk')
        obtain ⟨c1, c2⟩ := HB.out.nth k
        generalize xs.getD k 0 = c at *
        clear hB hk'
        have HQ := hide (HA.out (by omega) _ rfl)
        by_cases h10 : k = 10
        · subst h10
          have HX : Hid (numAt xs = none) := by
            show _ = _
            have h5 := HG.out
            have h6 := pow128_9
            rw [← HC.out, HD.out, scan, if_pos (.inr (by omega))]
          have HY := hide (rdN_fst most xs HX.out)
          go_wp2_with (first | (go_at_call 96; refine (xfail_any p q (some xs) _ H.out).mono ?_; rintro e w2 ⟨rfl, hpost⟩; have HP := hide hpost; clear hpost))
          go_ret
          rw [HY.out]
          exact ⟨rfl, HP.out⟩
        · have hk9 : k < 10 := by omega
          by_cases hb1 : k = 0 ∧ c = 128
          · obtain ⟨rfl, rfl⟩ := hb1
            rw [Nat.add_zero] at hcl
            have HX : Hid (numAt xs = none) := by
              show _ = _
              rw [← HC.out, HD.out, scan, if_pos (.inl ⟨rfl, rfl⟩)]
            have HY := hide (rdN_fst most xs HX.out)
            go_wp2_with (first | (go_at_call 96; refine (xfail_any p q (some xs) _ H.out).mono ?_; rintro e w2 ⟨rfl, hpost⟩; have HP := hide hpost; clear hpost))
            go_ret
            rw [HY.out]
            exact ⟨rfl, HP.out⟩
          · by_cases hb2 : (144115188075855872 : Int) ≤ (m : Int)
            · have HX : Hid (numAt xs = none) := by
                show _ = _
                rw [← HC.out, HD.out, scan, if_pos (.inr (by omega))]
              have HY := hide (rdN_fst most xs HX.out)
              by_cases hk0 : k = 0
              · have hc128 : ¬ c = 128 := fun e => hb1 ⟨hk0, e⟩
                have hcb : (c == 128) = false := by simpa using hc128
                subst hk0
                rw [Nat.add_zero] at hcl
                go_wp2_with (first | (go_at_call 96; refine (xfail_any p q (some xs) _ H.out).mono ?_; rintro e w2 ⟨rfl, hpost⟩; have HP := hide hpost; clear hpost))
                go_ret
                rw [HY.out]
                exact ⟨rfl, HP.out⟩
              · have hkb : ((k : Int) == 0) = false := by simpa using hk0
                go_wp2_with (first | (go_at_call 96; refine (xfail_any p q (some xs) _ H.out).mono ?_; rintro e w2 ⟨rfl, hpost⟩; have HP := hide hpost; clear hpost))
                go_ret
                rw [HY.out]
                exact ⟨rfl, HP.out⟩
            · have HE := hide (scan_mul c m c1 c2 (by omega))
              by_cases hb3 : c < 128
              · have HX : Hid (numAt xs = some (m * 128 + (c % 128).toNat, xs.drop (k + 1))) := by
                  show _ = _
                  rw [← HC.out, HD.out, scan, if_neg, if_pos hb3]
                  rintro (⟨h, h'⟩ | h)
                  · exact hb1 ⟨of_decide_eq_true h, h'⟩
                  · exact hb2 (by omega)
                by_cases hmost : (m : Int) * 128 + c % 128 ≤ most
                · have HY := hide (rdN_fit most xs _ _ HX.out (by have := HE.out; omega))
                  by_cases hk0 : k = 0
                  · have hc128 : ¬ c = 128 := fun e => hb1 ⟨hk0, e⟩
                    have hcb : (c == 128) = false := by simpa using hc128
                    subst hk0
                    rw [Nat.add_zero] at hcl
                    by_cases hcs : cap = 1
                    · have hl1 : len - 1 = 0 := by omega
                      have HP := hide (rpost_set H.out hf (a' := some ⟨g, off, none⟩) (n' := 0) (c' := 0) (xs := xs.drop (1)) (by intro _ x hx; cases hx; exact HQ.out) (by have h := HB.out.drop0 (by omega); rw [hcs, hl1] at h; exact h))
                      go_wp2
                      go_ret
                      rw [HY.out]
                      exact ⟨ret1 HE.out, HP.out⟩
                    · have HP := hide (rpost_set H.out hf (a' := some ⟨g, off + (1), none⟩) (n' := len - (1)) (c' := cap - (1)) (xs := xs.drop (1)) (by intro _ x hx; cases hx; exact HQ.out) (HB.out.drop (1) (by omega)))
                      go_wp2
                      go_ret
                      rw [HY.out]
                      exact ⟨ret1 HE.out, HP.out⟩
                  · have hkb : ((k : Int) == 0) = false := by simpa using hk0
                    by_cases hcs : cap = k + 1
                    · have hl1 : len - (k + 1) = 0 := by omega
                      have HP := hide (rpost_set H.out hf (a' := some ⟨g, off, none⟩) (n' := 0) (c' := 0) (xs := xs.drop (k + 1)) (by intro _ x hx; cases hx; exact HQ.out) (by have h := HB.out.drop0 (by omega); rw [hcs, hl1] at h; exact h))
                      go_wp2
                      go_ret
                      rw [HY.out]
                      exact ⟨ret1 HE.out, HP.out⟩
                    · have HP := hide (rpost_set H.out hf (a' := some ⟨g, off + (k + 1), none⟩) (n' := len - (k + 1)) (c' := cap - (k + 1)) (xs := xs.drop (k + 1)) (by intro _ x hx; cases hx; exact HQ.out) (HB.out.drop (k + 1) (by omega)))
                      go_wp2
                      go_ret
                      rw [HY.out]
                      exact ⟨ret1 HE.out, HP.out⟩
                · have HY := hide (rdN_big most xs _ _ HX.out (by have := HE.out; omega))
                  by_cases hk0 : k = 0
                  · have hc128 : ¬ c = 128 := fun e => hb1 ⟨hk0, e⟩
                    have hcb : (c == 128) = false := by simpa using hc128
                    subst hk0
                    rw [Nat.add_zero] at hcl
                    go_wp2_with (first | (go_at_call 96; refine (xfail_any p q (some xs) _ H.out).mono ?_; rintro e w2 ⟨rfl, hpost⟩; have HP := hide hpost; clear hpost))
                    go_ret
                    rw [HY.out]
                    exact ⟨rfl, HP.out⟩
                  · have hkb : ((k : Int) == 0) = false := by simpa using hk0
                    go_wp2_with (first | (go_at_call 96; refine (xfail_any p q (some xs) _ H.out).mono ?_; rintro e w2 ⟨rfl, hpost⟩; have HP := hide hpost; clear hpost))
                    go_ret
                    rw [HY.out]
                    exact ⟨rfl, HP.out⟩
              · have HX : Hid (scan (decide (k + 1 = 0)) (m * 128 + (c % 128).toNat) (xs.drop (k + 1)) = numAt xs) := by
                  show _ = _
                  rw [← HC.out, HD.out, scan.eq_def (decide (k = 0)) m (c :: xs.drop (k + 1))]
                  dsimp only
                  rw [if_neg, if_neg hb3]
                  · rfl
                  · rintro (⟨h, h'⟩ | h)
                    · exact hb1 ⟨of_decide_eq_true h, h'⟩
                    · exact hb2 (by omega)
                have HGr := hide (grown_step k m c c1 HG.out (fun e e' => hb1 ⟨e, e'⟩) hb3 c2)
                by_cases hk0 : k = 0
                · have hc128 : ¬ c = 128 := fun e => hb1 ⟨hk0, e⟩
                  have hcb : (c == 128) = false := by simpa using hc128
                  subst hk0
                  rw [Nat.add_zero] at hcl
                  go_wp2
                  go_roundw
                  case rel => exact ⟨1, m * 128 + (c % 128).toNat, by omega, by omega, rfl, by rw [HE.out], by omega, .inr HGr.out, HX.out, (by first | rfl | trivial)⟩
                  case measure => simp [intOf]; omega
                · have hkb : ((k : Int) == 0) = false := by simpa using hk0
                  go_wp2
                  go_roundw
                  case rel => exact ⟨k + 1, m * 128 + (c % 128).toNat, by omega, by omega, by go_num, by rw [HE.out], by omega, .inr HGr.out, HX.out, (by first | rfl | trivial)⟩
                  case measure => simp [intOf]; omega
      · have hkl : k = len := by omega
        subst hkl
        have HX : Hid (numAt xs = none) := by
          show _ = _
          rw [← HC.out, List.drop_of_length_le (by rw [HL.out]; exact Nat.le_refl _), scan_nil]
        have HY := hide (rdN_fst most xs HX.out)
        go_wp2_with (first | (go_at_call 96; refine (xfail_any p q (some xs) _ H.out).mono ?_; rintro e w2 ⟨rfl, hpost⟩; have HP := hide hpost; clear hpost))
        go_ret
        rw [HY.out]
        exact ⟨rfl, HP.out⟩

end Go.Proofs.YtcgiicmmfleinaaGreatDoor

namespace Go.Proofs.YtcgiicmmfleinaaGreatDoor
open Go.RowKit NumMath
set_option linter.unusedVariables false

theorem SrcB.conv {w : World} {a : Option Addr} {len cap : Nat} {xs : List Int} (h : SrcB w a len xs) : (convert 39 9 (.slice a len cap)).run Tryz.prog w = .ok (.string (strB xs)) w := by
  obtain ⟨h1, h5⟩ := h
  rcases h5 with h5 | ⟨g, off, rfl, hg, hB⟩
  · subst h5
    have : xs = [] := List.length_eq_zero_iff.1 h1
    subst this
    exact conv_none w a cap
  · exact run_convert_bytes_arg w 39 5 Tryz.underlying39 Tryz.underlying5 g off len cap xs h1 (fun i hi => hB i (by omega)) 9 Tryz.underlying9

theorem zag_odd (n : Int) (h : n % 2 = 1) : zagV n = -(n / 2) - 1 := by unfold zagV; rw [if_neg (by omega)]; omega
theorem zag_even (n : Int) (h : ¬ n % 2 = 1) : zagV n = n / 2 := by unfold zagV; rw [if_pos (by omega)]

set_option maxHeartbeats 400000 in
theorem xI_any (p q : Nat) (st : Option (List Int)) (w : World) (h : IsR false w p q st) :
    Calls Tryz.prog 48 #[.pointer (some ⟨p, 0, none⟩)] w fun e w' => e = .returned (.int .i64 (rdI st).1) ∧ RPost false w p q (rdI st).2 w' := by
  have H := hide h
  obtain ⟨r1, r2, -⟩ := rdN_range 18446744073709551615 st h.byt (by omega)
  clear h
  unfold rdI
  dsimp only
  have HC := hide (fun w h => xN_any p q st 18446744073709551615 w h (by omega) (by omega))
  generalize rdN 18446744073709551615 st = ns at *
  obtain ⟨n, s⟩ := ns
  dsimp only at *
  by_cases hodd : n % 2 = 1
  · have HZ := hide (zag_odd n hodd)
    have hodd' : (n % 2 == 1) = true := by simpa using hodd
    go_enter Tryz.func48, Tryz.ntmps48
    go_wp2_with (first
      | (go_at_call 47; refine (HC.out _ H.out).mono ?_; rintro e w2 ⟨rfl, hpost⟩; have HP := hide hpost; clear hpost))
    go_ret
    exact ⟨ret1 HZ.out.symm, HP.out⟩
  · have HZ := hide (zag_even n hodd)
    have hodd' : (n % 2 == 1) = false := by simpa using hodd
    go_enter Tryz.func48, Tryz.ntmps48
    go_wp2_with (first
      | (go_at_call 47; refine (HC.out _ H.out).mono ?_; rintro e w2 ⟨rfl, hpost⟩; have HP := hide hpost; clear hpost))
    go_ret
    exact ⟨ret1 HZ.out.symm, HP.out⟩

theorem xend_any (p q : Nat) (st : Option (List Int)) (w : World) (h : IsR false w p q st) :
    Calls Tryz.prog 50 #[.pointer (some ⟨p, 0, none⟩)] w fun e w' => e = .returned (.int .i64 (rdEnd st)) ∧ w' = w := by
  have hf := h.flag
  obtain ⟨f0, f1, -, a, len, cap, hc, -, hs⟩ := h
  cases st with
  | none =>
    simp only [Option.isSome_none, Bool.false_eq_true, if_false, Bool.not_false] at hf
    clear hs
    go_enter Tryz.func50, Tryz.ntmps50
    go_wp2
    go_ret
    exact ⟨rfl, rfl⟩
  | some xs =>
    simp only [Option.isSome_some, if_true] at hf
    have hl := hs.2.1
    clear hs
    cases xs with
    | nil =>
      have h0 : len = 0 := hl.symm
      subst h0
      go_enter Tryz.func50, Tryz.ntmps50
      go_wp2
      go_ret
      exact ⟨rfl, rfl⟩
    | cons c r =>
      have h0 : 0 < len := by rw [← hl]; simp
      clear hl
      go_enter Tryz.func50, Tryz.ntmps50
      go_wp2
      go_ret
      exact ⟨rfl, rfl⟩

/-- a text that the reference told: bytes of the block q -/
def TextPost (w : World) (p q : Nat) (r : List Int × Option (List Int)) (e : Ending) (w' : World) : Prop :=
  ∃ a n c, e = .returned (.slice a n c) ∧ SrcB w' a n r.1 ∧ (n ≠ 0 → ∀ x, a = some x → x.block = q ∧ q ≠ p) ∧ RPost false w p q r.2 w' ∧ n ≤ c ∧ c ≤ maxLen

set_option maxHeartbeats 1000000 in
theorem xT_any (p q : Nat) (st : Option (List Int)) (most : Int) (w : World) (h : IsR false w p q st) (h1 : most ≤ 9223372036854775807) (h1' : -9223372036854775808 ≤ most) (hbig : rdLeft st ≤ 1000000000) :
    Calls Tryz.prog 49 #[.pointer (some ⟨p, 0, none⟩), .int .i64 most] w fun e w' => TextPost w p q (rdT most st) e w' := by
  have H := hide h
  by_cases hneg : most < 0
  · have HX := hide (rdT_neg most st hneg)
    clear h
    go_enter Tryz.func49, Tryz.ntmps49
    go_wp2_with (first
      | (go_at_call 96; refine (xfail_any p q st _ H.out).mono ?_; rintro e w2 ⟨rfl, hpost⟩; have HP := hide hpost; clear hpost))
    go_ret
    rw [HX.out]
    exact ⟨none, 0, 0, rfl, ⟨rfl, .inl rfl⟩, by (intro _ x hx; cases hx), HP.out, Nat.le_refl _, Nat.zero_le _⟩
  · obtain ⟨r1, r2, -⟩ := rdN_range most st h.byt (by omega)
    have HC := hide (fun w h => xN_any p q st most w h (by omega) (by omega))
    have H0 := hide (rdT_none most st hneg)
    have H3 := hide (rdT_some most st hneg)
    have H4 := hide (rdT_long most st hneg)
    have HLn := hide (rdN_shorter most st h.byt)
    have hp0 := h.at
    clear h
    generalize rdN most st = ns at *
    generalize rdT most st = tr at *
    obtain ⟨n, st1⟩ := ns
    dsimp only at *
    cases st1 with
    | none =>
      have HX := hide (H0.out rfl)
      go_enter Tryz.func49, Tryz.ntmps49
      go_wp2_with (first
        | (go_at_call 47; refine (HC.out _ H.out).mono ?_; rintro e w2 ⟨rfl, hpost⟩; have hfl := hpost.1.flag; simp only [Option.isSome_none, Bool.false_eq_true, if_false, Bool.not_false] at hfl; have HP := hide hpost; clear hpost)
        | (go_at_call 96; refine (xfail_any p q none _ HP.out.1).mono ?_; rintro e w3 ⟨rfl, hpost⟩; have HP3 := hide (HP.out.trans hpost); clear hpost))
      go_ret
      rw [HX.out]
      exact ⟨none, 0, 0, rfl, ⟨rfl, .inl rfl⟩, by (intro _ x hx; cases hx), HP3.out, Nat.le_refl _, Nat.zero_le _⟩
    | some ys =>
      have hyl := HLn.out ys rfl
      have hyl' : ys.length ≤ 1000000000 := by omega
      by_cases hfit : n ≤ (ys.length : Int)
      · have HX := hide (H3.out ys rfl hfit)
        obtain ⟨N, rfl⟩ := Int.eq_ofNat_of_zero_le r1
        have hN : N ≤ ys.length := by omega
        have HTk : Hid (((N : Int)).toNat = N) := Int.toNat_natCast N
        clear H0 H3 H4 HLn hyl
        go_enter Tryz.func49, Tryz.ntmps49
        go_wp2_with fail
        refine (HC.out _ H.out).mono ?_
        rintro e w2 ⟨rfl, hpost⟩
        have HP := hide hpost
        have hsz2 := hpost.2.size
        have hfl := hpost.1.flag
        simp only [Option.isSome_some, if_true] at hfl
        obtain ⟨f0, f1, -, a, len, cap, hc, ha, -, hB⟩ := hpost.1
        have HA := hide ha
        have HB := hide hB
        have hlen := hB.1
        have hlc := hB.2.1
        have hmx := hB.2.2.1
        unfold maxLen at hmx
        clear hpost ha hB
        cases a with
        | none =>
          have h0 : len = 0 := by
            rcases HB.out.2.2.2.2 with h | ⟨g, off, h, _⟩
            · exact h
            · cases h
          subst h0
          have hN0 : N = 0 := by omega
          subst hN0
          have HX2 : Hid (tr = ([], some ys)) := by
            show _ = _
            rw [HX.out, HTk.out, List.take_zero, List.drop_zero]
          go_wp2
          go_ret
          rw [HX2.out]
          exact ⟨none, 0, cap, rfl, ⟨rfl, .inl rfl⟩, (fun h => absurd rfl h), HP.out.trans (rpost_set HP.out.1 hfl (a' := none) (n' := 0) (c' := cap) (fun h => absurd rfl h) HB.out), by omega, by unfold maxLen; omega⟩
        | some x =>
          by_cases h0 : len = 0
          · subst h0
            have hN0 : N = 0 := by omega
            subst hN0
            have HX2 : Hid (tr = ([], some ys)) := by
              show _ = _
              rw [HX.out, HTk.out, List.take_zero, List.drop_zero]
            by_cases hcap : cap = 0
            · subst hcap
              go_wp2
              go_ret
              rw [HX2.out]
              exact ⟨some x, 0, 0, rfl, ⟨rfl, .inl rfl⟩, (fun h => absurd rfl h), HP.out.trans (rpost_set HP.out.1 hfl (a' := some x) (n' := 0) (c' := 0) (fun h => absurd rfl h) HB.out), by omega, by unfold maxLen; omega⟩
            · skip
              go_wp2
              go_ret
              rw [HX2.out]
              exact ⟨some x, 0, cap, rfl, ⟨rfl, .inl rfl⟩, (fun h => absurd rfl h), HP.out.trans (rpost_set HP.out.1 hfl (a' := some x) (n' := 0) (c' := cap) (fun h => absurd rfl h) HB.out), by omega, by unfold maxLen; omega⟩
          · obtain ⟨g, off, e, hg, -⟩ := HB.out.at (k := 0) (by omega)
            cases e
            have HQ := hide (HA.out h0 _ rfl)
            have HT := hide (SrcB.take HB.out N (by omega))
            rw [HTk.out] at HX
            by_cases hcs : cap = N
            · subst hcs
              have hcl : len = cap := by omega
              subst hcl
              go_wp2
              go_ret
              rw [HX.out]
              exact ⟨some ⟨g, off, none⟩, _, _, rfl, (HT.out).lies (Keeps.set (p := p) (i := 0) _) (fun x hx => by have h := HA.out h0 x hx; rw [h.1]; exact h.2), (fun _ => HA.out h0), HP.out.trans (rpost_set HP.out.1 hfl (a' := some ⟨g, off, none⟩) (n' := 0) (c' := 0) (fun h => absurd rfl h) (by have h := HB.out.drop0 (Nat.le_refl _); rw [Nat.sub_self] at h; exact h)), by omega, by unfold maxLen; omega⟩
            · skip
              go_wp2
              go_ret
              rw [HX.out]
              exact ⟨some ⟨g, off, none⟩, N, cap, rfl, (HT.out).lies (Keeps.set (p := p) (i := 0) _) (fun x hx => by have h := HA.out h0 x hx; rw [h.1]; exact h.2), (fun _ => HA.out h0), HP.out.trans (rpost_set HP.out.1 hfl (a' := some ⟨g, off + N, none⟩) (n' := len - N) (c' := cap - N) (by intro _ x hx; cases hx; exact HQ.out) (HB.out.drop N (by omega))), by omega, by unfold maxLen; omega⟩
      · have HX := hide (H4.out ys rfl hfit)
        clear H0 H3 H4
        go_enter Tryz.func49, Tryz.ntmps49
        go_wp2_with (first
          | (go_at_call 47; refine (HC.out _ H.out).mono ?_; rintro e w2 ⟨rfl, hpost⟩; have hfl := hpost.1.flag; simp only [Option.isSome_some, if_true] at hfl; obtain ⟨f0, f1, -, a, len, cap, hc, -, -, hB⟩ := hpost.1; have hlen := hB.1; have hlc := hB.2.1; have hmx := hB.2.2.1; unfold maxLen at hmx; have HP := hide hpost; clear hpost hB)
          | (go_at_call 96; refine (xfail_any p q (some ys) _ HP.out.1).mono ?_; rintro e w3 ⟨rfl, hpost⟩; have HP3 := hide (HP.out.trans hpost); clear hpost))
        go_ret
        rw [HX.out]
        exact ⟨none, 0, 0, rfl, ⟨rfl, .inl rfl⟩, by (intro _ x hx; cases hx), HP3.out, Nat.le_refl _, Nat.zero_le _⟩

end Go.Proofs.YtcgiicmmfleinaaGreatDoor

namespace Go.Proofs.YtcgiicmmfleinaaGreatDoor
open Go.RowKit NumMath
set_option linter.unusedVariables false

theorem own_one (w : World) (B : Nat) (c : Int) (hB : B ≤ w.heap.size) : OwnB (w.alloc (.cells #[.int .u8 c] 5)) B (.slice (some ⟨w.heap.size, 0, none⟩) 1 1) [c] :=
  ⟨by simp, .inr ⟨w.heap.size, 1, #[.int .u8 c], rfl, hB, heap_alloc_new w _, Nat.le_refl _, by unfold maxLen; omega, rfl, rfl⟩⟩

set_option maxHeartbeats 1000000 in
theorem rN_any (a : Option Addr) (len cap : Nat) (bs : List Int) (n : Int) (w : World) (hs : SrcB w a len bs) (h1 : 0 ≤ n) (h2 : n ≤ 18446744073709551615) (hl : len ≤ 1000000000) :
    Calls Tryz.prog 64 #[.slice a len cap, .int .u64 n] w fun e w' => ∃ v, e = .returned v ∧ OwnB w' w.heap.size v (bs ++ numL n) ∧ Below w.heap.size w w' := by
  have HS := hide hs
  clear hs
  have HNL := hide (numL_length n h1 h2)
  go_enter Tryz.func64, Tryz.ntmps64
  go_wp2
  go_loopw [1, 5] (fun x v wr => ∃ (m : Nat) (P : List Int), x = .int .u64 m ∧ m < 18446744073709551616 ∧ OwnB wr w.heap.size v P ∧ hiN m ++ P = numL n ∧ Below w.heap.size w wr) (fun x _ _ => (intOf x).toNat)
  case atStart =>
    refine ⟨n.toNat / 128, [n % 128], ?_, by omega, own_one w _ _ (Nat.le_refl _), ?_, new_below _ _⟩
    · have : ((n.toNat / 128 : Nat) : Int) = n / 128 := by omega
      rw [this]
    · unfold numL numN
      have : ((n.toNat % 128 : Nat) : Int) = n % 128 := by omega
      rw [this]
  case round =>
    obtain ⟨m, P, rfl, hm, hown, hP, hb⟩ := hrel
    have hsz := hb.size
    have HO := hide hown
    have HP := hide hP
    have HPL : Hid (P.length ≤ 10) := by
      have := HNL.out
      rw [← hP, List.length_append] at this
      show _ ≤ _
      omega
    obtain ⟨pa, pc, rfl, hsrc, -⟩ := hown.src
    have HSP := hide hsrc
    clear hown hP hsrc
    by_cases h0 : m = 0
    · subst h0
      go_wp2_with (first
        | (at_builtin; refine wp_joinB _ rfl (.const (.slice none 0 0)) (.tmp 23) rfl w.heap.size _ [] rfl (ownB_nil _ _) a len cap bs rfl (HS.out.keep hb) (by rw [HS.out.1]; simp; omega) (by omega) ?_; intro v2 w2 hown2 hg2 hat2; have hb2 : Below wr.heap.size wr w2 := (Below.refl _ _).grown hg2 (Nat.le_refl _) (by intro k hk; cases hk); have HO2 := hide hown2; have hsz2 := hb2.size; have HSP2 := hide (HSP.out.keep hb2); clear hown2 hg2 hat2)
        | (at_builtin; go_must (refine wp_joinB _ rfl (.tmp 24) (.tmp 25) rfl w.heap.size _ _ rfl HO2.out pa P.length pc P rfl HSP2.out (by have := HPL.out; simp only [List.nil_append]; rw [HS.out.1]; omega) (by omega) ?_); intro v3 w3 hown3 hg3 hat3; have hb3 := hb.trans ((hb2.mono hsz).trans (HO2.out.grown hg3 (by omega))); have HO3 := hide hown3; clear hown3 hg3 hat3))
      go_ret
      refine ⟨v3, rfl, ?_, hb3⟩
      have h3 := HO3.out
      have h4 := HP.out
      rw [hiN_zero, List.nil_append] at h4
      rw [h4, List.nil_append] at h3
      exact h3
    · have hm0 : 0 < m := by omega
      have HX := hide (hiN_step h0)
      go_wp2_with (first
        | (at_builtin; go_must (refine wp_joinB _ rfl (.tmp 20) (.tmp 21) rfl w.heap.size _ [(m : Int) % 128 + 128] rfl (own_one wr _ _ hsz) pa P.length pc P rfl (HSP.out.keep (new_below _ _)) (by have := HPL.out; simp only [List.length_singleton]; omega) (by simp; omega) ?_); intro v3 w3 hown3 hg3 hat3; have hb3 := (hb.alloc hsz _).trans ((own_one wr _ _ hsz).grown hg3 (by simp; omega)); have HO3 := hide hown3; clear hown3 hg3 hat3))
      go_roundw
      case rel =>
        refine ⟨m / 128, ((m : Int) % 128 + 128) :: P, ?_, by omega, HO3.out, ?_, hb3⟩
        · have : ((m / 128 : Nat) : Int) = (m : Int) / 128 := by omega
          rw [this]
        · have h4 := HP.out
          rw [HX.out, List.append_assoc, List.singleton_append] at h4
          have : ((m % 128 : Nat) : Int) = (m : Int) % 128 := by omega
          rw [this] at h4
          exact h4
      case measure => simp [intOf]; omega

set_option maxHeartbeats 400000 in
theorem rText_any (a : Option Addr) (len cap : Nat) (bs : List Int) (b : Option Addr) (m c : Nat) (xs : List Int) (w : World) (hs : SrcB w a len bs) (hx : SrcB w b m xs) (hl : len ≤ 100000000) (hm : m ≤ 100000000) :
    Calls Tryz.prog 103 #[.slice a len cap, .slice b m c] w fun e w' => ∃ v, e = .returned v ∧ OwnB w' w.heap.size v (bs ++ (numL m ++ xs)) ∧ Below w.heap.size w w' := by
  have HS := hide hs
  have HX := hide hx
  clear hs hx
  have HNL := hide (numL_length (m : Int) (by omega) (by omega))
  go_enter Tryz.func103, Tryz.ntmps103
  go_wp2_with (first
    | (go_at_call 64; go_must (refine (rN_any a len cap bs (m : Int) _ HS.out (by omega) (by omega) (by omega)).mono ?_); rintro e w2 ⟨v2, rfl, hown2, hb2⟩; have HO2 := hide hown2; have HX2 := hide (HX.out.keep hb2); have hsz2 := hb2.size; clear hown2)
    | (at_builtin; go_must (refine wp_joinB _ rfl (.tmp 9) (.tmp 10) rfl w.heap.size _ _ rfl HO2.out b m c xs rfl HX2.out (by have := HNL.out; rw [HX2.out.1, List.length_append, HS.out.1]; omega) (by omega) ?_); intro v3 w3 hown3 hg3 hat3; have hb3 := hb2.trans (HO2.out.grown hg3 (by omega)); have HO3 := hide hown3; clear hown3 hg3 hat3))
  go_ret
  refine ⟨v3, rfl, ?_, hb3⟩
  rw [← List.append_assoc]
  exact HO3.out

end Go.Proofs.YtcgiicmmfleinaaGreatDoor
