/- math/bits.Len64: how many bits a number has. -/
import Derived.Test.YtfojpengdpnigaaGreatRwMath
import Derived.Laws.MathBits
namespace Go.Proofs.YtfojpengdpnigaaGreat
open Go.RowKit NumMath
set_option linter.unusedVariables false

theorem bitLen_at (n : Int) (b : Nat) (p : Int) (hp : p = 2 ^ b) (h1 : p ≤ n) : (bitLen n.toNat : Int) = b + bitLen (n / p).toNat := by
  have hp0 : 0 < p := by rw [hp]; exact Int.pow_pos (by decide)
  obtain ⟨N, rfl⟩ := Int.eq_ofNat_of_zero_le (show 0 ≤ n by omega)
  have e : p = ((2 ^ b : Nat) : Int) := by rw [hp]; simp
  subst e
  have e2 : ((N : Int) / ((2 ^ b : Nat) : Int)).toNat = N / 2 ^ b := by rw [← Int.natCast_ediv, Int.toNat_natCast]
  rw [e2, Int.toNat_natCast]
  have h : N / 2 ^ b ≠ 0 := by
    have : 2 ^ b ≤ N := by omega
    have := Nat.div_pos this (Nat.two_pow_pos b)
    omega
  rw [bitLen_shift N b h]
  omega

theorem wrap_small (a : Int) (h1 : 0 ≤ a) (h2 : a ≤ 1000000) : wrap64 a = a := by unfold wrap64; omega

theorem bitLen_small (n : Int) (h : n < 256) (h0 : 0 ≤ n) : (bitLen n.toNat : Int) ≤ 8 := by
  have := bitLen_le8 n.toNat (by omega)
  omega

/-- s bits, and those of what is left -/
theorem len_sum (n : Int) (s : Nat) (q : Int) (hs : s ≤ 64) (hq : 0 ≤ q) (hq2 : q < 256) (h : (bitLen n.toNat : Int) = s + bitLen q.toNat) : wrap64 (s + wrap64 (bitLen q.toNat : Int)) = bitLen n.toNat := by
  have := bitLen_small q hq2 hq
  rw [wrap_small (bitLen q.toNat : Int) (by omega) (by omega), wrap_small _ (by omega) (by omega), h]

set_option maxRecDepth 100000 in
set_option maxHeartbeats 1000000 in
theorem len64_any (n : Int) (w : World) (h1 : 0 ≤ n) (h2 : n ≤ 18446744073709551615) :
    Calls Tryz.prog 158 #[.int .u64 n] w fun e w' => e = .returned (.int .i64 (bitLen n.toNat)) ∧ w' = w := by
  by_cases c1 : 4294967296 ≤ n
  · have HA : Hid ((bitLen n.toNat : Int) = 32 + bitLen (n / 4294967296).toNat) := bitLen_at n 32 4294967296 (by decide) c1
    by_cases c2 : 65536 ≤ n / 4294967296
    · have HB : Hid ((bitLen (n / 4294967296).toNat : Int) = 16 + bitLen (n / 4294967296 / 65536).toNat) := bitLen_at _ 16 65536 (by decide) c2
      by_cases c3 : 256 ≤ n / 4294967296 / 65536
      · have HC : Hid ((bitLen (n / 4294967296 / 65536).toNat : Int) = 8 + bitLen (n / 4294967296 / 65536 / 256).toNat) := bitLen_at _ 8 256 (by decide) c3
        go_enter Tryz.func158, Tryz.ntmps158
        go_wp2
        go_ret
        refine ⟨?_, rfl⟩
        rw [len8tab_get]
        exact ret1 (len_sum n 56 _ (by omega) (by omega) (by omega) (by have := HA.out; have := HB.out; have := HC.out; omega))
      · go_enter Tryz.func158, Tryz.ntmps158
        go_wp2
        go_ret
        refine ⟨?_, rfl⟩
        rw [len8tab_get]
        exact ret1 (len_sum n 48 _ (by omega) (by omega) (by omega) (by have := HA.out; have := HB.out; omega))
    · by_cases c3 : 256 ≤ n / 4294967296
      · have HC : Hid ((bitLen (n / 4294967296).toNat : Int) = 8 + bitLen (n / 4294967296 / 256).toNat) := bitLen_at _ 8 256 (by decide) c3
        go_enter Tryz.func158, Tryz.ntmps158
        go_wp2
        go_ret
        refine ⟨?_, rfl⟩
        rw [len8tab_get]
        exact ret1 (len_sum n 40 _ (by omega) (by omega) (by omega) (by have := HA.out; have := HC.out; omega))
      · go_enter Tryz.func158, Tryz.ntmps158
        go_wp2
        go_ret
        refine ⟨?_, rfl⟩
        rw [len8tab_get]
        exact ret1 (len_sum n 32 _ (by omega) (by omega) (by omega) (by have := HA.out; omega))
  · by_cases c2 : 65536 ≤ n
    · have HB : Hid ((bitLen n.toNat : Int) = 16 + bitLen (n / 65536).toNat) := bitLen_at _ 16 65536 (by decide) c2
      by_cases c3 : 256 ≤ n / 65536
      · have HC : Hid ((bitLen (n / 65536).toNat : Int) = 8 + bitLen (n / 65536 / 256).toNat) := bitLen_at _ 8 256 (by decide) c3
        go_enter Tryz.func158, Tryz.ntmps158
        go_wp2
        go_ret
        refine ⟨?_, rfl⟩
        rw [len8tab_get]
        exact ret1 (len_sum n 24 _ (by omega) (by omega) (by omega) (by have := HB.out; have := HC.out; omega))
      · go_enter Tryz.func158, Tryz.ntmps158
        go_wp2
        go_ret
        refine ⟨?_, rfl⟩
        rw [len8tab_get]
        exact ret1 (len_sum n 16 _ (by omega) (by omega) (by omega) (by have := HB.out; omega))
    · by_cases c3 : 256 ≤ n
      · have HC : Hid ((bitLen n.toNat : Int) = 8 + bitLen (n / 256).toNat) := bitLen_at _ 8 256 (by decide) c3
        go_enter Tryz.func158, Tryz.ntmps158
        go_wp2
        go_ret
        refine ⟨?_, rfl⟩
        rw [len8tab_get]
        exact ret1 (len_sum n 8 _ (by omega) (by omega) (by omega) (by have := HC.out; omega))
      · go_enter Tryz.func158, Tryz.ntmps158
        go_wp2
        go_ret
        refine ⟨?_, rfl⟩
        rw [len8tab_get]
        have := bitLen_small n (by omega) h1
        exact ret1 (by rw [wrap_small (bitLen n.toNat : Int) (by omega) (by omega), wrap_small _ (by omega) (by omega)])

end Go.Proofs.YtfojpengdpnigaaGreat
