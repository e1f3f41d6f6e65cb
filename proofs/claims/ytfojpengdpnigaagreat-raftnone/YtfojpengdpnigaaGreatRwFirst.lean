/- row.firstNumber: the number that bytes begin with, or none. -/
import Derived.Test.YtfojpengdpnigaaGreatRwNum
namespace Go.Proofs.YtfojpengdpnigaaGreat
open Go.RowKit NumMath
set_option linter.unusedVariables false

/-- the number that the bytes begin with, and what is left -/
def numAt (xs : List Int) : Option (Nat × List Int) := scan true 0 xs

/-- as the program tells it -/
def fstN (xs : List Int) : Int := match numAt xs with | some (n, _) => n | none => 0
def fstS (xs : List Int) : Int := match numAt xs with | some (_, r) => (xs.length : Int) - r.length | none => 0

theorem dropAt (xs : List Int) (k : Nat) (h : k < xs.length) : xs.drop k = xs.getD k 0 :: xs.drop (k + 1) := by
  rw [List.drop_eq_getElem_cons h]
  simp [List.getD, List.getElem?_eq_getElem h]

theorem scan_more (c : Int) (m : Nat) (h1 : 0 ≤ c) (h2 : c < 256) (hm : m < 144115188075855872) : bits .or .u64 ((m : Int) * 128) (IntKind.u64.wrap (bits .andNot .u8 c 128)) = ((m * 128 + (c % 128).toNat : Nat) : Int) := by
  rw [andNot128 c h1 h2]
  have e : IntKind.u64.wrap (c % 128) = c % 128 := by simp [IntKind.wrap, IntKind.bits, IntKind.signed]; omega
  rw [e, u64_or _ _ (by omega) (by omega) (by omega) (by omega)]
  have e2 : ((m : Int) * 128).toNat = 2 ^ 7 * m := by omega
  rw [e2]
  have h3 : (c % 128).toNat < 2 ^ 7 := by omega
  rw [← Nat.two_pow_add_eq_or_of_lt h3 m]
  have e4 : 2 ^ 7 * m = m * 128 := by omega
  rw [e4]

theorem retUI {a b c d : Int} (h : a = b) (g : c = d) : Ending.returned (.tuple #[.int .u64 a, .int .i64 c]) = .returned (.tuple #[.int .u64 b, .int .i64 d]) := by rw [h, g]

set_option maxHeartbeats 1000000 in
theorem rowfirst_any (a : Option Addr) (len cap : Nat) (xs : List Int) (w : World) (h : IsBytes w a len cap xs) :
    Calls Tryz.prog 180 #[.slice a len cap] w fun e w' => e = .returned (.tuple #[.int .u64 (fstN xs), .int .i64 (fstS xs)]) ∧ w' = w := by
  have HV := hide h
  obtain ⟨hl, hlc, hm, hr, -⟩ := h
  unfold maxLen at hm
  have HL : Hid (xs.length = len) := hl
  have HR := hide hr
  clear hl hr
  go_enter Tryz.func180, Tryz.ntmps180
  go_wp2
  go_step3
  go_wp2
  go_step3
  go_wp2
  go_loopw [4, 9] (fun n i wr => ∃ k m : Nat, k ≤ len ∧ i = .int .i64 k ∧ n = .int .u64 m ∧ m < 18446744073709551616 ∧ scan (decide (k = 0)) m (xs.drop k) = numAt xs ∧ wr = w) (fun _ i _ => len - (intOf i).toNat)
  case atStart => exact ⟨0, 0, Nat.zero_le _, rfl, rfl, by omega, rfl, rfl⟩
  case round =>
    obtain ⟨k, m, hk, rfl, rfl, hm, hscan, hw⟩ := hrel
    subst hw
    have HC := hide hscan
    clear hscan
    by_cases hlt : k < len
    · obtain ⟨g, off, rfl, hg, hB⟩ := HV.out.at hlt
      have hk' : k < xs.length := by rw [HL.out]; exact hlt
      have hc := hB k hk'
      have HD := hide (dropAt xs k hk')
      obtain ⟨c1, c2⟩ := HV.out.nth k
      generalize xs.getD k 0 = c at *
      clear hB hk'
      by_cases h1 : k = 0 ∧ c = 128
      · obtain ⟨rfl, rfl⟩ := h1
        rw [Nat.add_zero] at hc
        have HX : Hid (numAt xs = none) := by
          show _ = _
          rw [← HC.out, HD.out, scan, if_pos (.inl ⟨rfl, rfl⟩)]
        go_wp2
        try rw [Exit.noGoto_ret]
        go_ret2
        unfold fstN fstS
        rw [HX.out]
        exact ⟨rfl, rfl⟩
      · by_cases h2 : 144115188075855872 ≤ m
        · have HX : Hid (numAt xs = none) := by
            show _ = _
            rw [← HC.out, HD.out, scan, if_pos (.inr h2)]
          have h2' : ¬ ((m : Int) / 144115188075855872 = 0) := by omega
          have h2b : ((m : Int) / 144115188075855872 == 0) = false := by simpa using h2'
          by_cases hk0 : k = 0
          · have hc128 : ¬ c = 128 := fun e => h1 ⟨hk0, e⟩
            have hcb : (c == 128) = false := by simpa using hc128
            subst hk0
            rw [Nat.add_zero] at hc
            go_wp2
            try rw [Exit.noGoto_ret]
            go_ret2
            unfold fstN fstS
            rw [HX.out]
            exact ⟨rfl, rfl⟩
          · have hkb : ((k : Int) == 0) = false := by simpa using hk0
            go_wp2
            try rw [Exit.noGoto_ret]
            go_ret2
            unfold fstN fstS
            rw [HX.out]
            exact ⟨rfl, rfl⟩
        · have h2' : (m : Int) / 144115188075855872 = 0 := by omega
          have HE := hide (scan_more c m c1 c2 (by omega))
          by_cases h3 : c < 128
          · have HX : Hid (numAt xs = some (m * 128 + (c % 128).toNat, xs.drop (k + 1))) := by
              show _ = _
              rw [← HC.out, HD.out, scan, if_neg, if_pos h3]
              rintro (⟨h, h'⟩ | h)
              · exact h1 ⟨of_decide_eq_true h, h'⟩
              · exact h2 h
            by_cases hk0 : k = 0
            · have hc128 : ¬ c = 128 := by omega
              have hcb : (c == 128) = false := by simpa using hc128
              subst hk0
              rw [Nat.add_zero] at hc
              go_wp2
              try rw [Exit.noGoto_ret]
              go_ret2
              unfold fstN fstS
              rw [HX.out]
              exact ⟨retUI HE.out (by dsimp only; rw [List.length_drop, HL.out]; omega), rfl⟩
            · have hkb : ((k : Int) == 0) = false := by simpa using hk0
              go_wp2
              try rw [Exit.noGoto_ret]
              go_ret2
              unfold fstN fstS
              rw [HX.out]
              exact ⟨retUI HE.out (by dsimp only; rw [List.length_drop, HL.out]; omega), rfl⟩
          · have HX : Hid (scan (decide (k + 1 = 0)) (m * 128 + (c % 128).toNat) (xs.drop (k + 1)) = numAt xs) := by
              show _ = _
              rw [← HC.out, HD.out, scan.eq_def (decide (k = 0)) m (c :: xs.drop (k + 1))]
              dsimp only
              rw [if_neg, if_neg h3]
              · rfl
              · rintro (⟨h, h'⟩ | h)
                · exact h1 ⟨of_decide_eq_true h, h'⟩
                · exact h2 h
            by_cases hk0 : k = 0
            · have hc128 : ¬ c = 128 := fun e => h1 ⟨hk0, e⟩
              have hcb : (c == 128) = false := by simpa using hc128
              subst hk0
              rw [Nat.add_zero] at hc
              go_wp2
              go_roundw
              case rel => exact ⟨1, m * 128 + (c % 128).toNat, by omega, rfl, by rw [HE.out], by omega, HX.out, (by first | rfl | trivial)⟩
              case measure => simp [intOf]; omega
            · have hkb : ((k : Int) == 0) = false := by simpa using hk0
              go_wp2
              go_roundw
              case rel => exact ⟨k + 1, m * 128 + (c % 128).toNat, by omega, by go_num, by rw [HE.out], by omega, HX.out, (by first | rfl | trivial)⟩
              case measure => simp [intOf]; omega
    · have hkl : k = len := by omega
      subst hkl
      have HX : Hid (numAt xs = none) := by
        show _ = _
        rw [← HC.out, List.drop_of_length_le (by rw [HL.out]; exact Nat.le_refl _), scan_nil]
      go_wp2
      try rw [Exit.noGoto_ret]
      go_ret2
      unfold fstN fstS
      rw [HX.out]
      exact ⟨rfl, rfl⟩

end Go.Proofs.YtfojpengdpnigaaGreat
