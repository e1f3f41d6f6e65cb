/- crc.Step, More, Sum and Join, and the reference's Step and Sum, by CRC-32C in plain numbers. -/
import Derived.Test.YtajpamkdcpbabaaByt
import Derived.Test.YtajpamkdcpbabaaCrcMath
import Derived.Lib.SlBytesConst
namespace Go.Proofs.Ytajpamkdcpbabaa
open Go.RowKit NumMath
set_option linter.unusedVariables false

/-- CRC-32C over integers -/
def crcSI (c b : Int) : Int := (crcS c.toNat b.toNat : Nat)
def crcMI (c : Int) (xs : List Int) : Int := xs.foldl crcSI c
def crcSumI (xs : List Int) : Int := 4294967295 - crcMI 4294967295 xs

theorem crcSI_range (c b : Int) (h1 : 0 ≤ c) (h2 : c < 4294967296) (b1 : 0 ≤ b) (b2 : b < 256) : 0 ≤ crcSI c b ∧ crcSI c b < 4294967296 := by
  unfold crcSI
  have := crcS_lt c.toNat b.toNat (by omega) (by omega)
  omega

theorem crcMI_range (xs : List Int) : ∀ c, 0 ≤ c → c < 4294967296 → (∀ b ∈ xs, 0 ≤ b ∧ b < 256) → 0 ≤ crcMI c xs ∧ crcMI c xs < 4294967296 := by
  induction xs with
  | nil => intro c h1 h2 _; exact ⟨h1, h2⟩
  | cons b r ih =>
    intro c h1 h2 h
    obtain ⟨b1, b2⟩ := h b List.mem_cons_self
    obtain ⟨s1, s2⟩ := crcSI_range c b h1 h2 b1 b2
    exact ih _ s1 s2 (fun x hx => h x (List.mem_cons_of_mem _ hx))

theorem crcMI_take (c : Int) (xs : List Int) (k : Nat) (h : k < xs.length) : crcMI c (xs.take (k + 1)) = crcSI (crcMI c (xs.take k)) (xs.getD k 0) := by
  unfold crcMI
  rw [List.take_add_one, List.foldl_append]
  simp [List.getD, List.getElem?_eq_getElem h]

theorem crcMI_append (c : Int) (xs ys : List Int) : crcMI c (xs ++ ys) = crcMI (crcMI c xs) ys := List.foldl_append

theorem xor_u32 (a b : Int) (h1 : 0 ≤ a) (h2 : a < 4294967296) (h3 : 0 ≤ b) (h4 : b < 256) : bits .xor .u32 a b = ((a.toNat ^^^ b.toNat : Nat) : Int) := u32_xor a b h1 h2 h3 (by omega)

theorem and_one (n : Nat) (h : n < 4294967296) : bits .and .u32 (n : Int) 1 = ((n % 2 : Nat) : Int) := by
  have := u32_and_nat n 1 h (by decide)
  rw [Nat.and_one_is_mod] at this
  exact this

theorem xor_poly (n : Nat) (h : n < 4294967296) : bits .xor .u32 (n : Int) 2197175160 = ((n ^^^ 2197175160 : Nat) : Int) := u32_xor_nat n 2197175160 h (by decide)

set_option maxHeartbeats 400000 in
theorem step_any (c b : Int) (w : World) (h1 : 0 ≤ c) (h2 : c < 4294967296) (b1 : 0 ≤ b) (b2 : b < 256) :
    Calls Try.prog 56 #[.int .u32 c, .int .u8 b] w fun e w' => e = .returned (.int .u32 (crcSI c b)) ∧ w' = w := by
  have hx := xor_u32 c b h1 h2 b1 b2
  have hlt : c.toNat ^^^ b.toNat < 4294967296 := Nat.xor_lt_two_pow (n := 32) (by omega) (by omega)
  have HS : Hid (crcSI c b = ((crcBs 8 (c.toNat ^^^ b.toNat) : Nat) : Int)) := rfl
  generalize c.toNat ^^^ b.toNat = m at *
  go_enter Try.func56, Try.ntmps56
  go_wp2
  go_loop [0, 10] (fun x i => ∃ k : Nat, k ≤ 8 ∧ i = .int .i64 k ∧ x = .int .u32 ((crcBs k m : Nat) : Int)) (fun _ i => 8 - (intOf i).toNat)
  case atStart => exact ⟨0, Nat.zero_le _, rfl, rfl⟩
  case round =>
    obtain ⟨k, hk, rfl, rfl⟩ := hrel
    have hn := crcBs_lt k m hlt
    have HN : Hid (crcBs (k + 1) m = crcB (crcBs k m)) := rfl
    obtain ⟨n, HG⟩ : ∃ n, Hid (n = crcBs k m) := ⟨_, rfl⟩
    rw [← HG.out] at hn HN ⊢
    by_cases hlt8 : k < 8
    · have ha := and_one n hn
      have HP := hide (xor_poly (n / 2) (by omega))
      by_cases ho : n % 2 = 1
      · rw [ho] at ha
        have HB : Hid (crcB n = n / 2 ^^^ 2197175160) := if_pos ho
        clear ho
        go_wp2
        go_round
        case rel => exact ⟨k + 1, by omega, by go_num, by rw [HN.out, HB.out, ← HP.out]; rfl⟩
        case measure => simp [intOf]; omega
      · have ho' : n % 2 = 0 := by omega
        rw [ho'] at ha
        have HB : Hid (crcB n = n / 2) := if_neg ho
        clear ho
        go_wp2
        go_round
        case rel => exact ⟨k + 1, by omega, by go_num, by rw [HN.out, HB.out]; rfl⟩
        case measure => simp [intOf]; omega
    · have hk8 : k = 8 := by omega
      subst hk8
      go_wp2
      go_ret
      exact ⟨ret1 (by rw [HS.out, HG.out]), rfl⟩

set_option maxHeartbeats 400000 in
theorem rstep_any (c b : Int) (w : World) (h1 : 0 ≤ c) (h2 : c < 4294967296) (b1 : 0 ≤ b) (b2 : b < 256) :
    Calls Try.prog 53 #[.int .u32 c, .int .u8 b] w fun e w' => e = .returned (.int .u32 (crcSI c b)) ∧ w' = w := by
  have hx := xor_u32 c b h1 h2 b1 b2
  have hlt : c.toNat ^^^ b.toNat < 4294967296 := Nat.xor_lt_two_pow (n := 32) (by omega) (by omega)
  have HS : Hid (crcSI c b = ((crcBs 8 (c.toNat ^^^ b.toNat) : Nat) : Int)) := rfl
  generalize c.toNat ^^^ b.toNat = m at *
  go_enter Try.func53, Try.ntmps53
  go_wp2
  go_loop [0, 5] (fun x i => ∃ k : Nat, k ≤ 8 ∧ i = .int .i64 k ∧ x = .int .u32 ((crcBs k m : Nat) : Int)) (fun _ i => 8 - (intOf i).toNat)
  case atStart => exact ⟨0, Nat.zero_le _, rfl, rfl⟩
  case round =>
    obtain ⟨k, hk, rfl, rfl⟩ := hrel
    have hn := crcBs_lt k m hlt
    have HN : Hid (crcBs (k + 1) m = crcB (crcBs k m)) := rfl
    obtain ⟨n, HG⟩ : ∃ n, Hid (n = crcBs k m) := ⟨_, rfl⟩
    rw [← HG.out] at hn HN ⊢
    by_cases hlt8 : k < 8
    · have HP := hide (xor_poly (n / 2) (by omega))
      by_cases ho : n % 2 = 1
      · have ho2 : (n : Int) % 2 = 1 := by omega
        have HB : Hid (crcB n = n / 2 ^^^ 2197175160) := if_pos ho
        clear ho
        go_wp2
        go_round
        case rel => exact ⟨k + 1, by omega, by go_num, by rw [HN.out, HB.out, ← HP.out]; rfl⟩
        case measure => simp [intOf]; omega
      · have ho2 : (n : Int) % 2 = 0 := by omega
        have HB : Hid (crcB n = n / 2) := if_neg ho
        clear ho
        go_wp2
        go_round
        case rel => exact ⟨k + 1, by omega, by go_num, by rw [HN.out, HB.out]; rfl⟩
        case measure => simp [intOf]; omega
    · have hk8 : k = 8 := by omega
      subst hk8
      go_wp2
      go_ret
      exact ⟨ret1 (by rw [HS.out, HG.out]), rfl⟩

theorem crc_ones (c : Int) (h1 : 0 ≤ c) (h2 : c < 4294967296) : bits .xor .u32 IntKind.u32.max c = 4294967295 - c := by
  obtain ⟨n, rfl⟩ := Int.eq_ofNat_of_zero_le h1
  have hn : n < 4294967296 := by omega
  have h := u32_xor_nat 4294967295 n (by decide) hn
  rw [Nat.xor_comm, ← not_xor n hn] at h
  show bits .xor .u32 ((4294967295 : Nat) : Int) (n : Int) = _
  rw [h]
  omega

set_option maxHeartbeats 400000 in
theorem more_any (c : Int) (a : Option Addr) (len cap : Nat) (xs : List Int) (w : World) (h1 : 0 ≤ c) (h2 : c < 4294967296) (h : IsBytes w a len cap xs) :
    Calls Try.prog 55 #[.int .u32 c, .slice a len cap] w fun e w' => e = .returned (.int .u32 (crcMI c xs)) ∧ w' = w := by
  have H := hide h
  have HL := hide h.1
  have hm : (len : Int) ≤ 9223372036854775807 := by have := h.2.1; have := h.2.2.1; unfold maxLen at this; omega
  clear h
  go_enter Try.func55, Try.ntmps55
  go_wp2
  go_loop [0, 8] (fun x i => ∃ k : Nat, k ≤ len ∧ i = .int .i64 k ∧ x = .int .u32 (crcMI c (xs.take k))) (fun _ i => len - (intOf i).toNat)
  case atStart => exact ⟨0, Nat.zero_le _, rfl, rfl⟩
  case round =>
    obtain ⟨k, hk, rfl, rfl⟩ := hrel
    by_cases hlt : k < len
    · obtain ⟨g, off, rfl, hg, hc⟩ := H.out.at hlt
      have hcell := hc k (by rw [HL.out]; exact hlt)
      obtain ⟨b1, b2⟩ := H.out.nth k
      have HT := hide (crcMI_take c xs k (by rw [HL.out]; exact hlt))
      obtain ⟨x1, x2⟩ := crcMI_range (xs.take k) c h1 h2 (fun b hb => H.out.2.2.2.1 b (List.mem_of_mem_take hb))
      generalize xs.getD k 0 = b at *
      generalize crcMI c (xs.take k) = x at *
      clear hc
      go_wp2_with (first | (go_at_call 56; refine (step_any x b _ x1 x2 b1 b2).mono ?_; rintro e w' ⟨rfl, hw⟩; have hw := hw.symm; subst hw))
      go_round
      case rel => exact ⟨k + 1, by omega, by go_num, by rw [HT.out]⟩
      case measure => simp [intOf]; omega
    · have hkl : k = len := by omega
      subst hkl
      go_wp2
      go_ret
      exact ⟨ret1 (by rw [List.take_of_length_le (by rw [HL.out]; exact Nat.le_refl _)]), rfl⟩

set_option maxHeartbeats 400000 in
theorem rsum_any (a : Option Addr) (len cap : Nat) (xs : List Int) (w : World) (h : IsBytes w a len cap xs) :
    Calls Try.prog 48 #[.slice a len cap] w fun e w' => e = .returned (.int .u32 (crcSumI xs)) ∧ w' = w := by
  have H := hide h
  have HL := hide h.1
  have hm : (len : Int) ≤ 9223372036854775807 := by have := h.2.1; have := h.2.2.1; unfold maxLen at this; omega
  have HS : Hid (crcSumI xs = 4294967295 - crcMI 4294967295 xs) := rfl
  clear h
  go_enter Try.func48, Try.ntmps48
  go_wp2
  go_loop [3, 8] (fun x i => ∃ k : Nat, k ≤ len ∧ i = .int .i64 k ∧ x = .int .u32 (crcMI 4294967295 (xs.take k))) (fun _ i => len - (intOf i).toNat)
  case atStart => exact ⟨0, Nat.zero_le _, rfl, rfl⟩
  case round =>
    obtain ⟨k, hk, rfl, rfl⟩ := hrel
    obtain ⟨x1, x2⟩ := crcMI_range (xs.take k) 4294967295 (by omega) (by omega) (fun b hb => H.out.2.2.2.1 b (List.mem_of_mem_take hb))
    by_cases hlt : k < len
    · obtain ⟨g, off, rfl, hg, hc⟩ := H.out.at hlt
      have hcell := hc k (by rw [HL.out]; exact hlt)
      obtain ⟨b1, b2⟩ := H.out.nth k
      have HT := hide (crcMI_take 4294967295 xs k (by rw [HL.out]; exact hlt))
      generalize xs.getD k 0 = b at *
      generalize crcMI 4294967295 (xs.take k) = x at *
      clear hc
      go_wp2_with (first | (go_at_call 53; refine (rstep_any x b _ x1 x2 b1 b2).mono ?_; rintro e w' ⟨rfl, hw⟩; have hw := hw.symm; subst hw))
      go_round
      case rel => exact ⟨k + 1, by omega, by go_num, by rw [HT.out]⟩
      case measure => simp [intOf]; omega
    · have hkl : k = len := by omega
      subst hkl
      rw [List.take_of_length_le (by rw [HL.out]; exact Nat.le_refl _)] at x1 x2 ⊢
      generalize crcMI 4294967295 xs = x at *
      go_wp2
      go_ret
      exact ⟨ret1 HS.out.symm, rfl⟩

/-- so many noughts taken in -/
def crcZI (n : Nat) (c : Int) : Int := (crcZ n c.toNat : Nat)

theorem crcZ_last (n c : Nat) : crcZ (n + 1) c = crcS (crcZ n c) 0 := by
  unfold crcZ
  rw [show List.replicate (n + 1) 0 = List.replicate n 0 ++ [0] from List.replicate_succ', crcM_append]
  rfl

theorem crcZI_succ (n : Nat) (c : Int) : crcZI (n + 1) c = crcSI (crcZI n c) 0 := by
  unfold crcZI crcSI
  rw [crcZ_last, Int.toNat_natCast]
  rfl

theorem crcZI_range (n : Nat) (c : Int) (h1 : 0 ≤ c) (h2 : c < 4294967296) : 0 ≤ crcZI n c ∧ crcZI n c < 4294967296 := by
  unfold crcZI crcZ
  have := crcM_lt (List.replicate n 0) c.toNat (by omega) (fun b hb => by rw [List.eq_of_mem_replicate hb]; decide)
  omega

def joinI (a b : Int) (n : Int) : Int := if n < 0 ∨ 65536 < n then 0 else (((crcZI n.toNat a).toNat ^^^ b.toNat : Nat) : Int)

theorem crcSumI_range (xs : List Int) (h : ∀ b ∈ xs, 0 ≤ b ∧ b < 256) : 0 ≤ crcSumI xs ∧ crcSumI xs < 4294967296 := by
  have := crcMI_range xs 4294967295 (by omega) (by omega) h
  unfold crcSumI
  omega

theorem crcMI_nat (xs : List Int) : ∀ c : Nat, crcMI (c : Int) xs = ((crcM c (xs.map Int.toNat) : Nat) : Int) := by
  induction xs with
  | nil => intro c; rfl
  | cons b r ih => intro c; exact ih _

theorem nats_lt (xs : List Int) (h : ∀ b ∈ xs, 0 ≤ b ∧ b < 256) : ∀ b ∈ xs.map Int.toNat, b < 256 := by
  intro b hb
  obtain ⟨x, hx, rfl⟩ := List.mem_map.1 hb
  have := h x hx
  omega

theorem crcSumI_nat (xs : List Int) (h : ∀ b ∈ xs, 0 ≤ b ∧ b < 256) : crcSumI xs = ((crcSum (xs.map Int.toNat) : Nat) : Int) := by
  unfold crcSumI crcSum
  have e := crcMI_nat xs 4294967295
  have l := crcM_lt (xs.map Int.toNat) 4294967295 (by omega) (nats_lt xs h)
  rw [show ((4294967295 : Nat) : Int) = 4294967295 from rfl] at e
  rw [e]
  omega

/-- the sum of two texts, one behind the other -/
theorem join_sum (xs ys : List Int) (hx : ∀ b ∈ xs, 0 ≤ b ∧ b < 256) (hy : ∀ b ∈ ys, 0 ≤ b ∧ b < 256) (hl : ys.length ≤ 65536) : joinI (crcSumI xs) (crcSumI ys) (ys.length : Int) = crcSumI (xs ++ ys) := by
  unfold joinI
  rw [if_neg (by omega), crcSumI_nat xs hx, crcSumI_nat ys hy, crcSumI_nat (xs ++ ys) (fun b hb => by rcases List.mem_append.1 hb with hb | hb; exact hx b hb; exact hy b hb), List.map_append, crcSum_join _ _ (nats_lt xs hx) (nats_lt ys hy)]
  unfold crcZI
  rw [Int.toNat_natCast, Int.toNat_natCast, Int.toNat_natCast, Int.toNat_natCast, List.length_map]

/-- two texts that differ in one byte have unlike sums -/
theorem sum_differs (xs ys : List Int) (a b : Int) (hx : ∀ b ∈ xs, 0 ≤ b ∧ b < 256) (hy : ∀ b ∈ ys, 0 ≤ b ∧ b < 256) (ha : 0 ≤ a ∧ a < 256) (hb : 0 ≤ b ∧ b < 256) (hne : a ≠ b) : crcSumI (xs ++ a :: ys) ≠ crcSumI (xs ++ b :: ys) := by
  have all : ∀ c : Int, 0 ≤ c ∧ c < 256 → ∀ d ∈ xs ++ c :: ys, 0 ≤ d ∧ d < 256 := by
    intro c hc d hd
    rcases List.mem_append.1 hd with hd | hd
    · exact hx d hd
    · rcases List.mem_cons.1 hd with rfl | hd
      · exact hc
      · exact hy d hd
  rw [crcSumI_nat _ (all a ha), crcSumI_nat _ (all b hb), List.map_append, List.map_append, List.map_cons, List.map_cons]
  intro h
  exact crcSum_differs _ _ a.toNat b.toNat (nats_lt xs hx) (nats_lt ys hy) (by omega) (by omega) (by omega) (by omega)

theorem crc_example : crcSumI [49, 50, 51, 52, 53, 54, 55, 56, 57] = 3808858755 := by decide +kernel

end Go.Proofs.Ytajpamkdcpbabaa
