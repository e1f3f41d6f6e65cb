/- What num.Neg, num.Mul, num.Div, num.Mod and the reference's answer, for any numbers of 64 bits; the world stays as it was. -/
import Derived.Test.YtlmimmoodljbeaaNumWalks
namespace Go.Proofs.Ytlmimmoodljbeaa
open Go.RowKit NumMath

set_option maxHeartbeats 400000 in
theorem neg_any (a : Int) (w : World) (ha1 : -9223372036854775808 ≤ a) (ha2 : a ≤ 9223372036854775807) :
    Calls Try.prog 20 #[.int .i64 a] w fun e w' => e = .returned (.tuple #[.int .i64 (inV (-a)), .bool (inB (-a))]) ∧ w' = w := by
  by_cases h : a = -9223372036854775808
  · subst h
    go_enter Try.func20, Try.ntmps20
    go_wp2
    go_ret2
    exact ⟨ret2 (inV_false (by omega)).symm (inB_false (by omega)).symm, rfl⟩
  · have hc : (a == -9223372036854775808) = false := by simpa using h
    have hd : -9223372036854775808 < a := by omega
    clear h
    go_enter Try.func20, Try.ntmps20
    go_wp2
    go_ret2
    exact ⟨ret2 (inV_true (by omega)).symm (inB_true (by omega)).symm, rfl⟩

set_option maxHeartbeats 400000 in
theorem rneg_any (a : Int) (w : World) (ha1 : -9223372036854775808 ≤ a) (ha2 : a ≤ 9223372036854775807) :
    Calls Try.prog 21 #[.int .i64 a] w fun e w' => e = .returned (.tuple #[.int .i64 (inV (-a)), .bool (inB (-a))]) ∧ w' = w := by
  by_cases h : a = -9223372036854775808
  · subst h
    go_enter Try.func21, Try.ntmps21
    go_wp2
    go_ret2
    exact ⟨ret2 (inV_false (by omega)).symm (inB_false (by omega)).symm, rfl⟩
  · have hc : (a == -9223372036854775808) = false := by simpa using h
    have hd : -9223372036854775808 < a := by omega
    clear h
    go_enter Try.func21, Try.ntmps21
    go_wp2
    go_ret2
    exact ⟨ret2 (inV_true (by omega)).symm (inB_true (by omega)).symm, rfl⟩

set_option maxHeartbeats 400000 in
theorem mul_any (a b : Int) (w : World) (ha1 : -9223372036854775808 ≤ a) (ha2 : a ≤ 9223372036854775807) (hb1 : -9223372036854775808 ≤ b) (hb2 : b ≤ 9223372036854775807) :
    Calls Try.prog 14 #[.int .i64 a, .int .i64 b] w fun e w' => e = .returned (.tuple #[.int .i64 (inV (a * b)), .bool (inB (a * b))]) ∧ w' = w := by
  by_cases b0 : b = 0
  · subst b0
    go_enter Try.func14, Try.ntmps14
    go_wp2
    go_ret2
    exact ⟨ret2 (by rw [Int.mul_zero]; rfl) (by rw [Int.mul_zero]; rfl), rfl⟩
  · by_cases b1 : b = -1
    · subst b1
      go_enter Try.func14, Try.ntmps14
      go_wp2_with (go_at_call 20; refine (neg_any _ _ ha1 ha2).mono ?_; rintro e w' ⟨rfl, rfl⟩)
      go_ret2
      exact ⟨ret2 (by rw [Int.mul_neg, Int.mul_one]) (by rw [Int.mul_neg, Int.mul_one]), rfl⟩
    · have c0 : (b == 0) = false := by simpa using b0
      have c1 : (b == -1) = false := by simpa using b1
      by_cases h : -9223372036854775808 ≤ a * b ∧ a * b ≤ 9223372036854775807
      · have t := mul_yes a b b0
        have H : Hid (-9223372036854775808 ≤ a * b ∧ a * b ≤ 9223372036854775807) := h
        obtain ⟨h1, h2⟩ := h
        clear b1
        go_enter Try.func14, Try.ntmps14
        go_wp2
        go_ret2
        exact ⟨ret2 (inV_true H.out).symm (inB_true H.out).symm, rfl⟩
      · have t0 := mul_no a b hb1 hb2 b0 h
        have tr := wrap64_range (a * b)
        have tq := tdiv_range (wrap64 (a * b)) b tr.1 tr.2 b1
        have t1 : wrap64 ((wrap64 (a * b)).tdiv b) = (wrap64 (a * b)).tdiv b := wrap64_id _ tq.1 tq.2
        have t : ((wrap64 (a * b)).tdiv b == a) = false := by simpa using t0
        have H : Hid (¬ (-9223372036854775808 ≤ a * b ∧ a * b ≤ 9223372036854775807)) := h
        clear h b1 t0 tr tq
        go_enter Try.func14, Try.ntmps14
        go_wp2
        go_ret2
        exact ⟨ret2 (inV_false H.out).symm (inB_false H.out).symm, rfl⟩

set_option maxHeartbeats 400000 in
theorem size_any (n : Int) (w : World) (h1 : -9223372036854775808 ≤ n) (h2 : n ≤ 9223372036854775807) :
    Calls Try.prog 34 #[.int .i64 n] w fun e w' => e = .returned (.int .u64 (absV n)) ∧ w' = w := by
  by_cases h : 0 ≤ n
  · go_enter Try.func34, Try.ntmps34
    go_wp2
    go_ret
    exact ⟨ret1 (by unfold absV; rw [if_pos h]), rfl⟩
  · go_enter Try.func34, Try.ntmps34
    go_wp2
    go_ret
    exact ⟨ret1 (by unfold absV; rw [if_neg (by omega)]; omega), rfl⟩

set_option maxHeartbeats 400000 in
theorem div_any (a b : Int) (w : World) (ha1 : -9223372036854775808 ≤ a) (ha2 : a ≤ 9223372036854775807) (hb1 : -9223372036854775808 ≤ b) (hb2 : b ≤ 9223372036854775807) :
    Calls Try.prog 16 #[.int .i64 a, .int .i64 b] w fun e w' => e = .returned (.tuple #[.int .i64 (divV a b), .bool (divB a b)]) ∧ w' = w := by
  by_cases b0 : b = 0
  · subst b0
    go_enter Try.func16, Try.ntmps16
    go_wp2
    go_ret2
    exact ⟨ret2 rfl rfl, rfl⟩
  · have c0 : (b == 0) = false := by simpa using b0
    by_cases b1 : b = -1
    · subst b1
      go_enter Try.func16, Try.ntmps16
      go_wp2_with (go_at_call 20; refine (neg_any _ _ ha1 ha2).mono ?_; rintro e w' ⟨rfl, rfl⟩)
      go_ret2
      exact ⟨ret2 (by unfold divV; rw [if_neg (by decide), Int.tdiv_neg, Int.tdiv_one]) (by unfold divB; rw [if_neg (by decide), Int.tdiv_neg, Int.tdiv_one]), rfl⟩
    · have c1 : (b == -1) = false := by simpa using b1
      have tq := tdiv_range a b ha1 ha2 b1
      have HR : Hid (-9223372036854775808 ≤ a.tdiv b ∧ a.tdiv b ≤ 9223372036854775807) := tq
      obtain ⟨q1, q2⟩ := tq
      go_enter Try.func16, Try.ntmps16
      go_wp2
      go_ret2
      exact ⟨ret2 (by unfold divV; rw [if_neg b0, inV_true HR.out]) (by unfold divB; rw [if_neg b0, inB_true HR.out]), rfl⟩

set_option maxHeartbeats 400000 in
theorem rdiv_any (a b : Int) (w : World) (ha1 : -9223372036854775808 ≤ a) (ha2 : a ≤ 9223372036854775807) (hb1 : -9223372036854775808 ≤ b) (hb2 : b ≤ 9223372036854775807) :
    Calls Try.prog 17 #[.int .i64 a, .int .i64 b] w fun e w' => e = .returned (.tuple #[.int .i64 (divV a b), .bool (divB a b)]) ∧ w' = w := by
  by_cases b0 : b = 0
  · subst b0
    go_enter Try.func17, Try.ntmps17
    go_wp2
    go_ret2
    exact ⟨ret2 rfl rfl, rfl⟩
  · have c0 : (b == 0) = false := by simpa using b0
    by_cases b1 : b = -1
    · subst b1
      by_cases a1 : a = -9223372036854775808
      · subst a1
        go_enter Try.func17, Try.ntmps17
        go_wp2
        go_ret2
        exact ⟨ret2 (by decide) (by decide), rfl⟩
      · have c1 : (a == -9223372036854775808) = false := by simpa using a1
        have e1 : a.tdiv (-1) = -a := by rw [Int.tdiv_neg, Int.tdiv_one]
        have e2 : -9223372036854775808 < a := by omega
        have r1 : -9223372036854775808 ≤ -a ∧ -a ≤ 9223372036854775807 := by omega
        have HR : Hid (-9223372036854775808 ≤ -a ∧ -a ≤ 9223372036854775807) := r1
        have HE : Hid (a.tdiv (-1) = -a) := e1
        clear a1 r1
        go_enter Try.func17, Try.ntmps17
        go_wp2
        go_ret2
        exact ⟨ret2 (by unfold divV; rw [if_neg (by decide), HE.out, inV_true HR.out]) (by unfold divB; rw [if_neg (by decide), HE.out, inB_true HR.out]), rfl⟩
    · have c1 : (b == -1) = false := by simpa using b1
      have HR : Hid (-9223372036854775808 ≤ a.tdiv b ∧ a.tdiv b ≤ 9223372036854775807) := tdiv_range a b ha1 ha2 b1
      by_cases a1 : a = -9223372036854775808
      · subst a1
        have HL : Hid (wrap64 (-Int.tdiv 9223372036854775808 b) = Int.tdiv (-9223372036854775808) b) := least_quo b b1
        go_enter Try.func17, Try.ntmps17
        go_wp2
        go_ret2
        exact ⟨ret2 (by unfold divV; rw [if_neg b0, inV_true HR.out]; exact HL.out) (by unfold divB; rw [if_neg b0, inB_true HR.out]), rfl⟩
      · have c2 : (a == -9223372036854775808) = false := by simpa using a1
        obtain ⟨q1, q2⟩ := HR.out
        clear a1
        go_enter Try.func17, Try.ntmps17
        go_wp2
        go_ret2
        exact ⟨ret2 (by unfold divV; rw [if_neg b0, inV_true HR.out]) (by unfold divB; rw [if_neg b0, inB_true HR.out]), rfl⟩

set_option maxHeartbeats 400000 in
theorem mod_any (a b : Int) (w : World) (_ha1 : -9223372036854775808 ≤ a) (_ha2 : a ≤ 9223372036854775807) (hb1 : -9223372036854775808 ≤ b) (hb2 : b ≤ 9223372036854775807) :
    Calls Try.prog 18 #[.int .i64 a, .int .i64 b] w fun e w' => e = .returned (.tuple #[.int .i64 (modV a b), .bool (modB b)]) ∧ w' = w := by
  by_cases b0 : b = 0
  · subst b0
    go_enter Try.func18, Try.ntmps18
    go_wp2
    go_ret2
    exact ⟨ret2 rfl rfl, rfl⟩
  · have c0 : (b == 0) = false := by simpa using b0
    by_cases b1 : b = -1
    · subst b1
      have HM : Hid (a.tmod (-1) = 0) := by show a.tmod (-1) = 0; rw [Int.tmod_neg, Int.tmod_one]
      go_enter Try.func18, Try.ntmps18
      go_wp2
      go_ret2
      exact ⟨ret2 (by unfold modV; rw [if_neg (by decide)]; first | rw [HM.out] | rfl) rfl, rfl⟩
    · have c1 : (b == -1) = false := by simpa using b1
      go_enter Try.func18, Try.ntmps18
      go_wp2
      go_ret2
      exact ⟨ret2 (by unfold modV; rw [if_neg b0]) (by unfold modB; simpa using b0), rfl⟩

set_option maxHeartbeats 400000 in
theorem rmod_any (a b : Int) (w : World) (_ha1 : -9223372036854775808 ≤ a) (_ha2 : a ≤ 9223372036854775807) (hb1 : -9223372036854775808 ≤ b) (hb2 : b ≤ 9223372036854775807) :
    Calls Try.prog 19 #[.int .i64 a, .int .i64 b] w fun e w' => e = .returned (.tuple #[.int .i64 (modV a b), .bool (modB b)]) ∧ w' = w := by
  by_cases b0 : b = 0
  · subst b0
    go_enter Try.func19, Try.ntmps19
    go_wp2
    go_ret2
    exact ⟨ret2 rfl rfl, rfl⟩
  · have c0 : (b == 0) = false := by simpa using b0
    by_cases b1 : b = -1
    · subst b1
      have HM : Hid (a.tmod (-1) = 0) := by show a.tmod (-1) = 0; rw [Int.tmod_neg, Int.tmod_one]
      go_enter Try.func19, Try.ntmps19
      go_wp2
      go_ret2
      exact ⟨ret2 (by unfold modV; rw [if_neg (by decide)]; first | rw [HM.out] | rfl) rfl, rfl⟩
    · have c1 : (b == -1) = false := by simpa using b1
      go_enter Try.func19, Try.ntmps19
      go_wp2
      go_ret2
      exact ⟨ret2 (by unfold modV; rw [if_neg b0]) (by unfold modB; simpa using b0), rfl⟩

/- the reference's product: 'x' and 'y' are how far a and b are from 0 -/
set_option maxHeartbeats 4000000 in
theorem rmul_any (a b : Int) (w : World) (ha1 : -9223372036854775808 ≤ a) (ha2 : a ≤ 9223372036854775807) (hb1 : -9223372036854775808 ≤ b) (hb2 : b ≤ 9223372036854775807) :
    Calls Try.prog 15 #[.int .i64 a, .int .i64 b] w fun e w' => e = .returned (.tuple #[.int .i64 (inV (a * b)), .bool (inB (a * b))]) ∧ w' = w := by
  obtain ⟨x, hx⟩ : ∃ x, absV a = x := ⟨_, rfl⟩
  obtain ⟨y, hy⟩ : ∃ y, absV b = y := ⟨_, rfl⟩
  have hm := mul_signs a b
  rw [hx, hy] at hm
  obtain ⟨x1, x2⟩ := absV_range a ha1 ha2
  obtain ⟨y1, y2⟩ := absV_range b hb1 hb2
  rw [hx] at x1 x2
  rw [hy] at y1 y2
  have HX : Hid (absV a = x) := hx
  have HY : Hid (absV b = y) := hy
  by_cases x0 : x = 0
  · subst x0
    have HZ : Hid (a * b = 0) := by show a * b = 0; rw [hm, Int.zero_mul]; split <;> rfl
    clear hm
    have sa : ¬ a < 0 := fun sa => by have := HX.out; unfold absV at this; rw [if_neg (by omega)] at this; omega
    have da : decide (a < 0) = false := decide_eq_false sa
    by_cases sb : b < 0
    all_goals
      have db := sb
      first | replace db : decide (b < 0) = true := decide_eq_true db | replace db : decide (b < 0) = false := decide_eq_false db
      go_enter Try.func15, Try.ntmps15
      go_wp2_with (go_at_call 34; refine (size_any _ _ ?_ ?_).mono ?_ <;> first | assumption | (rintro e w' ⟨rfl, rfl⟩))
      go_ret2
      exact ⟨ret2 (by rw [HZ.out]; rfl) (by rw [HZ.out]; rfl), rfl⟩
  · have xp : 0 < x := by omega
    have c0 : (x == 0) = false := by simpa using x0
    by_cases big : 18446744073709551615 / x < y
    · have HN : Hid (¬ (-9223372036854775808 ≤ a * b ∧ a * b ≤ 9223372036854775807)) := by
        have hb := (quo_lt x y xp).1 big
        rw [Int.mul_comm] at hb
        show ¬ _
        rw [hm]
        generalize x * y = z at *
        split <;> omega
      clear hm
      go_enter Try.func15, Try.ntmps15
      go_wp2_with (go_at_call 34; refine (size_any _ _ ?_ ?_).mono ?_ <;> first | assumption | (rintro e w' ⟨rfl, rfl⟩))
      go_ret2
      exact ⟨ret2 (inV_false HN.out).symm (inB_false HN.out).symm, rfl⟩
    · have zh : x * y ≤ 18446744073709551615 := by
        have hb := mt (quo_lt x y xp).2 big
        rw [Int.mul_comm] at hb
        omega
      have zl : 0 ≤ x * y := Int.mul_nonneg x1 y1
      by_cases sa : a < 0
      all_goals by_cases sb : b < 0
      all_goals
        have da := sa
        have db := sb
        first | replace da : decide (a < 0) = true := decide_eq_true da | replace da : decide (a < 0) = false := decide_eq_false da
        first | replace db : decide (b < 0) = true := decide_eq_true db | replace db : decide (b < 0) = false := decide_eq_false db
      · by_cases g : 9223372036854775807 < x * y
        · have HN : Hid (¬ (-9223372036854775808 ≤ a * b ∧ a * b ≤ 9223372036854775807)) := by
            show ¬ _
            rw [hm]
            simp only [sa, sb, if_true]
            omega
          clear hm
          go_enter Try.func15, Try.ntmps15
          go_wp2_with (go_at_call 34; refine (size_any _ _ ?_ ?_).mono ?_ <;> first | assumption | (rintro e w' ⟨rfl, rfl⟩))
          go_ret2
          exact ⟨ret2 (inV_false HN.out).symm (inB_false HN.out).symm, rfl⟩
        · have HM : Hid (a * b = x * y) := by
            show a * b = x * y
            rw [hm]
            simp only [sa, sb, if_true]
          clear hm
          go_enter Try.func15, Try.ntmps15
          go_wp2_with (go_at_call 34; refine (size_any _ _ ?_ ?_).mono ?_ <;> first | assumption | (rintro e w' ⟨rfl, rfl⟩))
          go_ret2
          exact ⟨ret2 (by rw [HM.out, inV_true (by omega)]) (by rw [HM.out, inB_true (by omega)]), rfl⟩
      · have HM : Hid (a * b = -(x * y)) := by
          show a * b = -(x * y)
          rw [hm, if_neg (by simp [sa, sb])]
        clear hm
        by_cases g : 9223372036854775808 < x * y
        · have HN : Hid (¬ (-9223372036854775808 ≤ a * b ∧ a * b ≤ 9223372036854775807)) := by
            show ¬ _
            rw [HM.out]
            omega
          go_enter Try.func15, Try.ntmps15
          go_wp2_with (go_at_call 34; refine (size_any _ _ ?_ ?_).mono ?_ <;> first | assumption | (rintro e w' ⟨rfl, rfl⟩))
          go_ret2
          exact ⟨ret2 (inV_false HN.out).symm (inB_false HN.out).symm, rfl⟩
        · by_cases q : x * y = 9223372036854775808
          · have q' : (x * y == 9223372036854775808) = true := by simpa using q
            have HQ : Hid (x * y = 9223372036854775808) := q
            clear q
            go_enter Try.func15, Try.ntmps15
            go_wp2_with (go_at_call 34; refine (size_any _ _ ?_ ?_).mono ?_ <;> first | assumption | (rintro e w' ⟨rfl, rfl⟩))
            go_ret2
            exact ⟨ret2 (by rw [HM.out, HQ.out]; decide) (by rw [HM.out, HQ.out]; decide), rfl⟩
          · have q' : (x * y == 9223372036854775808) = false := by simpa using q
            have zm : x * y ≤ 9223372036854775807 := by omega
            clear q
            go_enter Try.func15, Try.ntmps15
            go_wp2_with (go_at_call 34; refine (size_any _ _ ?_ ?_).mono ?_ <;> first | assumption | (rintro e w' ⟨rfl, rfl⟩))
            go_ret2
            exact ⟨ret2 (by rw [HM.out, inV_true (by omega)]) (by rw [HM.out, inB_true (by omega)]), rfl⟩
      · have HM : Hid (a * b = -(x * y)) := by
          show a * b = -(x * y)
          rw [hm, if_neg (by simp [sa, sb])]
        clear hm
        by_cases g : 9223372036854775808 < x * y
        · have HN : Hid (¬ (-9223372036854775808 ≤ a * b ∧ a * b ≤ 9223372036854775807)) := by
            show ¬ _
            rw [HM.out]
            omega
          go_enter Try.func15, Try.ntmps15
          go_wp2_with (go_at_call 34; refine (size_any _ _ ?_ ?_).mono ?_ <;> first | assumption | (rintro e w' ⟨rfl, rfl⟩))
          go_ret2
          exact ⟨ret2 (inV_false HN.out).symm (inB_false HN.out).symm, rfl⟩
        · by_cases q : x * y = 9223372036854775808
          · have q' : (x * y == 9223372036854775808) = true := by simpa using q
            have HQ : Hid (x * y = 9223372036854775808) := q
            clear q
            go_enter Try.func15, Try.ntmps15
            go_wp2_with (go_at_call 34; refine (size_any _ _ ?_ ?_).mono ?_ <;> first | assumption | (rintro e w' ⟨rfl, rfl⟩))
            go_ret2
            exact ⟨ret2 (by rw [HM.out, HQ.out]; decide) (by rw [HM.out, HQ.out]; decide), rfl⟩
          · have q' : (x * y == 9223372036854775808) = false := by simpa using q
            have zm : x * y ≤ 9223372036854775807 := by omega
            clear q
            go_enter Try.func15, Try.ntmps15
            go_wp2_with (go_at_call 34; refine (size_any _ _ ?_ ?_).mono ?_ <;> first | assumption | (rintro e w' ⟨rfl, rfl⟩))
            go_ret2
            exact ⟨ret2 (by rw [HM.out, inV_true (by omega)]) (by rw [HM.out, inB_true (by omega)]), rfl⟩
      · by_cases g : 9223372036854775807 < x * y
        · have HN : Hid (¬ (-9223372036854775808 ≤ a * b ∧ a * b ≤ 9223372036854775807)) := by
            show ¬ _
            rw [hm]
            simp only [sa, sb, if_true]
            omega
          clear hm
          go_enter Try.func15, Try.ntmps15
          go_wp2_with (go_at_call 34; refine (size_any _ _ ?_ ?_).mono ?_ <;> first | assumption | (rintro e w' ⟨rfl, rfl⟩))
          go_ret2
          exact ⟨ret2 (inV_false HN.out).symm (inB_false HN.out).symm, rfl⟩
        · have HM : Hid (a * b = x * y) := by
            show a * b = x * y
            rw [hm]
            simp only [sa, sb, if_true]
          clear hm
          go_enter Try.func15, Try.ntmps15
          go_wp2_with (go_at_call 34; refine (size_any _ _ ?_ ?_).mono ?_ <;> first | assumption | (rintro e w' ⟨rfl, rfl⟩))
          go_ret2
          exact ⟨ret2 (by rw [HM.out, inV_true (by omega)]) (by rw [HM.out, inB_true (by omega)]), rfl⟩
end Go.Proofs.Ytlmimmoodljbeaa
