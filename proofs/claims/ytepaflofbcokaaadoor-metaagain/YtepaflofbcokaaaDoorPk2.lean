/- The program's encloses, serves, Covers, mayBe, same: what they answer. -/
import Derived.Test.YtepaflofbcokaaaDoorPk1
namespace Go.Proofs.YtepaflofbcokaaaDoor
open Go.RowKit NumMath Go.ChangeShapes Go.WideShapes Go.Deep
set_option linter.unusedVariables false
set_option maxRecDepth 100000

/-- whether a's keys have b's among them -/
def enclK (a b : Lck) : Bool := !lessL b.lo a.lo && covHi a b

set_option maxHeartbeats 4000000 in
theorem encl_any (a b : ML) (w : World) (h1 : a.ok w) (h2 : b.ok w) :
    Calls Tryd.prog 91 #[.agg #[.int .u64 a.l.tx, .int .i64 a.l.lv, .int .i64 a.l.md, .slice a.la a.ln a.lc, .slice a.ha a.hn a.hc], .agg #[.int .u64 b.l.tx, .int .i64 b.l.lv, .int .i64 b.l.md, .slice b.la b.ln b.lc, .slice b.ha b.hn b.hc]] w fun e w' => e = .returned (.bool (enclK a.l b.l)) ∧ Below w.heap.size w w' := by
  have hn := ((Below.refl _ w).alloc (Nat.le_refl _) (.cells #[.int .u64 a.l.tx, .int .i64 a.l.lv, .int .i64 a.l.md, .slice a.la a.ln a.lc, .slice a.ha a.hn a.hc] 32)).alloc (by simp) (.cells #[.int .u64 b.l.tx, .int .i64 b.l.lv, .int .i64 b.l.md, .slice b.la b.ln b.lc, .slice b.ha b.hn b.hc] 32)
  have HC1 := hide (bcompare_any a.la a.ln a.lc a.l.lo b.la b.ln b.lc b.l.lo _ (h1.lo.keep hn) (h2.lo.keep hn))
  have HC2 := hide (bcompare_any a.ha a.hn a.hc a.l.hi b.ha b.hn b.hc b.l.hi _ (h1.hi.keep hn) (h2.hi.keep hn))
  have hma : (a.hn : Int) ≤ 9223372036854775807 := by have := h1.hi.2.1; have := h1.hi.2.2.1; unfold maxLen at this; omega
  have hmb : (b.hn : Int) ≤ 9223372036854775807 := by have := h2.hi.2.1; have := h2.hi.2.2.1; unfold maxLen at this; omega
  have hah := empty_len h1.hi.1
  have hbh := empty_len h2.hi.1
  have e1 := cmpB_pos a.l.lo b.l.lo
  have e2 := cmpB_ge a.l.hi b.l.hi
  obtain ⟨c1, hc1⟩ : ∃ c, cmpB a.l.lo b.l.lo = c := ⟨_, rfl⟩
  obtain ⟨c2, hc2⟩ : ∃ c, cmpB a.l.hi b.l.hi = c := ⟨_, rfl⟩
  rw [hc1] at HC1 e1
  rw [hc2] at HC2 e2
  have HZ := hide (show enclK a.l b.l = (!decide (0 < c1) && (decide (a.hn = 0) || (!decide (b.hn = 0) && decide (0 ≤ c2)))) by
    unfold enclK covHi
    rw [e1, hah, hbh, e2])
  have HN := hide hn
  clear h1 h2 hn hc1 hc2 e1 e2 hah hbh
  by_cases p1 : 0 < c1
  · have p1' : decide (0 < c1) = true := decide_eq_true p1
    rw [p1'] at HZ
    clear p1'
    go_enter Tryd.func91, Tryd.ntmps91
    go_wp2_with (first
      | (go_at_call 98; go_must (refine HC1.out.mono ?_); rintro e w1 ⟨rfl, hw⟩; have hw := hw.symm; subst hw))
    go_ret
    exact ⟨by rw [HZ.out]; rfl, HN.out⟩
  · have p1' : decide (0 < c1) = false := decide_eq_false p1
    rw [p1'] at HZ
    clear p1'
    by_cases ca : a.hn = 0
    · have HZ2 := hide (show enclK a.l b.l = true by rw [HZ.out, decide_eq_true ca]; rfl)
      have cab : ((a.hn : Int) == 0) = true := by simp [ca]
      clear ca
      go_enter Tryd.func91, Tryd.ntmps91
      go_wp2_with (first
        | (go_at_call 98; go_must (refine HC1.out.mono ?_); rintro e w1 ⟨rfl, hw⟩; have hw := hw.symm; subst hw))
      go_ret
      exact ⟨by rw [HZ2.out]; rfl, HN.out⟩
    · have cab : ((a.hn : Int) == 0) = false := by simp [ca]
      have caN : (a.hn == 0) = false := by simp [ca]
      by_cases cb : b.hn = 0
      · have HZ2 := hide (show enclK a.l b.l = false by rw [HZ.out, decide_eq_false ca, decide_eq_true cb]; rfl)
        have cbb : ¬ (0 : Int) < (b.hn : Int) := by omega
        have cbN : ¬ 0 < b.hn := by omega
        clear cb ca
        go_enter Tryd.func91, Tryd.ntmps91
        go_wp2_with (first
          | (go_at_call 98; go_must (refine HC1.out.mono ?_); rintro e w1 ⟨rfl, hw⟩; have hw := hw.symm; subst hw))
        go_ret
        exact ⟨by rw [HZ2.out]; rfl, HN.out⟩
      · have HZ2 := hide (show enclK a.l b.l = decide (0 ≤ c2) by rw [HZ.out, decide_eq_false ca, decide_eq_false cb]; rfl)
        have cbb : (0 : Int) < (b.hn : Int) := by omega
        have cbN : 0 < b.hn := by omega
        clear cb ca
        go_enter Tryd.func91, Tryd.ntmps91
        go_wp2_with (first
          | (go_at_call_of 98 a.hn; go_must (refine HC2.out.mono ?_); rintro e w1 ⟨rfl, hw⟩; have hw := hw.symm; subst hw)
          | (go_at_call 98; go_must (refine HC1.out.mono ?_); rintro e w1 ⟨rfl, hw⟩; have hw := hw.symm; subst hw))
        go_ret
        exact ⟨by rw [HZ2.out]; rfl, HN.out⟩

/-- whether a mode is as good as another one -/
def servesI (a b : Int) : Bool := a == b || a == 4 || (b == 1 && (a == 3 || a == 2))

set_option maxHeartbeats 2000000 in
theorem serves_any (a b : Int) (w : World) : Calls Tryd.prog 92 #[.int .i64 a, .int .i64 b] w fun e w' => e = .returned (.bool (servesI a b)) ∧ w' = w := by
  by_cases h1 : a = b
  · have HZ := hide (show servesI a b = true by unfold servesI; simp [h1])
    have h1' : (a == b) = true := by simp [h1]
    clear h1
    go_enter Tryd.func92, Tryd.ntmps92
    go_wp2
    go_ret
    exact ⟨by rw [HZ.out]; rfl, rfl⟩
  · have h1' : (a == b) = false := by simp [h1]
    by_cases h4 : a = 4
    · have HZ := hide (show servesI a b = true by unfold servesI; simp [h4])
      have h4' : (a == 4) = true := by simp [h4]
      clear h1 h4
      go_enter Tryd.func92, Tryd.ntmps92
      go_wp2
      go_ret
      exact ⟨by rw [HZ.out]; rfl, rfl⟩
    · have h4' : (a == 4) = false := by simp [h4]
      by_cases h3 : a = 3
      · have HZ := hide (show servesI a b = (b == 1) by unfold servesI; rw [h1', h4']; simp [h3])
        have h3' : (a == 3) = true := by simp [h3]
        clear h1 h4 h3
        go_enter Tryd.func92, Tryd.ntmps92
        go_wp2
        go_ret
        exact ⟨by rw [HZ.out]; rfl, rfl⟩
      · have h3' : (a == 3) = false := by simp [h3]
        by_cases h2 : a = 2
        · have HZ := hide (show servesI a b = (b == 1) by unfold servesI; rw [h1', h4', h3']; simp [h2])
          have h2' : (a == 2) = true := by simp [h2]
          clear h1 h4 h3 h2
          go_enter Tryd.func92, Tryd.ntmps92
          go_wp2
          go_ret
          exact ⟨by rw [HZ.out]; rfl, rfl⟩
        · have h2' : (a == 2) = false := by simp [h2]
          have HZ := hide (show servesI a b = false by unfold servesI; rw [h1', h4', h3', h2']; simp)
          clear h1 h4 h3 h2
          go_enter Tryd.func92, Tryd.ntmps92
          go_wp2
          go_ret
          exact ⟨by rw [HZ.out]; rfl, rfl⟩

theorem coversL_encl (a b : Lck) : coversL a b = (a.tx == b.tx && a.lv == b.lv && enclK a b && servesI a.md b.md) := by
  rw [coversL_eq]
  unfold enclK covMd servesI
  cases a.tx == b.tx <;> cases a.lv == b.lv <;> cases lessL b.lo a.lo <;> cases covHi a b <;> rfl

set_option maxHeartbeats 4000000 in
theorem pcovers_any (a b : ML) (w : World) (h1 : a.ok w) (h2 : b.ok w) :
    Calls Tryd.prog 77 #[.agg #[.int .u64 a.l.tx, .int .i64 a.l.lv, .int .i64 a.l.md, .slice a.la a.ln a.lc, .slice a.ha a.hn a.hc], .agg #[.int .u64 b.l.tx, .int .i64 b.l.lv, .int .i64 b.l.md, .slice b.la b.ln b.lc, .slice b.ha b.hn b.hc]] w fun e w' => e = .returned (.bool (coversL a.l b.l)) ∧ Below w.heap.size w w' := by
  have hn := ((Below.refl _ w).alloc (Nat.le_refl _) (.cells #[.int .u64 a.l.tx, .int .i64 a.l.lv, .int .i64 a.l.md, .slice a.la a.ln a.lc, .slice a.ha a.hn a.hc] 32)).alloc (by simp) (.cells #[.int .u64 b.l.tx, .int .i64 b.l.lv, .int .i64 b.l.md, .slice b.la b.ln b.lc, .slice b.ha b.hn b.hc] 32)
  have HC := hide (encl_any a b _ (h1.keep hn) (h2.keep hn))
  have HCell : Hid (∀ V, Below (w.heap.size + 2) ((w.alloc (.cells #[.int .u64 a.l.tx, .int .i64 a.l.lv, .int .i64 a.l.md, .slice a.la a.ln a.lc, .slice a.ha a.hn a.hc] 32)).alloc (.cells #[.int .u64 b.l.tx, .int .i64 b.l.lv, .int .i64 b.l.md, .slice b.la b.ln b.lc, .slice b.ha b.hn b.hc] 32)) V → At5 V w.heap.size 0 a ∧ At5 V (w.heap.size + 1) 0 b) := by
    intro V hV
    constructor
    · exact ((at5_new w a).same ((new_below _ (.cells #[.int .u64 b.l.tx, .int .i64 b.l.lv, .int .i64 b.l.md, .slice b.la b.ln b.lc, .slice b.ha b.hn b.hc] 32)).block _ (by simp))).same (hV.block _ (by omega))
    · exact at5_of (rangeY_same (rangeY_new (w.alloc (.cells #[.int .u64 a.l.tx, .int .i64 a.l.lv, .int .i64 a.l.md, .slice a.la a.ln a.lc, .slice a.ha a.hn a.hc] 32)) (w.heap.size + 1) #[.int .u64 b.l.tx, .int .i64 b.l.lv, .int .i64 b.l.md, .slice b.la b.ln b.lc, .slice b.ha b.hn b.hc] 32 (by simp)) (hV.block _ (by omega)))
  obtain ⟨z, hz⟩ : ∃ z, enclK a.l b.l = z := ⟨_, rfl⟩
  rw [hz] at HC
  have HZ := hide (coversL_encl a.l b.l)
  rw [hz] at HZ
  have HN := hide hn
  have HS := fun W => hide (serves_any a.l.md b.l.md W)
  obtain ⟨zs, hzs⟩ : ∃ z, servesI a.l.md b.l.md = z := ⟨_, rfl⟩
  rw [hzs] at HS HZ
  clear h1 h2 hn hz hzs
  by_cases ht : a.l.tx = b.l.tx
  · have ht' : (a.l.tx == b.l.tx) = true := by simp [ht]
    rw [ht'] at HZ
    clear ht
    by_cases hl : a.l.lv = b.l.lv
    · have hl' : (a.l.lv == b.l.lv) = true := by simp [hl]
      rw [hl'] at HZ
      clear hl
      cases z with
      | true =>
        go_enter Tryd.func77, Tryd.ntmps77
        go_wp2_with (first
          | (go_at_call 92; go_must (refine (HS _).out.mono ?_); rintro e w2 ⟨rfl, hw⟩; have hw := hw.symm; subst hw)
          | (go_at_call 91; go_must (refine HC.out.mono ?_); rintro e w1 ⟨rfl, hb⟩; have HB1 := hide hb; obtain ⟨⟨-, -, x2, -, -⟩, ⟨-, -, y2, -, -⟩⟩ := HCell.out w1 (hb.mono (by simp)); clear hb))
        go_ret
        exact ⟨by rw [HZ.out]; rfl, HN.out.trans (HB1.out.mono HN.out.size)⟩
      | false =>
        go_enter Tryd.func77, Tryd.ntmps77
        go_wp2_with (first
          | (go_at_call 91; go_must (refine HC.out.mono ?_); rintro e w1 ⟨rfl, hb⟩; have HB1 := hide hb; clear hb))
        go_ret
        exact ⟨by rw [HZ.out]; rfl, HN.out.trans (HB1.out.mono HN.out.size)⟩
    · have hl' : (a.l.lv == b.l.lv) = false := by simp [hl]
      rw [hl'] at HZ
      clear hl
      go_enter Tryd.func77, Tryd.ntmps77
      go_wp2
      go_ret
      exact ⟨by rw [HZ.out]; rfl, HN.out⟩
  · have ht' : (a.l.tx == b.l.tx) = false := by simp [ht]
    rw [ht'] at HZ
    clear ht
    go_enter Tryd.func77, Tryd.ntmps77
    go_wp2
    go_ret
    exact ⟨by rw [HZ.out]; rfl, HN.out⟩

theorem badL_mode (x : Lck) : badL x = !(x.tx != 0 && (x.lv == 0 || x.lv == 1) && decide (1 ≤ x.md ∧ x.md ≤ 4) && !belowL x.hi x.lo) := by
  unfold badL
  have e1 : decide (1 ≤ x.md ∧ x.md ≤ 4) = (!decide (x.md < 1) && !decide (4 < x.md)) := by
    by_cases h1 : x.md < 1 <;> by_cases h2 : 4 < x.md <;> simp [h1, h2] <;> omega
  rw [e1]
  cases h : x.tx == 0 <;> cases h2 : x.lv == 0 <;> cases h3 : x.lv == 1 <;> cases decide (x.md < 1) <;> cases decide (4 < x.md) <;> cases belowL x.hi x.lo <;> simp [bne, h, h2, h3]

set_option maxHeartbeats 4000000 in
theorem mayBe_any (x : ML) (w : World) (h1 : x.ok w) :
    Calls Tryd.prog 57 #[.agg #[.int .u64 x.l.tx, .int .i64 x.l.lv, .int .i64 x.l.md, .slice x.la x.ln x.lc, .slice x.ha x.hn x.hc]] w fun e w' => e = .returned (.bool (!badL x.l)) ∧ Below w.heap.size w w' := by
  have hn := new_below w (.cells #[.int .u64 x.l.tx, .int .i64 x.l.lv, .int .i64 x.l.md, .slice x.la x.ln x.lc, .slice x.ha x.hn x.hc] 32)
  have HM := fun W => hide (isMode_any x.l.md W)
  have HA := hide (above_any x.ha x.hn x.hc x.l.hi x.la x.ln x.lc x.l.lo _ (h1.hi.keep hn) (h1.lo.keep hn))
  have HZ := hide (show (!badL x.l) = (x.l.tx != 0 && (x.l.lv == 0 || x.l.lv == 1) && decide (1 ≤ x.l.md ∧ x.l.md ≤ 4) && !belowL x.l.hi x.l.lo) by rw [badL_mode]; simp)
  obtain ⟨zm, hzm⟩ : ∃ z, decide (1 ≤ x.l.md ∧ x.l.md ≤ 4) = z := ⟨_, rfl⟩
  obtain ⟨za, hza⟩ : ∃ z, (!belowL x.l.hi x.l.lo) = z := ⟨_, rfl⟩
  obtain ⟨zb, hzb⟩ : ∃ z, (!badL x.l) = z := ⟨_, rfl⟩
  rw [hzm] at HM HZ
  rw [hza] at HA HZ
  rw [hzb] at HZ
  rw [hzb]
  have HN := hide hn
  clear h1 hn hzm hza hzb
  by_cases ht : x.l.tx = 0
  · have ht' : (x.l.tx != 0) = false := by simp [ht]
    rw [ht'] at HZ
    clear ht
    go_enter Tryd.func57, Tryd.ntmps57
    go_wp2
    go_ret
    exact ⟨by rw [HZ.out]; rfl, HN.out⟩
  have ht' : (x.l.tx != 0) = true := by simp [ht]
  rw [ht'] at HZ
  clear ht
  by_cases hl0 : x.l.lv = 0
  · have hl0' : (x.l.lv == 0) = true := by simp [hl0]
    rw [hl0'] at HZ
    clear hl0
    cases zm with
    | true =>
      go_enter Tryd.func57, Tryd.ntmps57
      go_wp2_with (first
        | (go_at_call 74; go_must (refine HA.out.mono ?_); rintro e w2 ⟨rfl, hw⟩; have hw := hw.symm; subst hw)
        | (go_at_call 73; go_must (refine (HM _).out.mono ?_); rintro e w2 ⟨rfl, hw⟩; have hw := hw.symm; subst hw))
      go_ret
      exact ⟨by rw [HZ.out]; simp, HN.out⟩
    | false =>
      go_enter Tryd.func57, Tryd.ntmps57
      go_wp2_with (first
        | (go_at_call 73; go_must (refine (HM _).out.mono ?_); rintro e w2 ⟨rfl, hw⟩; have hw := hw.symm; subst hw))
      go_ret
      exact ⟨by rw [HZ.out]; simp, HN.out⟩
  have hl0' : (x.l.lv == 0) = false := by simp [hl0]
  rw [hl0'] at HZ
  clear hl0
  by_cases hl1 : x.l.lv = 1
  · have hl1' : (x.l.lv == 1) = true := by simp [hl1]
    rw [hl1'] at HZ
    clear hl1
    cases zm with
    | true =>
      go_enter Tryd.func57, Tryd.ntmps57
      go_wp2_with (first
        | (go_at_call 74; go_must (refine HA.out.mono ?_); rintro e w2 ⟨rfl, hw⟩; have hw := hw.symm; subst hw)
        | (go_at_call 73; go_must (refine (HM _).out.mono ?_); rintro e w2 ⟨rfl, hw⟩; have hw := hw.symm; subst hw))
      go_ret
      exact ⟨by rw [HZ.out]; simp, HN.out⟩
    | false =>
      go_enter Tryd.func57, Tryd.ntmps57
      go_wp2_with (first
        | (go_at_call 73; go_must (refine (HM _).out.mono ?_); rintro e w2 ⟨rfl, hw⟩; have hw := hw.symm; subst hw))
      go_ret
      exact ⟨by rw [HZ.out]; simp, HN.out⟩
  have hl1' : (x.l.lv == 1) = false := by simp [hl1]
  rw [hl1'] at HZ
  clear hl1
  go_enter Tryd.func57, Tryd.ntmps57
  go_wp2
  go_ret
  exact ⟨by rw [HZ.out]; simp, HN.out⟩

theorem bequal_any (a : Option Addr) (la ca : Nat) (xs : List Int) (b : Option Addr) (lb cb : Nat) (ys : List Int) (w : World) (h : IsBytes w a la ca xs) (h' : IsBytes w b lb cb ys) :
    Calls Tryd.prog 35 #[.slice a la ca, .slice b lb cb] w fun e w' => e = .returned (.bool (decide (xs = ys))) ∧ w' = w := by
  have q1 := h.conv
  have q2 := h'.conv
  have HE := hide (strB_eq xs ys h.2.2.2.1 h'.2.2.2.1)
  clear h h'
  go_enter Tryd.func35, Tryd.ntmps35
  go_wp2
  go_ret
  refine ⟨?_, rfl⟩
  rw [← HE.out]; rfl

set_option maxHeartbeats 4000000 in
theorem psame_any (a b : ML) (w : World) (h1 : a.ok w) (h2 : b.ok w) :
    Calls Tryd.prog 78 #[.agg #[.int .u64 a.l.tx, .int .i64 a.l.lv, .int .i64 a.l.md, .slice a.la a.ln a.lc, .slice a.ha a.hn a.hc], .agg #[.int .u64 b.l.tx, .int .i64 b.l.lv, .int .i64 b.l.md, .slice b.la b.ln b.lc, .slice b.ha b.hn b.hc]] w fun e w' => e = .returned (.bool (decide (a.l = b.l))) ∧ Below w.heap.size w w' := by
  have hn := ((Below.refl _ w).alloc (Nat.le_refl _) (.cells #[.int .u64 a.l.tx, .int .i64 a.l.lv, .int .i64 a.l.md, .slice a.la a.ln a.lc, .slice a.ha a.hn a.hc] 32)).alloc (by simp) (.cells #[.int .u64 b.l.tx, .int .i64 b.l.lv, .int .i64 b.l.md, .slice b.la b.ln b.lc, .slice b.ha b.hn b.hc] 32)
  have HN := hide hn
  have HC1 := hide (bequal_any a.la a.ln a.lc a.l.lo b.la b.ln b.lc b.l.lo _ (h1.lo.keep hn) (h2.lo.keep hn))
  have HC2 := hide (bequal_any a.ha a.hn a.hc a.l.hi b.ha b.hn b.hc b.l.hi _ (h1.hi.keep hn) (h2.hi.keep hn))
  obtain ⟨z, hz⟩ : ∃ z, decide (a.l = b.l) = z := ⟨_, rfl⟩
  rw [hz]
  rw [lck_eq] at hz
  obtain ⟨y1, hy1⟩ : ∃ y, decide (a.l.lo = b.l.lo) = y := ⟨_, rfl⟩
  obtain ⟨y2, hy2⟩ : ∃ y, decide (a.l.hi = b.l.hi) = y := ⟨_, rfl⟩
  rw [hy1] at hz HC1
  rw [hy2] at hz HC2
  have HZ := hide hz
  clear h1 h2 hn hz hy1 hy2
  by_cases ht : a.l.tx = b.l.tx
  · have ht' : (a.l.tx == b.l.tx) = true := by simp [ht]
    by_cases hl : a.l.lv = b.l.lv
    · have hl' : (a.l.lv == b.l.lv) = true := by simp [hl]
      by_cases hm : a.l.md = b.l.md
      · have hm' : (a.l.md == b.l.md) = true := by simp [hm]
        rw [ht', hl', hm'] at HZ
        clear ht hl hm
        cases y1 with
        | true =>
          have HZ2 : Hid (z = y2) := by rw [← HZ.out]; rfl
          go_enter Tryd.func78, Tryd.ntmps78
          go_wp2_with (first
            | (go_at_call_of 35 a.hn; go_must (refine HC2.out.mono ?_); rintro e w2 ⟨rfl, hw⟩; have hw := hw.symm; subst hw)
            | (go_at_call 35; go_must (refine HC1.out.mono ?_); rintro e w2 ⟨rfl, hw⟩; have hw := hw.symm; subst hw))
          go_ret
          exact ⟨by rw [HZ2.out]; rfl, HN.out⟩
        | false =>
          have HZ2 : Hid (z = false) := by rw [← HZ.out]; rfl
          go_enter Tryd.func78, Tryd.ntmps78
          go_wp2_with (first
            | (go_at_call 35; go_must (refine HC1.out.mono ?_); rintro e w2 ⟨rfl, hw⟩; have hw := hw.symm; subst hw))
          go_ret
          exact ⟨by rw [HZ2.out]; rfl, HN.out⟩
      · have hm' : (a.l.md == b.l.md) = false := by simp [hm]
        rw [ht', hl', hm'] at HZ
        have HZ2 : Hid (z = false) := by rw [← HZ.out]; rfl
        clear ht hl hm
        go_enter Tryd.func78, Tryd.ntmps78
        go_wp2
        go_ret
        exact ⟨by rw [HZ2.out]; rfl, HN.out⟩
    · have hl' : (a.l.lv == b.l.lv) = false := by simp [hl]
      rw [ht', hl'] at HZ
      have HZ2 : Hid (z = false) := by rw [← HZ.out]; rfl
      clear ht hl
      go_enter Tryd.func78, Tryd.ntmps78
      go_wp2
      go_ret
      exact ⟨by rw [HZ2.out]; rfl, HN.out⟩
  · have ht' : (a.l.tx == b.l.tx) = false := by simp [ht]
    rw [ht'] at HZ
    have HZ2 : Hid (z = false) := by rw [← HZ.out]; rfl
    clear ht
    go_enter Tryd.func78, Tryd.ntmps78
    go_wp2
    go_ret
    exact ⟨by rw [HZ2.out]; rfl, HN.out⟩

end Go.Proofs.YtepaflofbcokaaaDoor
