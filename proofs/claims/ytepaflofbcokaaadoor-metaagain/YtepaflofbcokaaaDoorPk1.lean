/- The program's table of modes; Fits, above, meet, encloses, serves, Apart, Covers, mayBe, same: what they answer. -/
import Derived.Test.YtepaflofbcokaaaDoorLkM
namespace Go.Proofs.YtepaflofbcokaaaDoor
open Go.RowKit NumMath Go.ChangeShapes Go.WideShapes Go.Deep
set_option linter.unusedVariables false
set_option maxRecDepth 100000

/-- the program's table of modes -/
def fitV : List Value := [.bool false, .bool false, .bool false, .bool false, .bool false, .bool false, .bool true, .bool true, .bool true, .bool false, .bool false, .bool true, .bool true, .bool false, .bool false, .bool false, .bool true, .bool false, .bool true, .bool false, .bool false, .bool false, .bool false, .bool false, .bool false]

/-- it lies in the first block -/
def FitW (w : World) : Prop := w.rangeAt 0 0 fitV ∧ 0 < w.heap.size

theorem FitW.keep {w w' : World} (h : FitW w) (hb : Below w.heap.size w w') : FitW w' := ⟨rangeY_same h.1 (hb.block 0 h.2), Nat.lt_of_lt_of_le h.2 hb.size⟩

theorem FitW.lies {w w' : World} {X : Nat → Prop} (h : FitW w) (hk : Keeps X w w') (hX : ¬ X 0) : FitW w' := ⟨rangeY_same h.1 (hk.block 0 h.2 hX), Nat.lt_of_lt_of_le h.2 hk.size⟩

theorem isMode_any (a : Int) (w : World) : Calls Tryd.prog 73 #[.int .i64 a] w fun e w' => e = .returned (.bool (decide (1 ≤ a ∧ a ≤ 4))) ∧ w' = w := by
  by_cases h1 : 1 ≤ a
  · by_cases h2 : a ≤ 4
    · have e : decide (1 ≤ a ∧ a ≤ 4) = true := decide_eq_true ⟨h1, h2⟩
      rw [e]
      go_enter Tryd.func73, Tryd.ntmps73
      go_wp2
      go_ret
      exact ⟨rfl, rfl⟩
    · have e : decide (1 ≤ a ∧ a ≤ 4) = false := decide_eq_false (fun h => h2 h.2)
      rw [e]
      go_enter Tryd.func73, Tryd.ntmps73
      go_wp2
      go_ret
      exact ⟨rfl, rfl⟩
  · have e : decide (1 ≤ a ∧ a ≤ 4) = false := decide_eq_false (fun h => h1 h.1)
    rw [e]
    go_enter Tryd.func73, Tryd.ntmps73
    go_wp2
    go_ret
    exact ⟨rfl, rfl⟩

theorem isMode_in (a : Int) (w : World) (h : 1 ≤ a ∧ a ≤ 4) : Calls Tryd.prog 73 #[.int .i64 a] w fun e w' => e = .returned (.bool true) ∧ w' = w := by
  have := isMode_any a w
  rwa [decide_eq_true h] at this

theorem fits_out {a b : Int} (h : ¬ (1 ≤ a ∧ a ≤ 4)) : fitsL a b = false := by
  unfold fitsL fits2
  split
  · rw [if_pos (by omega)]
  · rw [if_pos (by omega)]

set_option maxHeartbeats 2000000 in
theorem pfits_any (a b : Int) (w : World) (hF : FitW w) : Calls Tryd.prog 81 #[.int .i64 a, .int .i64 b] w fun e w' => e = .returned (.bool (fitsL a b)) ∧ w' = w := by
  have HM1 := hide (isMode_any a w)
  have HM2 := hide (isMode_any b w)
  by_cases ha : 1 ≤ a ∧ a ≤ 4
  · rw [decide_eq_true ha] at HM1
    by_cases hb : 1 ≤ b ∧ b ≤ 4
    · rw [decide_eq_true hb] at HM2
      have h6 : w.cell? ⟨0, 6, none⟩ = some (.bool true) := hF.1 6 _ rfl
      have h7 : w.cell? ⟨0, 7, none⟩ = some (.bool true) := hF.1 7 _ rfl
      have h8 : w.cell? ⟨0, 8, none⟩ = some (.bool true) := hF.1 8 _ rfl
      have h9 : w.cell? ⟨0, 9, none⟩ = some (.bool false) := hF.1 9 _ rfl
      have h11 : w.cell? ⟨0, 11, none⟩ = some (.bool true) := hF.1 11 _ rfl
      have h12 : w.cell? ⟨0, 12, none⟩ = some (.bool true) := hF.1 12 _ rfl
      have h13 : w.cell? ⟨0, 13, none⟩ = some (.bool false) := hF.1 13 _ rfl
      have h14 : w.cell? ⟨0, 14, none⟩ = some (.bool false) := hF.1 14 _ rfl
      have h16 : w.cell? ⟨0, 16, none⟩ = some (.bool true) := hF.1 16 _ rfl
      have h17 : w.cell? ⟨0, 17, none⟩ = some (.bool false) := hF.1 17 _ rfl
      have h18 : w.cell? ⟨0, 18, none⟩ = some (.bool true) := hF.1 18 _ rfl
      have h19 : w.cell? ⟨0, 19, none⟩ = some (.bool false) := hF.1 19 _ rfl
      have h21 : w.cell? ⟨0, 21, none⟩ = some (.bool false) := hF.1 21 _ rfl
      have h22 : w.cell? ⟨0, 22, none⟩ = some (.bool false) := hF.1 22 _ rfl
      have h23 : w.cell? ⟨0, 23, none⟩ = some (.bool false) := hF.1 23 _ rfl
      have h24 : w.cell? ⟨0, 24, none⟩ = some (.bool false) := hF.1 24 _ rfl
      clear hF
      have ha2 : a = 1 ∨ a = 2 ∨ a = 3 ∨ a = 4 := by omega
      have hb2 : b = 1 ∨ b = 2 ∨ b = 3 ∨ b = 4 := by omega
      clear ha hb
      rcases ha2 with rfl | rfl | rfl | rfl
      all_goals
        rcases hb2 with rfl | rfl | rfl | rfl
        all_goals
          go_enter Tryd.func81, Tryd.ntmps81
          go_wp2_with (first
            | (go_at_call 73; refine (isMode_in _ _ (by decide)).mono ?_; rintro e w' ⟨rfl, hw⟩; have hw := hw.symm; subst hw))
          go_ret
          exact ⟨rfl, rfl⟩
    · rw [decide_eq_false hb] at HM2
      rw [fitsL_symm, fits_out hb]
      clear hF ha hb
      go_enter Tryd.func81, Tryd.ntmps81
      go_wp2_with (first
        | (go_at_call_of 73 a; refine HM1.out.mono ?_; rintro e w' ⟨rfl, hw⟩; have hw := hw.symm; subst hw)
        | (go_at_call 73; refine HM2.out.mono ?_; rintro e w' ⟨rfl, hw⟩; have hw := hw.symm; subst hw))
      go_ret
      exact ⟨rfl, rfl⟩
  · rw [decide_eq_false ha] at HM1
    rw [fits_out ha]
    clear hF ha
    go_enter Tryd.func81, Tryd.ntmps81
    go_wp2_with (first
      | (go_at_call 73; refine HM1.out.mono ?_; rintro e w' ⟨rfl, hw⟩; have hw := hw.symm; subst hw))
    go_ret
    exact ⟨rfl, rfl⟩

theorem above_is (hi lo : List Int) : withinB lo [] hi = !belowL hi lo := by
  unfold withinB belowL
  have : lessL lo [] = false := by cases lo <;> rfl
  rw [this]
  cases hi with
  | nil => rfl
  | cons x r => simp

theorem above_any (ha : Option Addr) (hn hc : Nat) (hi : List Int) (ka : Option Addr) (kn kc : Nat) (key : List Int) (w : World) (h1 : IsBytes w ha hn hc hi) (h2 : IsBytes w ka kn kc key) :
    Calls Tryd.prog 74 #[.slice ha hn hc, .slice ka kn kc] w fun e w' => e = .returned (.bool (!belowL hi key)) ∧ w' = w := by
  have HC := hide (within_any ka kn kc key none 0 0 [] ha hn hc hi w h2 ⟨rfl, Nat.le_refl _, Nat.zero_le _, by simp, .inl rfl⟩ h1)
  rw [above_is] at HC
  clear h1 h2
  go_enter Tryd.func74, Tryd.ntmps74
  go_wp2_with (first
    | (go_at_call 90; go_must (refine HC.out.mono ?_); rintro e w1 ⟨rfl, hw⟩; have hw := hw.symm; subst hw))
  go_ret
  exact ⟨rfl, rfl⟩

/-- whether two locks have keys in common, whatever their levels -/
def meetK (a b : Lck) : Bool := !belowL a.hi b.lo && !belowL b.hi a.lo

set_option maxHeartbeats 2000000 in
theorem meet_any (a b : ML) (w : World) (h1 : a.ok w) (h2 : b.ok w) :
    Calls Tryd.prog 93 #[.agg #[.int .u64 a.l.tx, .int .i64 a.l.lv, .int .i64 a.l.md, .slice a.la a.ln a.lc, .slice a.ha a.hn a.hc], .agg #[.int .u64 b.l.tx, .int .i64 b.l.lv, .int .i64 b.l.md, .slice b.la b.ln b.lc, .slice b.ha b.hn b.hc]] w fun e w' => e = .returned (.bool (meetK a.l b.l)) ∧ Below w.heap.size w w' := by
  have hn := ((Below.refl _ w).alloc (Nat.le_refl _) (.cells #[.int .u64 a.l.tx, .int .i64 a.l.lv, .int .i64 a.l.md, .slice a.la a.ln a.lc, .slice a.ha a.hn a.hc] 32)).alloc (by simp) (.cells #[.int .u64 b.l.tx, .int .i64 b.l.lv, .int .i64 b.l.md, .slice b.la b.ln b.lc, .slice b.ha b.hn b.hc] 32)
  have HC1 := hide (above_any a.ha a.hn a.hc a.l.hi b.la b.ln b.lc b.l.lo _ (h1.hi.keep hn) (h2.lo.keep hn))
  have HC2 := hide (above_any b.ha b.hn b.hc b.l.hi a.la a.ln a.lc a.l.lo _ (h2.hi.keep hn) (h1.lo.keep hn))
  obtain ⟨z1, hz1⟩ : ∃ z, belowL a.l.hi b.l.lo = z := ⟨_, rfl⟩
  obtain ⟨z2, hz2⟩ : ∃ z, belowL b.l.hi a.l.lo = z := ⟨_, rfl⟩
  have hz : meetK a.l b.l = (!z1 && !z2) := by unfold meetK; rw [hz1, hz2]
  rw [hz1] at HC1
  rw [hz2] at HC2
  rw [hz]
  have HN := hide hn
  clear h1 h2 hz1 hz2 hn hz
  cases z1 with
  | true =>
    go_enter Tryd.func93, Tryd.ntmps93
    go_wp2_with (first
      | (go_at_call 74; go_must (refine HC1.out.mono ?_); rintro e w1 ⟨rfl, hw⟩; have hw := hw.symm; subst hw))
    go_ret
    exact ⟨rfl, HN.out⟩
  | false =>
    go_enter Tryd.func93, Tryd.ntmps93
    go_wp2_with (first
      | (go_at_call_of 74 b.hn; go_must (refine HC2.out.mono ?_); rintro e w2 ⟨rfl, hw⟩; have hw := hw.symm; subst hw)
      | (go_at_call 74; go_must (refine HC1.out.mono ?_); rintro e w1 ⟨rfl, hw⟩; have hw := hw.symm; subst hw))
    go_ret
    exact ⟨by cases z2 <;> rfl, HN.out⟩

theorem apartL_meet (a b : Lck) : apartL a b = (a.lv != b.lv || !meetK a b || a.tx == b.tx) := by
  unfold apartL meetsL meetK
  cases h1 : a.tx == b.tx <;> cases h2 : a.lv == b.lv <;> cases belowL a.hi b.lo <;> cases belowL b.hi a.lo <;> simp [bne, h2]

theorem meetsL_meet (a b : Lck) : meetsL a b = (a.lv == b.lv && meetK a b) := by
  unfold meetsL meetK
  cases a.lv == b.lv <;> cases belowL a.hi b.lo <;> cases belowL b.hi a.lo <;> rfl

set_option maxHeartbeats 2000000 in
theorem papart_any (a b : ML) (w : World) (h1 : a.ok w) (h2 : b.ok w) :
    Calls Tryd.prog 80 #[.agg #[.int .u64 a.l.tx, .int .i64 a.l.lv, .int .i64 a.l.md, .slice a.la a.ln a.lc, .slice a.ha a.hn a.hc], .agg #[.int .u64 b.l.tx, .int .i64 b.l.lv, .int .i64 b.l.md, .slice b.la b.ln b.lc, .slice b.ha b.hn b.hc]] w fun e w' => e = .returned (.bool (apartL a.l b.l)) ∧ Below w.heap.size w w' := by
  have hn := ((Below.refl _ w).alloc (Nat.le_refl _) (.cells #[.int .u64 a.l.tx, .int .i64 a.l.lv, .int .i64 a.l.md, .slice a.la a.ln a.lc, .slice a.ha a.hn a.hc] 32)).alloc (by simp) (.cells #[.int .u64 b.l.tx, .int .i64 b.l.lv, .int .i64 b.l.md, .slice b.la b.ln b.lc, .slice b.ha b.hn b.hc] 32)
  have HC := hide (meet_any a b _ (h1.keep hn) (h2.keep hn))
  have HCell : Hid (∀ V, Below (w.heap.size + 2) ((w.alloc (.cells #[.int .u64 a.l.tx, .int .i64 a.l.lv, .int .i64 a.l.md, .slice a.la a.ln a.lc, .slice a.ha a.hn a.hc] 32)).alloc (.cells #[.int .u64 b.l.tx, .int .i64 b.l.lv, .int .i64 b.l.md, .slice b.la b.ln b.lc, .slice b.ha b.hn b.hc] 32)) V → At5 V w.heap.size 0 a ∧ At5 V (w.heap.size + 1) 0 b) := by
    intro V hV
    constructor
    · exact ((at5_new w a).same ((new_below _ (.cells #[.int .u64 b.l.tx, .int .i64 b.l.lv, .int .i64 b.l.md, .slice b.la b.ln b.lc, .slice b.ha b.hn b.hc] 32)).block _ (by simp))).same (hV.block _ (by omega))
    · exact at5_of (rangeY_same (rangeY_new (w.alloc (.cells #[.int .u64 a.l.tx, .int .i64 a.l.lv, .int .i64 a.l.md, .slice a.la a.ln a.lc, .slice a.ha a.hn a.hc] 32)) (w.heap.size + 1) #[.int .u64 b.l.tx, .int .i64 b.l.lv, .int .i64 b.l.md, .slice b.la b.ln b.lc, .slice b.ha b.hn b.hc] 32 (by simp)) (hV.block _ (by omega)))
  obtain ⟨z, hz⟩ : ∃ z, meetK a.l b.l = z := ⟨_, rfl⟩
  rw [hz] at HC
  have HZ := hide (apartL_meet a.l b.l)
  rw [hz] at HZ
  have HN := hide hn
  clear h1 h2 hn hz
  by_cases hl : a.l.lv = b.l.lv
  · have hl' : (a.l.lv != b.l.lv) = false := by simp [hl]
    rw [hl'] at HZ
    clear hl
    cases z with
    | true =>
      go_enter Tryd.func80, Tryd.ntmps80
      go_wp2_with (first
        | (go_at_call 93; go_must (refine HC.out.mono ?_); rintro e w1 ⟨rfl, hb⟩; have HB1 := hide hb; obtain ⟨⟨x0, -, -, -, -⟩, ⟨y0, -, -, -, -⟩⟩ := HCell.out w1 (hb.mono (by simp)); clear hb))
      go_ret
      exact ⟨by rw [HZ.out]; rfl, HN.out.trans (HB1.out.mono HN.out.size)⟩
    | false =>
      go_enter Tryd.func80, Tryd.ntmps80
      go_wp2_with (first
        | (go_at_call 93; go_must (refine HC.out.mono ?_); rintro e w1 ⟨rfl, hb⟩; have HB1 := hide hb; clear hb))
      go_ret
      exact ⟨by rw [HZ.out]; rfl, HN.out.trans (HB1.out.mono HN.out.size)⟩
  · have hl' : (a.l.lv != b.l.lv) = true := by simp [hl]
    rw [hl'] at HZ
    clear hl
    go_enter Tryd.func80, Tryd.ntmps80
    go_wp2
    go_ret
    exact ⟨by rw [HZ.out]; rfl, HN.out⟩

theorem cmpB_pos (xs ys : List Int) : decide (0 < cmpB xs ys) = lessL ys xs := by
  unfold cmpB
  cases h : lessL xs ys
  · by_cases e : xs = ys
    · subst e; simp [lessL_self]
    · rw [if_neg (by simp), if_neg e]
      cases h2 : lessL ys xs
      · exact absurd (lessL_total xs ys h h2) e
      · rfl
  · rw [if_pos rfl, lessL_anti xs ys h]; rfl

theorem cmpB_ge (xs ys : List Int) : decide (0 ≤ cmpB xs ys) = !lessL xs ys := by
  unfold cmpB
  cases h : lessL xs ys
  · by_cases e : xs = ys
    · rw [if_neg (by simp), if_pos e]; rfl
    · rw [if_neg (by simp), if_neg e]; rfl
  · rw [if_pos rfl]; rfl

end Go.Proofs.YtepaflofbcokaaaDoor
