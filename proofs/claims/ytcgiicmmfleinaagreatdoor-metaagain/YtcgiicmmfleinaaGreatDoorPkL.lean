/- The program's table of modes; Fits, above, meet, encloses, serves, Apart, Covers, mayBe, same: what they answer. The program's encloses, serves, Covers, mayBe, same: what they answer. copyOf: a lock whose keys share no memory with what was there. Lists of locks looked through by a closure: slices.IndexFunc, ContainsFunc, DeleteFunc; without. -/
import Derived.Test.YtcgiicmmfleinaaGreatDoorLkM
import Derived.Test.YtcgiicmmfleinaaGreatDoorFtA
import Derived.Test.YtcgiicmmfleinaaGreatDoorTxE
import Derived.Test.YtcgiicmmfleinaaGreatDoorRwY
namespace Go.Proofs.YtcgiicmmfleinaaGreatDoor
open Go.RowKit NumMath Go.ChangeShapes Go.WideShapes Go.Deep
set_option linter.unusedVariables false
set_option maxRecDepth 100000

/-- the program's table of modes -/
def fitV : List Value := [.bool false, .bool false, .bool false, .bool false, .bool false, .bool false, .bool true, .bool true, .bool true, .bool false, .bool false, .bool true, .bool true, .bool false, .bool false, .bool false, .bool true, .bool false, .bool true, .bool false, .bool false, .bool false, .bool false, .bool false, .bool false]

/-- it lies in the first block -/
def FitW (w : World) : Prop := w.rangeAt 0 0 fitV ∧ 0 < w.heap.size

theorem FitW.keep {w w' : World} (h : FitW w) (hb : Below w.heap.size w w') : FitW w' := ⟨rangeY_same h.1 (hb.block 0 h.2), Nat.lt_of_lt_of_le h.2 hb.size⟩

theorem FitW.lies {w w' : World} {X : Nat → Prop} (h : FitW w) (hk : Keeps X w w') (hX : ¬ X 0) : FitW w' := ⟨rangeY_same h.1 (hk.block 0 h.2 hX), Nat.lt_of_lt_of_le h.2 hk.size⟩

theorem isMode_any (a : Int) (w : World) : Calls Tryz.prog 162 #[.int .i64 a] w fun e w' => e = .returned (.bool (decide (1 ≤ a ∧ a ≤ 4))) ∧ w' = w := by
  by_cases h1 : 1 ≤ a
  · by_cases h2 : a ≤ 4
    · have e : decide (1 ≤ a ∧ a ≤ 4) = true := decide_eq_true ⟨h1, h2⟩
      rw [e]
      go_enter Tryz.func162, Tryz.ntmps162
      go_wp2
      go_ret
      exact ⟨rfl, rfl⟩
    · have e : decide (1 ≤ a ∧ a ≤ 4) = false := decide_eq_false (fun h => h2 h.2)
      rw [e]
      go_enter Tryz.func162, Tryz.ntmps162
      go_wp2
      go_ret
      exact ⟨rfl, rfl⟩
  · have e : decide (1 ≤ a ∧ a ≤ 4) = false := decide_eq_false (fun h => h1 h.1)
    rw [e]
    go_enter Tryz.func162, Tryz.ntmps162
    go_wp2
    go_ret
    exact ⟨rfl, rfl⟩

theorem isMode_in (a : Int) (w : World) (h : 1 ≤ a ∧ a ≤ 4) : Calls Tryz.prog 162 #[.int .i64 a] w fun e w' => e = .returned (.bool true) ∧ w' = w := by
  have := isMode_any a w
  rwa [decide_eq_true h] at this

theorem fits_out {a b : Int} (h : ¬ (1 ≤ a ∧ a ≤ 4)) : fitsL a b = false := by
  unfold fitsL fits2
  split
  · rw [if_pos (by omega)]
  · rw [if_pos (by omega)]

set_option maxHeartbeats 2000000 in
theorem pfits_any (a b : Int) (w : World) (hF : FitW w) : Calls Tryz.prog 170 #[.int .i64 a, .int .i64 b] w fun e w' => e = .returned (.bool (fitsL a b)) ∧ w' = w := by
  have HM1 := hide (isMode_any a w)
  have HM2 := hide (isMode_any b w)
  by_cases ha : 1 ≤ a ∧ a ≤ 4
  · rw [decide_eq_true ha] at HM1
    by_cases hb : 1 ≤ b ∧ b ≤ 4
    · rw [decide_eq_true hb] at HM2
      have h6 : w.cell? ⟨0, 6, none⟩ = some (.bool true) := hF.1 6 _ rfl
      have h7 : w.cell? ⟨0, 7, none⟩ = some (.bool true) := hF.1 7 _ rfl
      have h8 : w.cell? ⟨0, 8, none⟩ = some (.bool true) := hF.1 8 _ rfl
      have h9 : w.cell? ⟨0, 9, none⟩ = some (.bool false) := hF.1 9 _ rfl
      have h11 : w.cell? ⟨0, 11, none⟩ = some (.bool true) := hF.1 11 _ rfl
      have h12 : w.cell? ⟨0, 12, none⟩ = some (.bool true) := hF.1 12 _ rfl
      have h13 : w.cell? ⟨0, 13, none⟩ = some (.bool false) := hF.1 13 _ rfl
      have h14 : w.cell? ⟨0, 14, none⟩ = some (.bool false) := hF.1 14 _ rfl
      have h16 : w.cell? ⟨0, 16, none⟩ = some (.bool true) := hF.1 16 _ rfl
      have h17 : w.cell? ⟨0, 17, none⟩ = some (.bool false) := hF.1 17 _ rfl
      have h18 : w.cell? ⟨0, 18, none⟩ = some (.bool true) := hF.1 18 _ rfl
      have h19 : w.cell? ⟨0, 19, none⟩ = some (.bool false) := hF.1 19 _ rfl
      have h21 : w.cell? ⟨0, 21, none⟩ = some (.bool false) := hF.1 21 _ rfl
      have h22 : w.cell? ⟨0, 22, none⟩ = some (.bool false) := hF.1 22 _ rfl
      have h23 : w.cell? ⟨0, 23, none⟩ = some (.bool false) := hF.1 23 _ rfl
      have h24 : w.cell? ⟨0, 24, none⟩ = some (.bool false) := hF.1 24 _ rfl
      clear hF
      have ha2 : a = 1 ∨ a = 2 ∨ a = 3 ∨ a = 4 := by omega
      have hb2 : b = 1 ∨ b = 2 ∨ b = 3 ∨ b = 4 := by omega
      clear ha hb
      rcases ha2 with rfl | rfl | rfl | rfl
      all_goals
        rcases hb2 with rfl | rfl | rfl | rfl
        all_goals
          go_enter Tryz.func170, Tryz.ntmps170
          go_wp2_with (first
            | (go_at_call 162; refine (isMode_in _ _ (by decide)).mono ?_; rintro e w' ⟨rfl, hw⟩; have hw := hw.symm; subst hw))
          go_ret
          exact ⟨rfl, rfl⟩
    · rw [decide_eq_false hb] at HM2
      rw [fitsL_symm, fits_out hb]
      clear hF ha hb
      go_enter Tryz.func170, Tryz.ntmps170
      go_wp2_with (first
        | (go_at_call_of 162 a; refine HM1.out.mono ?_; rintro e w' ⟨rfl, hw⟩; have hw := hw.symm; subst hw)
        | (go_at_call 162; refine HM2.out.mono ?_; rintro e w' ⟨rfl, hw⟩; have hw := hw.symm; subst hw))
      go_ret
      exact ⟨rfl, rfl⟩
  · rw [decide_eq_false ha] at HM1
    rw [fits_out ha]
    clear hF ha
    go_enter Tryz.func170, Tryz.ntmps170
    go_wp2_with (first
      | (go_at_call 162; refine HM1.out.mono ?_; rintro e w' ⟨rfl, hw⟩; have hw := hw.symm; subst hw))
    go_ret
    exact ⟨rfl, rfl⟩

theorem above_is (hi lo : List Int) : withinB lo [] hi = !belowL hi lo := by
  unfold withinB belowL
  have : lessL lo [] = false := by cases lo <;> rfl
  rw [this]
  cases hi with
  | nil => rfl
  | cons x r => simp

theorem above_any (ha : Option Addr) (hn hc : Nat) (hi : List Int) (ka : Option Addr) (kn kc : Nat) (key : List Int) (w : World) (h1 : IsBytes w ha hn hc hi) (h2 : IsBytes w ka kn kc key) :
    Calls Tryz.prog 163 #[.slice ha hn hc, .slice ka kn kc] w fun e w' => e = .returned (.bool (!belowL hi key)) ∧ w' = w := by
  have HC := hide (within_any ka kn kc key none 0 0 [] ha hn hc hi w h2 ⟨rfl, Nat.le_refl _, Nat.zero_le _, by simp, .inl rfl⟩ h1)
  rw [above_is] at HC
  clear h1 h2
  go_enter Tryz.func163, Tryz.ntmps163
  go_wp2_with (first
    | (go_at_call 183; go_must (refine HC.out.mono ?_); rintro e w1 ⟨rfl, hw⟩; have hw := hw.symm; subst hw))
  go_ret
  exact ⟨rfl, rfl⟩

/-- whether two locks have keys in common, whatever their levels -/
def meetK (a b : Lck) : Bool := !belowL a.hi b.lo && !belowL b.hi a.lo

set_option maxHeartbeats 2000000 in
theorem meet_any (a b : ML) (w : World) (h1 : a.ok w) (h2 : b.ok w) :
    Calls Tryz.prog 186 #[.agg #[.int .u64 a.l.tx, .int .i64 a.l.lv, .int .i64 a.l.md, .slice a.la a.ln a.lc, .slice a.ha a.hn a.hc], .agg #[.int .u64 b.l.tx, .int .i64 b.l.lv, .int .i64 b.l.md, .slice b.la b.ln b.lc, .slice b.ha b.hn b.hc]] w fun e w' => e = .returned (.bool (meetK a.l b.l)) ∧ Below w.heap.size w w' := by
  have hn := ((Below.refl _ w).alloc (Nat.le_refl _) (.cells #[.int .u64 a.l.tx, .int .i64 a.l.lv, .int .i64 a.l.md, .slice a.la a.ln a.lc, .slice a.ha a.hn a.hc] 41)).alloc (by simp) (.cells #[.int .u64 b.l.tx, .int .i64 b.l.lv, .int .i64 b.l.md, .slice b.la b.ln b.lc, .slice b.ha b.hn b.hc] 41)
  have HC1 := hide (above_any a.ha a.hn a.hc a.l.hi b.la b.ln b.lc b.l.lo _ (h1.hi.keep hn) (h2.lo.keep hn))
  have HC2 := hide (above_any b.ha b.hn b.hc b.l.hi a.la a.ln a.lc a.l.lo _ (h2.hi.keep hn) (h1.lo.keep hn))
  obtain ⟨z1, hz1⟩ : ∃ z, belowL a.l.hi b.l.lo = z := ⟨_, rfl⟩
  obtain ⟨z2, hz2⟩ : ∃ z, belowL b.l.hi a.l.lo = z := ⟨_, rfl⟩
  have hz : meetK a.l b.l = (!z1 && !z2) := by unfold meetK; rw [hz1, hz2]
  rw [hz1] at HC1
  rw [hz2] at HC2
  rw [hz]
  have HN := hide hn
  clear h1 h2 hz1 hz2 hn hz
  cases z1 with
  | true =>
    go_enter Tryz.func186, Tryz.ntmps186
    go_wp2_with (first
      | (go_at_call 163; go_must (refine HC1.out.mono ?_); rintro e w1 ⟨rfl, hw⟩; have hw := hw.symm; subst hw))
    go_ret
    exact ⟨rfl, HN.out⟩
  | false =>
    go_enter Tryz.func186, Tryz.ntmps186
    go_wp2_with (first
      | (go_at_call_of 163 b.hn; go_must (refine HC2.out.mono ?_); rintro e w2 ⟨rfl, hw⟩; have hw := hw.symm; subst hw)
      | (go_at_call 163; go_must (refine HC1.out.mono ?_); rintro e w1 ⟨rfl, hw⟩; have hw := hw.symm; subst hw))
    go_ret
    exact ⟨by cases z2 <;> rfl, HN.out⟩

theorem apartL_meet (a b : Lck) : apartL a b = (a.lv != b.lv || !meetK a b || a.tx == b.tx) := by
  unfold apartL meetsL meetK
  cases h1 : a.tx == b.tx <;> cases h2 : a.lv == b.lv <;> cases belowL a.hi b.lo <;> cases belowL b.hi a.lo <;> simp [bne, h2]

theorem meetsL_meet (a b : Lck) : meetsL a b = (a.lv == b.lv && meetK a b) := by
  unfold meetsL meetK
  cases a.lv == b.lv <;> cases belowL a.hi b.lo <;> cases belowL b.hi a.lo <;> rfl

set_option maxHeartbeats 2000000 in
theorem papart_any (a b : ML) (w : World) (h1 : a.ok w) (h2 : b.ok w) :
    Calls Tryz.prog 169 #[.agg #[.int .u64 a.l.tx, .int .i64 a.l.lv, .int .i64 a.l.md, .slice a.la a.ln a.lc, .slice a.ha a.hn a.hc], .agg #[.int .u64 b.l.tx, .int .i64 b.l.lv, .int .i64 b.l.md, .slice b.la b.ln b.lc, .slice b.ha b.hn b.hc]] w fun e w' => e = .returned (.bool (apartL a.l b.l)) ∧ Below w.heap.size w w' := by
  have hn := ((Below.refl _ w).alloc (Nat.le_refl _) (.cells #[.int .u64 a.l.tx, .int .i64 a.l.lv, .int .i64 a.l.md, .slice a.la a.ln a.lc, .slice a.ha a.hn a.hc] 41)).alloc (by simp) (.cells #[.int .u64 b.l.tx, .int .i64 b.l.lv, .int .i64 b.l.md, .slice b.la b.ln b.lc, .slice b.ha b.hn b.hc] 41)
  have HC := hide (meet_any a b _ (h1.keep hn) (h2.keep hn))
  have HCell : Hid (∀ V, Below (w.heap.size + 2) ((w.alloc (.cells #[.int .u64 a.l.tx, .int .i64 a.l.lv, .int .i64 a.l.md, .slice a.la a.ln a.lc, .slice a.ha a.hn a.hc] 41)).alloc (.cells #[.int .u64 b.l.tx, .int .i64 b.l.lv, .int .i64 b.l.md, .slice b.la b.ln b.lc, .slice b.ha b.hn b.hc] 41)) V → At5 V w.heap.size 0 a ∧ At5 V (w.heap.size + 1) 0 b) := by
    intro V hV
    constructor
    · exact ((at5_new w a).same ((new_below _ (.cells #[.int .u64 b.l.tx, .int .i64 b.l.lv, .int .i64 b.l.md, .slice b.la b.ln b.lc, .slice b.ha b.hn b.hc] 41)).block _ (by simp))).same (hV.block _ (by omega))
    · exact at5_of (rangeY_same (rangeY_new (w.alloc (.cells #[.int .u64 a.l.tx, .int .i64 a.l.lv, .int .i64 a.l.md, .slice a.la a.ln a.lc, .slice a.ha a.hn a.hc] 41)) (w.heap.size + 1) #[.int .u64 b.l.tx, .int .i64 b.l.lv, .int .i64 b.l.md, .slice b.la b.ln b.lc, .slice b.ha b.hn b.hc] 41 (by simp)) (hV.block _ (by omega)))
  obtain ⟨z, hz⟩ : ∃ z, meetK a.l b.l = z := ⟨_, rfl⟩
  rw [hz] at HC
  have HZ := hide (apartL_meet a.l b.l)
  rw [hz] at HZ
  have HN := hide hn
  clear h1 h2 hn hz
  by_cases hl : a.l.lv = b.l.lv
  · have hl' : (a.l.lv != b.l.lv) = false := by simp [hl]
    rw [hl'] at HZ
    clear hl
    cases z with
    | true =>
      go_enter Tryz.func169, Tryz.ntmps169
      go_wp2_with (first
        | (go_at_call 186; go_must (refine HC.out.mono ?_); rintro e w1 ⟨rfl, hb⟩; have HB1 := hide hb; obtain ⟨⟨x0, -, -, -, -⟩, ⟨y0, -, -, -, -⟩⟩ := HCell.out w1 (hb.mono (by simp)); clear hb))
      go_ret
      exact ⟨by rw [HZ.out]; rfl, HN.out.trans (HB1.out.mono HN.out.size)⟩
    | false =>
      go_enter Tryz.func169, Tryz.ntmps169
      go_wp2_with (first
        | (go_at_call 186; go_must (refine HC.out.mono ?_); rintro e w1 ⟨rfl, hb⟩; have HB1 := hide hb; clear hb))
      go_ret
      exact ⟨by rw [HZ.out]; rfl, HN.out.trans (HB1.out.mono HN.out.size)⟩
  · have hl' : (a.l.lv != b.l.lv) = true := by simp [hl]
    rw [hl'] at HZ
    clear hl
    go_enter Tryz.func169, Tryz.ntmps169
    go_wp2
    go_ret
    exact ⟨by rw [HZ.out]; rfl, HN.out⟩

theorem cmpB_pos (xs ys : List Int) : decide (0 < cmpB xs ys) = lessL ys xs := by
  unfold cmpB
  cases h : lessL xs ys
  · by_cases e : xs = ys
    · subst e; simp [lessL_self]
    · rw [if_neg (by simp), if_neg e]
      cases h2 : lessL ys xs
      · exact absurd (lessL_total xs ys h h2) e
      · rfl
  · rw [if_pos rfl, lessL_anti xs ys h]; rfl

theorem cmpB_ge (xs ys : List Int) : decide (0 ≤ cmpB xs ys) = !lessL xs ys := by
  unfold cmpB
  cases h : lessL xs ys
  · by_cases e : xs = ys
    · rw [if_neg (by simp), if_pos e]; rfl
    · rw [if_neg (by simp), if_neg e]; rfl
  · rw [if_pos rfl]; rfl

end Go.Proofs.YtcgiicmmfleinaaGreatDoor

namespace Go.Proofs.YtcgiicmmfleinaaGreatDoor
open Go.RowKit NumMath Go.ChangeShapes Go.WideShapes Go.Deep
set_option linter.unusedVariables false
set_option maxRecDepth 100000

/-- whether a's keys have b's among them -/
def enclK (a b : Lck) : Bool := !lessL b.lo a.lo && covHi a b

set_option maxHeartbeats 4000000 in
theorem encl_any (a b : ML) (w : World) (h1 : a.ok w) (h2 : b.ok w) :
    Calls Tryz.prog 184 #[.agg #[.int .u64 a.l.tx, .int .i64 a.l.lv, .int .i64 a.l.md, .slice a.la a.ln a.lc, .slice a.ha a.hn a.hc], .agg #[.int .u64 b.l.tx, .int .i64 b.l.lv, .int .i64 b.l.md, .slice b.la b.ln b.lc, .slice b.ha b.hn b.hc]] w fun e w' => e = .returned (.bool (enclK a.l b.l)) ∧ Below w.heap.size w w' := by
  have hn := ((Below.refl _ w).alloc (Nat.le_refl _) (.cells #[.int .u64 a.l.tx, .int .i64 a.l.lv, .int .i64 a.l.md, .slice a.la a.ln a.lc, .slice a.ha a.hn a.hc] 41)).alloc (by simp) (.cells #[.int .u64 b.l.tx, .int .i64 b.l.lv, .int .i64 b.l.md, .slice b.la b.ln b.lc, .slice b.ha b.hn b.hc] 41)
  have HC1 := hide (bcompare_any a.la a.ln a.lc a.l.lo b.la b.ln b.lc b.l.lo _ (h1.lo.keep hn) (h2.lo.keep hn))
  have HC2 := hide (bcompare_any a.ha a.hn a.hc a.l.hi b.ha b.hn b.hc b.l.hi _ (h1.hi.keep hn) (h2.hi.keep hn))
  have hma : (a.hn : Int) ≤ 9223372036854775807 := by have := h1.hi.2.1; have := h1.hi.2.2.1; unfold maxLen at this; omega
  have hmb : (b.hn : Int) ≤ 9223372036854775807 := by have := h2.hi.2.1; have := h2.hi.2.2.1; unfold maxLen at this; omega
  have hah := empty_len h1.hi.1
  have hbh := empty_len h2.hi.1
  have e1 := cmpB_pos a.l.lo b.l.lo
  have e2 := cmpB_ge a.l.hi b.l.hi
  obtain ⟨c1, hc1⟩ : ∃ c, cmpB a.l.lo b.l.lo = c := ⟨_, rfl⟩
  obtain ⟨c2, hc2⟩ : ∃ c, cmpB a.l.hi b.l.hi = c := ⟨_, rfl⟩
  rw [hc1] at HC1 e1
  rw [hc2] at HC2 e2
  have HZ := hide (show enclK a.l b.l = (!decide (0 < c1) && (decide (a.hn = 0) || (!decide (b.hn = 0) && decide (0 ≤ c2)))) by
    unfold enclK covHi
    rw [e1, hah, hbh, e2])
  have HN := hide hn
  clear h1 h2 hn hc1 hc2 e1 e2 hah hbh
  by_cases p1 : 0 < c1
  · have p1' : decide (0 < c1) = true := decide_eq_true p1
    rw [p1'] at HZ
    clear p1'
    go_enter Tryz.func184, Tryz.ntmps184
    go_wp2_with (first
      | (go_at_call 192; go_must (refine HC1.out.mono ?_); rintro e w1 ⟨rfl, hw⟩; have hw := hw.symm; subst hw))
    go_ret
    exact ⟨by rw [HZ.out]; rfl, HN.out⟩
  · have p1' : decide (0 < c1) = false := decide_eq_false p1
    rw [p1'] at HZ
    clear p1'
    by_cases ca : a.hn = 0
    · have HZ2 := hide (show enclK a.l b.l = true by rw [HZ.out, decide_eq_true ca]; rfl)
      have cab : ((a.hn : Int) == 0) = true := by simp [ca]
      clear ca
      go_enter Tryz.func184, Tryz.ntmps184
      go_wp2_with (first
        | (go_at_call 192; go_must (refine HC1.out.mono ?_); rintro e w1 ⟨rfl, hw⟩; have hw := hw.symm; subst hw))
      go_ret
      exact ⟨by rw [HZ2.out]; rfl, HN.out⟩
    · have cab : ((a.hn : Int) == 0) = false := by simp [ca]
      have caN : (a.hn == 0) = false := by simp [ca]
      by_cases cb : b.hn = 0
      · have HZ2 := hide (show enclK a.l b.l = false by rw [HZ.out, decide_eq_false ca, decide_eq_true cb]; rfl)
        have cbb : ¬ (0 : Int) < (b.hn : Int) := by omega
        have cbN : ¬ 0 < b.hn := by omega
        clear cb ca
        go_enter Tryz.func184, Tryz.ntmps184
        go_wp2_with (first
          | (go_at_call 192; go_must (refine HC1.out.mono ?_); rintro e w1 ⟨rfl, hw⟩; have hw := hw.symm; subst hw))
        go_ret
        exact ⟨by rw [HZ2.out]; rfl, HN.out⟩
      · have HZ2 := hide (show enclK a.l b.l = decide (0 ≤ c2) by rw [HZ.out, decide_eq_false ca, decide_eq_false cb]; rfl)
        have cbb : (0 : Int) < (b.hn : Int) := by omega
        have cbN : 0 < b.hn := by omega
        clear cb ca
        go_enter Tryz.func184, Tryz.ntmps184
        go_wp2_with (first
          | (go_at_call_of 192 a.hn; go_must (refine HC2.out.mono ?_); rintro e w1 ⟨rfl, hw⟩; have hw := hw.symm; subst hw)
          | (go_at_call 192; go_must (refine HC1.out.mono ?_); rintro e w1 ⟨rfl, hw⟩; have hw := hw.symm; subst hw))
        go_ret
        exact ⟨by rw [HZ2.out]; rfl, HN.out⟩

/-- whether a mode is as good as another one -/
def servesI (a b : Int) : Bool := a == b || a == 4 || (b == 1 && (a == 3 || a == 2))

set_option maxHeartbeats 2000000 in
theorem serves_any (a b : Int) (w : World) : Calls Tryz.prog 185 #[.int .i64 a, .int .i64 b] w fun e w' => e = .returned (.bool (servesI a b)) ∧ w' = w := by
  by_cases h1 : a = b
  · have HZ := hide (show servesI a b = true by unfold servesI; simp [h1])
    have h1' : (a == b) = true := by simp [h1]
    clear h1
    go_enter Tryz.func185, Tryz.ntmps185
    go_wp2
    go_ret
    exact ⟨by rw [HZ.out]; rfl, rfl⟩
  · have h1' : (a == b) = false := by simp [h1]
    by_cases h4 : a = 4
    · have HZ := hide (show servesI a b = true by unfold servesI; simp [h4])
      have h4' : (a == 4) = true := by simp [h4]
      clear h1 h4
      go_enter Tryz.func185, Tryz.ntmps185
      go_wp2
      go_ret
      exact ⟨by rw [HZ.out]; rfl, rfl⟩
    · have h4' : (a == 4) = false := by simp [h4]
      by_cases h3 : a = 3
      · have HZ := hide (show servesI a b = (b == 1) by unfold servesI; rw [h1', h4']; simp [h3])
        have h3' : (a == 3) = true := by simp [h3]
        clear h1 h4 h3
        go_enter Tryz.func185, Tryz.ntmps185
        go_wp2
        go_ret
        exact ⟨by rw [HZ.out]; rfl, rfl⟩
      · have h3' : (a == 3) = false := by simp [h3]
        by_cases h2 : a = 2
        · have HZ := hide (show servesI a b = (b == 1) by unfold servesI; rw [h1', h4', h3']; simp [h2])
          have h2' : (a == 2) = true := by simp [h2]
          clear h1 h4 h3 h2
          go_enter Tryz.func185, Tryz.ntmps185
          go_wp2
          go_ret
          exact ⟨by rw [HZ.out]; rfl, rfl⟩
        · have h2' : (a == 2) = false := by simp [h2]
          have HZ := hide (show servesI a b = false by unfold servesI; rw [h1', h4', h3', h2']; simp)
          clear h1 h4 h3 h2
          go_enter Tryz.func185, Tryz.ntmps185
          go_wp2
          go_ret
          exact ⟨by rw [HZ.out]; rfl, rfl⟩

theorem coversL_encl (a b : Lck) : coversL a b = (a.tx == b.tx && a.lv == b.lv && enclK a b && servesI a.md b.md) := by
  rw [coversL_eq]
  unfold enclK covMd servesI
  cases a.tx == b.tx <;> cases a.lv == b.lv <;> cases lessL b.lo a.lo <;> cases covHi a b <;> rfl

set_option maxHeartbeats 4000000 in
theorem pcovers_any (a b : ML) (w : World) (h1 : a.ok w) (h2 : b.ok w) :
    Calls Tryz.prog 166 #[.agg #[.int .u64 a.l.tx, .int .i64 a.l.lv, .int .i64 a.l.md, .slice a.la a.ln a.lc, .slice a.ha a.hn a.hc], .agg #[.int .u64 b.l.tx, .int .i64 b.l.lv, .int .i64 b.l.md, .slice b.la b.ln b.lc, .slice b.ha b.hn b.hc]] w fun e w' => e = .returned (.bool (coversL a.l b.l)) ∧ Below w.heap.size w w' := by
  have hn := ((Below.refl _ w).alloc (Nat.le_refl _) (.cells #[.int .u64 a.l.tx, .int .i64 a.l.lv, .int .i64 a.l.md, .slice a.la a.ln a.lc, .slice a.ha a.hn a.hc] 41)).alloc (by simp) (.cells #[.int .u64 b.l.tx, .int .i64 b.l.lv, .int .i64 b.l.md, .slice b.la b.ln b.lc, .slice b.ha b.hn b.hc] 41)
  have HC := hide (encl_any a b _ (h1.keep hn) (h2.keep hn))
  have HCell : Hid (∀ V, Below (w.heap.size + 2) ((w.alloc (.cells #[.int .u64 a.l.tx, .int .i64 a.l.lv, .int .i64 a.l.md, .slice a.la a.ln a.lc, .slice a.ha a.hn a.hc] 41)).alloc (.cells #[.int .u64 b.l.tx, .int .i64 b.l.lv, .int .i64 b.l.md, .slice b.la b.ln b.lc, .slice b.ha b.hn b.hc] 41)) V → At5 V w.heap.size 0 a ∧ At5 V (w.heap.size + 1) 0 b) := by
    intro V hV
    constructor
    · exact ((at5_new w a).same ((new_below _ (.cells #[.int .u64 b.l.tx, .int .i64 b.l.lv, .int .i64 b.l.md, .slice b.la b.ln b.lc, .slice b.ha b.hn b.hc] 41)).block _ (by simp))).same (hV.block _ (by omega))
    · exact at5_of (rangeY_same (rangeY_new (w.alloc (.cells #[.int .u64 a.l.tx, .int .i64 a.l.lv, .int .i64 a.l.md, .slice a.la a.ln a.lc, .slice a.ha a.hn a.hc] 41)) (w.heap.size + 1) #[.int .u64 b.l.tx, .int .i64 b.l.lv, .int .i64 b.l.md, .slice b.la b.ln b.lc, .slice b.ha b.hn b.hc] 41 (by simp)) (hV.block _ (by omega)))
  obtain ⟨z, hz⟩ : ∃ z, enclK a.l b.l = z := ⟨_, rfl⟩
  rw [hz] at HC
  have HZ := hide (coversL_encl a.l b.l)
  rw [hz] at HZ
  have HN := hide hn
  have HS := fun W => hide (serves_any a.l.md b.l.md W)
  obtain ⟨zs, hzs⟩ : ∃ z, servesI a.l.md b.l.md = z := ⟨_, rfl⟩
  rw [hzs] at HS HZ
  clear h1 h2 hn hz hzs
  by_cases ht : a.l.tx = b.l.tx
  · have ht' : (a.l.tx == b.l.tx) = true := by simp [ht]
    rw [ht'] at HZ
    clear ht
    by_cases hl : a.l.lv = b.l.lv
    · have hl' : (a.l.lv == b.l.lv) = true := by simp [hl]
      rw [hl'] at HZ
      clear hl
      cases z with
      | true =>
        go_enter Tryz.func166, Tryz.ntmps166
        go_wp2_with (first
          | (go_at_call 185; go_must (refine (HS _).out.mono ?_); rintro e w2 ⟨rfl, hw⟩; have hw := hw.symm; subst hw)
          | (go_at_call 184; go_must (refine HC.out.mono ?_); rintro e w1 ⟨rfl, hb⟩; have HB1 := hide hb; obtain ⟨⟨-, -, x2, -, -⟩, ⟨-, -, y2, -, -⟩⟩ := HCell.out w1 (hb.mono (by simp)); clear hb))
        go_ret
        exact ⟨by rw [HZ.out]; rfl, HN.out.trans (HB1.out.mono HN.out.size)⟩
      | false =>
        go_enter Tryz.func166, Tryz.ntmps166
        go_wp2_with (first
          | (go_at_call 184; go_must (refine HC.out.mono ?_); rintro e w1 ⟨rfl, hb⟩; have HB1 := hide hb; clear hb))
        go_ret
        exact ⟨by rw [HZ.out]; rfl, HN.out.trans (HB1.out.mono HN.out.size)⟩
    · have hl' : (a.l.lv == b.l.lv) = false := by simp [hl]
      rw [hl'] at HZ
      clear hl
      go_enter Tryz.func166, Tryz.ntmps166
      go_wp2
      go_ret
      exact ⟨by rw [HZ.out]; rfl, HN.out⟩
  · have ht' : (a.l.tx == b.l.tx) = false := by simp [ht]
    rw [ht'] at HZ
    clear ht
    go_enter Tryz.func166, Tryz.ntmps166
    go_wp2
    go_ret
    exact ⟨by rw [HZ.out]; rfl, HN.out⟩

theorem badL_mode (x : Lck) : badL x = !(x.tx != 0 && (x.lv == 0 || x.lv == 1) && decide (1 ≤ x.md ∧ x.md ≤ 4) && !belowL x.hi x.lo) := by
  unfold badL
  have e1 : decide (1 ≤ x.md ∧ x.md ≤ 4) = (!decide (x.md < 1) && !decide (4 < x.md)) := by
    by_cases h1 : x.md < 1 <;> by_cases h2 : 4 < x.md <;> simp [h1, h2] <;> omega
  rw [e1]
  cases h : x.tx == 0 <;> cases h2 : x.lv == 0 <;> cases h3 : x.lv == 1 <;> cases decide (x.md < 1) <;> cases decide (4 < x.md) <;> cases belowL x.hi x.lo <;> simp [bne, h, h2, h3]

set_option maxHeartbeats 4000000 in
theorem mayBe_any (x : ML) (w : World) (h1 : x.ok w) :
    Calls Tryz.prog 140 #[.agg #[.int .u64 x.l.tx, .int .i64 x.l.lv, .int .i64 x.l.md, .slice x.la x.ln x.lc, .slice x.ha x.hn x.hc]] w fun e w' => e = .returned (.bool (!badL x.l)) ∧ Below w.heap.size w w' := by
  have hn := new_below w (.cells #[.int .u64 x.l.tx, .int .i64 x.l.lv, .int .i64 x.l.md, .slice x.la x.ln x.lc, .slice x.ha x.hn x.hc] 41)
  have HM := fun W => hide (isMode_any x.l.md W)
  have HA := hide (above_any x.ha x.hn x.hc x.l.hi x.la x.ln x.lc x.l.lo _ (h1.hi.keep hn) (h1.lo.keep hn))
  have HZ := hide (show (!badL x.l) = (x.l.tx != 0 && (x.l.lv == 0 || x.l.lv == 1) && decide (1 ≤ x.l.md ∧ x.l.md ≤ 4) && !belowL x.l.hi x.l.lo) by rw [badL_mode]; simp)
  obtain ⟨zm, hzm⟩ : ∃ z, decide (1 ≤ x.l.md ∧ x.l.md ≤ 4) = z := ⟨_, rfl⟩
  obtain ⟨za, hza⟩ : ∃ z, (!belowL x.l.hi x.l.lo) = z := ⟨_, rfl⟩
  obtain ⟨zb, hzb⟩ : ∃ z, (!badL x.l) = z := ⟨_, rfl⟩
  rw [hzm] at HM HZ
  rw [hza] at HA HZ
  rw [hzb] at HZ
  rw [hzb]
  have HN := hide hn
  clear h1 hn hzm hza hzb
  by_cases ht : x.l.tx = 0
  · have ht' : (x.l.tx != 0) = false := by simp [ht]
    rw [ht'] at HZ
    clear ht
    go_enter Tryz.func140, Tryz.ntmps140
    go_wp2
    go_ret
    exact ⟨by rw [HZ.out]; rfl, HN.out⟩
  have ht' : (x.l.tx != 0) = true := by simp [ht]
  rw [ht'] at HZ
  clear ht
  by_cases hl0 : x.l.lv = 0
  · have hl0' : (x.l.lv == 0) = true := by simp [hl0]
    rw [hl0'] at HZ
    clear hl0
    cases zm with
    | true =>
      go_enter Tryz.func140, Tryz.ntmps140
      go_wp2_with (first
        | (go_at_call 163; go_must (refine HA.out.mono ?_); rintro e w2 ⟨rfl, hw⟩; have hw := hw.symm; subst hw)
        | (go_at_call 162; go_must (refine (HM _).out.mono ?_); rintro e w2 ⟨rfl, hw⟩; have hw := hw.symm; subst hw))
      go_ret
      exact ⟨by rw [HZ.out]; simp, HN.out⟩
    | false =>
      go_enter Tryz.func140, Tryz.ntmps140
      go_wp2_with (first
        | (go_at_call 162; go_must (refine (HM _).out.mono ?_); rintro e w2 ⟨rfl, hw⟩; have hw := hw.symm; subst hw))
      go_ret
      exact ⟨by rw [HZ.out]; simp, HN.out⟩
  have hl0' : (x.l.lv == 0) = false := by simp [hl0]
  rw [hl0'] at HZ
  clear hl0
  by_cases hl1 : x.l.lv = 1
  · have hl1' : (x.l.lv == 1) = true := by simp [hl1]
    rw [hl1'] at HZ
    clear hl1
    cases zm with
    | true =>
      go_enter Tryz.func140, Tryz.ntmps140
      go_wp2_with (first
        | (go_at_call 163; go_must (refine HA.out.mono ?_); rintro e w2 ⟨rfl, hw⟩; have hw := hw.symm; subst hw)
        | (go_at_call 162; go_must (refine (HM _).out.mono ?_); rintro e w2 ⟨rfl, hw⟩; have hw := hw.symm; subst hw))
      go_ret
      exact ⟨by rw [HZ.out]; simp, HN.out⟩
    | false =>
      go_enter Tryz.func140, Tryz.ntmps140
      go_wp2_with (first
        | (go_at_call 162; go_must (refine (HM _).out.mono ?_); rintro e w2 ⟨rfl, hw⟩; have hw := hw.symm; subst hw))
      go_ret
      exact ⟨by rw [HZ.out]; simp, HN.out⟩
  have hl1' : (x.l.lv == 1) = false := by simp [hl1]
  rw [hl1'] at HZ
  clear hl1
  go_enter Tryz.func140, Tryz.ntmps140
  go_wp2
  go_ret
  exact ⟨by rw [HZ.out]; simp, HN.out⟩

theorem bequal_any (a : Option Addr) (la ca : Nat) (xs : List Int) (b : Option Addr) (lb cb : Nat) (ys : List Int) (w : World) (h : IsBytes w a la ca xs) (h' : IsBytes w b lb cb ys) :
    Calls Tryz.prog 104 #[.slice a la ca, .slice b lb cb] w fun e w' => e = .returned (.bool (decide (xs = ys))) ∧ w' = w := by
  have q1 := h.conv
  have q2 := h'.conv
  have HE := hide (strB_eq xs ys h.2.2.2.1 h'.2.2.2.1)
  clear h h'
  go_enter Tryz.func104, Tryz.ntmps104
  go_wp2
  go_ret
  refine ⟨?_, rfl⟩
  rw [← HE.out]; rfl

set_option maxHeartbeats 4000000 in
theorem psame_any (a b : ML) (w : World) (h1 : a.ok w) (h2 : b.ok w) :
    Calls Tryz.prog 167 #[.agg #[.int .u64 a.l.tx, .int .i64 a.l.lv, .int .i64 a.l.md, .slice a.la a.ln a.lc, .slice a.ha a.hn a.hc], .agg #[.int .u64 b.l.tx, .int .i64 b.l.lv, .int .i64 b.l.md, .slice b.la b.ln b.lc, .slice b.ha b.hn b.hc]] w fun e w' => e = .returned (.bool (decide (a.l = b.l))) ∧ Below w.heap.size w w' := by
  have hn := ((Below.refl _ w).alloc (Nat.le_refl _) (.cells #[.int .u64 a.l.tx, .int .i64 a.l.lv, .int .i64 a.l.md, .slice a.la a.ln a.lc, .slice a.ha a.hn a.hc] 41)).alloc (by simp) (.cells #[.int .u64 b.l.tx, .int .i64 b.l.lv, .int .i64 b.l.md, .slice b.la b.ln b.lc, .slice b.ha b.hn b.hc] 41)
  have HN := hide hn
  have HC1 := hide (bequal_any a.la a.ln a.lc a.l.lo b.la b.ln b.lc b.l.lo _ (h1.lo.keep hn) (h2.lo.keep hn))
  have HC2 := hide (bequal_any a.ha a.hn a.hc a.l.hi b.ha b.hn b.hc b.l.hi _ (h1.hi.keep hn) (h2.hi.keep hn))
  obtain ⟨z, hz⟩ : ∃ z, decide (a.l = b.l) = z := ⟨_, rfl⟩
  rw [hz]
  rw [lck_eq] at hz
  obtain ⟨y1, hy1⟩ : ∃ y, decide (a.l.lo = b.l.lo) = y := ⟨_, rfl⟩
  obtain ⟨y2, hy2⟩ : ∃ y, decide (a.l.hi = b.l.hi) = y := ⟨_, rfl⟩
  rw [hy1] at hz HC1
  rw [hy2] at hz HC2
  have HZ := hide hz
  clear h1 h2 hn hz hy1 hy2
  by_cases ht : a.l.tx = b.l.tx
  · have ht' : (a.l.tx == b.l.tx) = true := by simp [ht]
    by_cases hl : a.l.lv = b.l.lv
    · have hl' : (a.l.lv == b.l.lv) = true := by simp [hl]
      by_cases hm : a.l.md = b.l.md
      · have hm' : (a.l.md == b.l.md) = true := by simp [hm]
        rw [ht', hl', hm'] at HZ
        clear ht hl hm
        cases y1 with
        | true =>
          have HZ2 : Hid (z = y2) := by rw [← HZ.out]; rfl
          go_enter Tryz.func167, Tryz.ntmps167
          go_wp2_with (first
            | (go_at_call_of 104 a.hn; go_must (refine HC2.out.mono ?_); rintro e w2 ⟨rfl, hw⟩; have hw := hw.symm; subst hw)
            | (go_at_call 104; go_must (refine HC1.out.mono ?_); rintro e w2 ⟨rfl, hw⟩; have hw := hw.symm; subst hw))
          go_ret
          exact ⟨by rw [HZ2.out]; rfl, HN.out⟩
        | false =>
          have HZ2 : Hid (z = false) := by rw [← HZ.out]; rfl
          go_enter Tryz.func167, Tryz.ntmps167
          go_wp2_with (first
            | (go_at_call 104; go_must (refine HC1.out.mono ?_); rintro e w2 ⟨rfl, hw⟩; have hw := hw.symm; subst hw))
          go_ret
          exact ⟨by rw [HZ2.out]; rfl, HN.out⟩
      · have hm' : (a.l.md == b.l.md) = false := by simp [hm]
        rw [ht', hl', hm'] at HZ
        have HZ2 : Hid (z = false) := by rw [← HZ.out]; rfl
        clear ht hl hm
        go_enter Tryz.func167, Tryz.ntmps167
        go_wp2
        go_ret
        exact ⟨by rw [HZ2.out]; rfl, HN.out⟩
    · have hl' : (a.l.lv == b.l.lv) = false := by simp [hl]
      rw [ht', hl'] at HZ
      have HZ2 : Hid (z = false) := by rw [← HZ.out]; rfl
      clear ht hl
      go_enter Tryz.func167, Tryz.ntmps167
      go_wp2
      go_ret
      exact ⟨by rw [HZ2.out]; rfl, HN.out⟩
  · have ht' : (a.l.tx == b.l.tx) = false := by simp [ht]
    rw [ht'] at HZ
    have HZ2 : Hid (z = false) := by rw [← HZ.out]; rfl
    clear ht
    go_enter Tryz.func167, Tryz.ntmps167
    go_wp2
    go_ret
    exact ⟨by rw [HZ2.out]; rfl, HN.out⟩

end Go.Proofs.YtcgiicmmfleinaaGreatDoor

namespace Go.Proofs.YtcgiicmmfleinaaGreatDoor
open Go.RowKit NumMath Go.ChangeShapes Go.WideShapes Go.Deep
set_option linter.unusedVariables false
set_option maxRecDepth 100000

def mz3 : ML := ⟨lck0, none, 0, 0, none, 0, 0⟩

theorem kp_below {w w' : World} (h : Keeps (fun k => w.heap.size ≤ k) w w') : Below w.heap.size w w' := ⟨h.os, h.tape, h.output, h.size, fun k hk => h.block k hk (by omega)⟩

theorem rangeK {w : World} {g : Nat} {m : ML} (h : At5 w g 0 m) : w.rangeAt g 0 (layK.cells m) := by
  obtain ⟨h0, h1, h2, h3, h4⟩ := h.zero
  intro j v hj
  rw [Nat.zero_add]
  match j, hj with
  | 0, hj => cases hj; exact h0
  | 1, hj => cases hj; exact h1
  | 2, hj => cases hj; exact h2
  | 3, hj => cases hj; exact h3
  | 4, hj => cases hj; exact h4
  | _ + 5, hj => cases hj

/-- a copy of x: its keys lie in new blocks -/
def CopyPost (w : World) (x : ML) (e : Ending) (w' : World) : Prop :=
  ∃ y : ML, e = .returned (.agg #[.int .u64 y.l.tx, .int .i64 y.l.lv, .int .i64 y.l.md, .slice y.la y.ln y.lc, .slice y.ha y.hn y.hc]) ∧ y.l = x.l ∧ Foot (fun k => k < w.heap.size) w' (fun V => y.ok V) ∧ Below w.heap.size w w'

set_option maxHeartbeats 4000000 in
theorem pcopyOf_any (x : ML) (w : World) (h : x.ok w) (hl : x.ln ≤ 1000000) (hh : x.hn ≤ 1000000) : Calls Tryz.prog 87 #[.agg #[.int .u64 x.l.tx, .int .i64 x.l.lv, .int .i64 x.l.md, .slice x.la x.ln x.lc, .slice x.ha x.hn x.hc]] w fun e w' => CopyPost w x e w' := by
  obtain ⟨W0, hW0⟩ : ∃ W0, W0 = (w.alloc (.cells #[.int .u64 x.l.tx, .int .i64 x.l.lv, .int .i64 x.l.md, .slice x.la x.ln x.lc, .slice x.ha x.hn x.hc] 41)).alloc (.cells #[.int .u64 0, .int .i64 0, .int .i64 0, .slice none 0 0, .slice none 0 0] 41) := ⟨_, rfl⟩
  have hs0 : W0.heap.size = w.heap.size + 2 := by rw [hW0]; simp
  have hb0 : Below w.heap.size w W0 := by rw [hW0]; exact belY (belY (Below.refl _ _) _) _
  have HX0 : Hid (At5 W0 w.heap.size 0 x) := by show At5 _ _ _ _; rw [hW0]; exact (at5_new w x).same ((new_below _ _).block _ (by simp))
  have HY0 : Hid (At5 W0 (w.heap.size + 1) 0 mz3) := by show At5 _ _ _ _; rw [hW0]; exact at5_of (rangeY_new (w.alloc (.cells #[.int .u64 x.l.tx, .int .i64 x.l.lv, .int .i64 x.l.md, .slice x.la x.ln x.lc, .slice x.ha x.hn x.hc] 41)) (w.heap.size + 1) #[.int .u64 0, .int .i64 0, .int .i64 0, .slice none 0 0, .slice none 0 0] 41 (by simp))
  have HF0 : Hid (∀ j, W0.frozen? ⟨w.heap.size, j, none⟩ = false ∧ W0.frozen? ⟨w.heap.size + 1, j, none⟩ = false) := by
    intro j
    rw [hW0]
    constructor
    · have := (new_below (w.alloc (.cells #[.int .u64 x.l.tx, .int .i64 x.l.lv, .int .i64 x.l.md, .slice x.la x.ln x.lc, .slice x.ha x.hn x.hc] 41)) (.cells #[.int .u64 0, .int .i64 0, .int .i64 0, .slice none 0 0, .slice none 0 0] 41)).frozen (p := ⟨w.heap.size, j, none⟩) (by simp)
      rw [this]
      exact fzY_new _ _ _ _
    · have := fzY_new (w.alloc (.cells #[.int .u64 x.l.tx, .int .i64 x.l.lv, .int .i64 x.l.md, .slice x.la x.ln x.lc, .slice x.ha x.hn x.hc] 41)) #[.int .u64 0, .int .i64 0, .int .i64 0, .slice none 0 0, .slice none 0 0] 41 j
      simp only [World.size_alloc] at this
      exact this
  have HC1 := hide (fun V (hV : Below w.heap.size w V) => clone_src x.la x.ln x.lc x.l.lo V (h.lo.keep hV).src (by omega))
  have HC2 := hide (fun V (hV : Below w.heap.size w V) => clone_src x.ha x.hn x.hc x.l.hi V (h.hi.keep hV).src (by omega))
  have HV1 := hide h.lo.2.2.2.1
  have HV2 := hide h.hi.2.2.2.1
  have HB0 := hide hb0
  have HS0 := hide hs0
  have HW0 := hide hW0
  clear h hb0 hs0
  go_enter Tryz.func87, Tryz.ntmps87
  go_wp2_with fail
  rw [← hW0]
  clear hW0
  refine startE (fun i => decide (7 ≤ i)) (by kernel_rfl) ?_
  refine' takeE (i := 0) (v := _) rfl (by kernel_rfl) (by kernel_rfl) (by kernel_rfl) (by kernel_rfl) (fun _ _ _ h => h) (by rfl) (Below.refl _ _) ?_ ?_; rotate_left
  · (intro V hSV; obtain ⟨x0, x1, x2, x3, x4⟩ := HX0.out.same ((below_undrew hSV).block _ (by have := HS0.out; omega)); go_simp; all_goals (with_reducible rfl))
  (try simp only [Act.put, List.setIfInBounds_toArray, List.set_cons_zero, List.set_cons_succ])
  refine' takeE (i := 1) (v := _) rfl (by kernel_rfl) (by kernel_rfl) (by kernel_rfl) (by kernel_rfl) (fun _ _ _ h => h) (by rfl) (Below.refl _ _) ?_ ?_; rotate_left
  · (intro V hSV; obtain ⟨x0, x1, x2, x3, x4⟩ := HX0.out.same ((below_undrew hSV).block _ (by have := HS0.out; omega)); go_simp; all_goals (with_reducible rfl))
  (try simp only [Act.put, List.setIfInBounds_toArray, List.set_cons_zero, List.set_cons_succ])
  refine' takeE (i := 3) (v := _) rfl (by kernel_rfl) (by kernel_rfl) (by kernel_rfl) (by kernel_rfl) (fun _ _ _ h => h) (by rfl) (Below.refl _ _) ?_ ?_; rotate_left
  · (intro V hSV; obtain ⟨x0, x1, x2, x3, x4⟩ := HX0.out.same ((below_undrew hSV).block _ (by have := HS0.out; omega)); go_simp; all_goals (with_reducible rfl))
  (try simp only [Act.put, List.setIfInBounds_toArray, List.set_cons_zero, List.set_cons_succ])
  refine' takeE (i := 4) (v := _) rfl (by kernel_rfl) (by kernel_rfl) (by kernel_rfl) (by kernel_rfl) (fun _ _ _ h => h) (by rfl) (Below.refl _ _) ?_ ?_; rotate_left
  · (intro V hSV; obtain ⟨x0, x1, x2, x3, x4⟩ := HX0.out.same ((below_undrew hSV).block _ (by have := HS0.out; omega)); go_simp; all_goals (with_reducible rfl))
  (try simp only [Act.put, List.setIfInBounds_toArray, List.set_cons_zero, List.set_cons_succ])
  have HC1' := hide (HC1.out W0.drew (HB0.out.trans ((Below.refl W0.heap.size W0).drew.mono (by have := HS0.out; omega))))
  refine callE (i := 2) rfl (by kernel_rfl) (fun K hK => ?_)
  go_simp
  refine HC1'.out.mono ?_
  rintro e w2 ⟨v2, rfl, ho2, hb2⟩
  obtain ⟨a2, n2, c2, rfl, -⟩ := ho2.any
  have HB2 := hide (below_undrew hb2)
  have HO2 := hide ho2
  refine hK.out _ _ (fun _ => hb2) ?_
  clear hK K ho2
  (try simp only [Act.put, List.setIfInBounds_toArray, List.set_cons_zero, List.set_cons_succ])
  refine' takeE (i := 6) (v := _) rfl (by kernel_rfl) (by kernel_rfl) (by kernel_rfl) (by kernel_rfl) (fun _ _ _ h => h) (by rfl) hb2 ?_ ?_; rotate_left
  · (intro V hSV; go_simp; all_goals (with_reducible rfl))
  (try simp only [Act.put, List.setIfInBounds_toArray, List.set_cons_zero, List.set_cons_succ])
  have HC2' := hide (HC2.out w2 (HB0.out.trans (HB2.out.mono (by have := HS0.out; omega))))
  refine callE (i := 5) rfl (by kernel_rfl) (fun K hK => ?_)
  go_simp
  refine HC2'.out.mono ?_
  rintro e w3 ⟨v3, rfl, ho3, hb3⟩
  obtain ⟨a3, n3, c3, rfl, -⟩ := ho3.any
  have hb23 := hb2.trans (hb3.mono hb2.size)
  have HB3 := hide (below_undrew hb23)
  have HO3 := hide ho3
  refine hK.out _ _ (fun _ => hb23) ?_
  have HO23 := hide (HO2.out.keep hb3)
  have hs2 := HB2.out.size
  have hs3 := hb3.size
  clear hK K ho3 hb3 hb2 hb23
  (try simp only [Act.put, List.setIfInBounds_toArray, List.set_cons_zero, List.set_cons_succ])
  have hs0 := HS0.out
  have hX3 := HX0.out.same (HB3.out.block _ (by omega))
  have hY3 := HY0.out.same (HB3.out.block _ (by omega))
  have hF3 := fun j => (HB3.out.frozen (p := ⟨w.heap.size, j, none⟩) (by show w.heap.size < _; omega)).trans (HF0.out j).1
  have hG3 := fun j => (HB3.out.frozen (p := ⟨w.heap.size + 1, j, none⟩) (by show w.heap.size + 1 < _; omega)).trans (HF0.out j).2
  obtain ⟨x0, x1, x2, x3, x4⟩ := hX3.zero
  obtain ⟨y0, y1, y2, y3, y4⟩ := hY3.zero
  have f3 := hF3 3
  have f4 := hF3 4
  have g0 := hG3 0
  have g1 := hG3 1
  have g2 := hG3 2
  have g3 := hG3 3
  have g4 := hG3 4
  clear hX3 hY3 hF3 hG3 hs0
  refine callE (i := 7) rfl (by kernel_rfl) (fun K hK => ?_)
  go_simp
  refine hK.out _ _ (fun h => by cases h) ?_
  clear hK K
  (try simp only [Act.put, List.setIfInBounds_toArray, List.set_cons_zero, List.set_cons_succ])
  have x4s : (w3.setCell ⟨w.heap.size, 3, none⟩ (.slice a2 n2 c2)).cell? ⟨w.heap.size, 4, none⟩ = some (.slice x.ha x.hn x.hc) := (cell_offY (by decide)).trans x4
  have f4s : (w3.setCell ⟨w.heap.size, 3, none⟩ (.slice a2 n2 c2)).frozen? ⟨w.heap.size, 4, none⟩ = false := by rw [World.frozen?_setCell]; exact f4
  refine callE (i := 8) rfl (by kernel_rfl) (fun K hK => ?_)
  go_simp
  refine hK.out _ _ (fun h => by cases h) ?_
  clear hK K
  (try simp only [Act.put, List.setIfInBounds_toArray, List.set_cons_zero, List.set_cons_succ])
  refine callE (i := 9) rfl (by kernel_rfl) (fun K hK => ?_)
  go_simp
  refine hK.out _ _ (fun h => by cases h) ?_
  clear hK K
  (try simp only [Act.put, List.setIfInBounds_toArray, List.set_cons_zero, List.set_cons_succ])
  refine doneE (by kernel_rfl) ?_ _
  have hs0 := HS0.out
  obtain ⟨y, hy⟩ : ∃ y : ML, y = ⟨x.l, a2, n2, c2, a3, n3, c3⟩ := ⟨_, rfl⟩
  have HX3 : Hid (w3.rangeAt w.heap.size 0 (layK.cells x)) := (show w3.rangeAt w.heap.size 0 (layK.cells x) from rangeK (HX0.out.same (HB3.out.block _ (by omega))))
  have HX5 : Hid (((w3.setCell ⟨w.heap.size, 3, none⟩ (.slice a2 n2 c2)).setCell ⟨w.heap.size, 4, none⟩ (.slice a3 n3 c3)).rangeAt w.heap.size 0 (layK.cells y)) := by
    have h1 := range_set (i := 3) (v := .slice a2 n2 c2) HX3.out (by show 3 < 5; decide)
    have h2 := range_set (i := 4) (v := .slice a3 n3 c3) h1 (by show 4 < 5; decide)
    rw [hy]
    exact h2
  have HY5 : Hid (((w3.setCell ⟨w.heap.size, 3, none⟩ (.slice a2 n2 c2)).setCell ⟨w.heap.size, 4, none⟩ (.slice a3 n3 c3)).rangeAt (w.heap.size + 1) 0 (layK.cells mz3)) := by
    have h1 : w3.rangeAt (w.heap.size + 1) 0 (layK.cells mz3) := rangeK (HY0.out.same (HB3.out.block _ (by omega)))
    exact rangeY_same h1 ((Below.heap_setCell _ _ _ _ (by show w.heap.size + 1 ≠ w.heap.size; omega)).trans (Below.heap_setCell _ _ _ _ (by show w.heap.size + 1 ≠ w.heap.size; omega)))
  have HG5 : Hid (∀ j, ((w3.setCell ⟨w.heap.size, 3, none⟩ (.slice a2 n2 c2)).setCell ⟨w.heap.size, 4, none⟩ (.slice a3 n3 c3)).frozen? ⟨w.heap.size + 1, j, none⟩ = false) := by
    intro j
    rw [World.frozen?_setCell, World.frozen?_setCell]
    exact (HB3.out.frozen (p := ⟨w.heap.size + 1, j, none⟩) (by show w.heap.size + 1 < _; omega)).trans (HF0.out j).2
  have HK5 : Hid (Keeps (fun k => k = w.heap.size) w3 ((w3.setCell ⟨w.heap.size, 3, none⟩ (.slice a2 n2 c2)).setCell ⟨w.heap.size, 4, none⟩ (.slice a3 n3 c3))) := kpThen (keepsY_cell _) (fun k hk => .inl hk) (keepsY_cell _)
  obtain ⟨W5, hW5⟩ : ∃ W, W = (w3.setCell ⟨w.heap.size, 3, none⟩ (.slice a2 n2 c2)).setCell ⟨w.heap.size, 4, none⟩ (.slice a3 n3 c3) := ⟨_, rfl⟩
  rw [← hW5] at HX5 HY5 HG5 HK5
  rw [← hW5]
  have hld := HX5.out
  obtain ⟨y0, y1, y2, y3, y4⟩ := (at5_of HY5.out).zero
  have g5 := HG5.out
  have g0 := g5 0
  have g1 := g5 1
  have g2 := g5 2
  have g3 := g5 3
  have g4 := g5 4
  clear x0 x1 x2 x3 x4 x4s f4s f3 f4 hs0 hW5
  have HY := hide hy
  have e0 : x.l = y.l := by rw [hy]
  have e1 : a2 = y.la := by rw [hy]
  have e2 : n2 = y.ln := by rw [hy]
  have e3 : c2 = y.lc := by rw [hy]
  have e4 : a3 = y.ha := by rw [hy]
  have e5 : n3 = y.hn := by rw [hy]
  have e6 : c3 = y.hc := by rw [hy]
  have HE0 := hide e0
  subst e1 e2 e3 e4 e5 e6
  clear hy e0
  go_wp2_with (first
    | (refine wp_loadY layK _ _ Tryz.underlying41 rfl rfl (.tmp 1) rfl w.heap.size 0 y #[.int .u64 y.l.tx, .int .i64 y.l.lv, .int .i64 y.l.md, .slice y.la y.ln y.lc, .slice y.ha y.hn y.hc] rfl rfl hld ?_))
  have hw3 := resY HY5.out HG5.out y
  have hk6 := keepsYs W5 (w.heap.size + 1) 0 (layK.cells y)
  have r0 := hw3 0 _ rfl
  have r1 := hw3 1 _ rfl
  have r2 := hw3 2 _ rfl
  have r3 := hw3 3 _ rfl
  have r4 := hw3 4 _ rfl
  simp only [Nat.zero_add] at r0 r1 r2 r3 r4
  obtain ⟨W6, hW6⟩ : ∃ W, W = W5.setCells (w.heap.size + 1) 0 (layK.cells y) := ⟨_, rfl⟩
  rw [← hW6] at r0 r1 r2 r3 r4 hk6
  have hW6' := hW6
  simp only [layK, World.setCells, Nat.zero_add, Nat.reduceAdd] at hW6'
  rw [← hW6']
  have hs0 := HS0.out
  refine bodyPost_ret (v := .agg #[.int .u64 y.l.tx, .int .i64 y.l.lv, .int .i64 y.l.md, .slice y.la y.ln y.lc, .slice y.ha y.hn y.hc]) (by simp [results, Tryz.results87, go_sem, r0, r1, r2, r3, r4]) rfl ?_
  have hs3 := HB3.out.size
  have k5 : Keeps (fun k => k < w.heap.size + 2) w3 W5 := Keeps.wider HK5.out (fun k hk => by rw [hk]; omega)
  have k6 : Keeps (fun k => k < w.heap.size + 2) W5 W6 := Keeps.wider hk6 (fun k hk => by rw [hk]; omega)
  refine ⟨y, rfl, HE0.out.symm, ?_, kp_below ?_⟩
  · have e1 : W0.drew.heap.size = w.heap.size + 2 := hs0
    have f1 : Foot (fun k => k < w.heap.size + 2) w3 (fun V => IsBytes V y.la y.ln y.lc x.l.lo) := foot_own (HO23.out) HV1.out (fun k hk => by rw [e1]; exact hk)
    have f2 : Foot (fun k => k < w.heap.size + 2) w3 (fun V => IsBytes V y.ha y.hn y.hc x.l.hi) := foot_own (HO3.out) HV2.out (fun k hk => by have := HB2.out.size; omega)
    have f3 := (((f1.and f2).step k5 (fun k hk => .inl hk)).step k6 (fun k hk => .inl hk)).more (Y := fun k => k < w.heap.size) (fun k hk => .inl (by omega))
    refine f3.imp (fun V hV => ?_)
    rw [HE0.out] at hV
    exact ⟨hV.1, hV.2⟩
  · have h1 : Keeps (fun k => w.heap.size ≤ k) w w3 := Below.keeps (HB0.out.trans (HB3.out.mono (by omega))) _
    exact kpThen (kpThen h1 (fun k hk => .inl (by have : k = w.heap.size := hk; omega)) HK5.out) (fun k hk => .inl (by have : k = w.heap.size + 1 := hk; omega)) hk6

end Go.Proofs.YtcgiicmmfleinaaGreatDoor

namespace Go.Proofs.YtcgiicmmfleinaaGreatDoor
open Go.RowKit NumMath Go.ChangeShapes Go.WideShapes Go.Deep
set_option linter.unusedVariables false
set_option maxRecDepth 100000

/-- what IndexFunc answers: the first for which p -/
def IdxPost (p : ML → Bool) (hs : List ML) (n : Nat) (e : Ending) : Prop :=
  (e = .returned (.int .i64 (-1)) ∧ hs.all (fun m => !p m) = true) ∨
  ∃ k : Nat, k < n ∧ e = .returned (.int .i64 k) ∧ (hs.take k).all (fun m => !p m) = true ∧ ∃ m, hs[k]? = some m ∧ p m = true

theorem all_moreK {p : ML → Bool} {hs : List ML} {k : Nat} {m : ML} (h : hs[k]? = some m) : (hs.take (k + 1)).all p = ((hs.take k).all p && p m) := by
  rw [List.take_add_one, h, List.all_append]
  simp

/-- a lock's five cells in a list -/
theorem at5_list {w : World} {g off k : Nat} {hs : List ML} {m : ML} (hC : CellsY layK w g off hs) (hm : hs[k]? = some m) : w.cell? ⟨g, off + k * 5, none⟩ = some (.int .u64 m.l.tx) ∧ w.cell? ⟨g, off + k * 5 + 1, none⟩ = some (.int .i64 m.l.lv) ∧ w.cell? ⟨g, off + k * 5 + 2, none⟩ = some (.int .i64 m.l.md) ∧ w.cell? ⟨g, off + k * 5 + 3, none⟩ = some (.slice m.la m.ln m.lc) ∧ w.cell? ⟨g, off + k * 5 + 4, none⟩ = some (.slice m.ha m.hn m.hc) :=
  ⟨hC k m hm 0 _ rfl, hC k m hm 1 _ rfl, hC k m hm 2 _ rfl, hC k m hm 3 _ rfl, hC k m hm 4 _ rfl⟩

set_option maxHeartbeats 2000000 in
theorem indexC_any (a : Option Addr) (n c : Nat) (hs : List ML) (p : ML → Bool) (B : Nat) (w : World) (h : IsY layK w a n c hs) (hcl : ∀ W, Below w.heap.size w W → ∀ m ∈ hs, Calls Tryz.prog 165 #[.agg #[.int .u64 m.l.tx, .int .i64 m.l.lv, .int .i64 m.l.md, .slice m.la m.ln m.lc, .slice m.ha m.hn m.hc], .pointer (some ⟨B, 0, none⟩)] W fun e w' => e = .returned (.bool (p m)) ∧ Below W.heap.size W w') :
    Calls Tryz.prog 174 #[.slice a n c, .func (.func 165) #[] #[.pointer (some ⟨B, 0, none⟩)]] w fun e w' => IdxPost p hs n e ∧ Below w.heap.size w w' := by
  have H := hide h
  have HCl := hide hcl
  have hm : (n : Int) ≤ 9223372036854775807 := by have := h.2.1; have := h.2.2.1; unfold maxLen at this; omega
  have HL := hide h.1
  clear h hcl
  go_enter Tryz.func174, Tryz.ntmps174
  go_wp2
  go_loopg [8] n (fun gk i wr => ∃ k : Nat, gk = n - k ∧ i = .int .i64 k ∧ k ≤ n ∧ (hs.take k).all (fun m => !p m) = true ∧ Below w.heap.size w wr)
  case atStart => exact ⟨0, rfl, rfl, Nat.zero_le _, rfl, Below.refl _ _⟩
  case round =>
    obtain ⟨k, rfl, rfl, hk, hA, hB⟩ := hrel
    have HB := hide hB
    have HA := hide hA
    clear hA
    by_cases hlt : k < n
    · have hlt' : (k : Int) < (n : Int) := by omega
      obtain ⟨m, hmk⟩ := ml_at (hs := hs) (k := k) (by have := HL.out; omega)
      obtain ⟨g, off, rfl, hg, hC⟩ := H.out.at hlt
      obtain ⟨d0, d1, d2, d3, d4⟩ := at5_list (hC.same (hB.block g hg)) hmk
      have HC := hide (HCl.out wr hB m (List.mem_of_getElem? hmk))
      have HMk := hide hmk
      have HMo := hide (all_moreK (p := fun m => !p m) hmk)
      obtain ⟨z, hz⟩ : ∃ z, p m = z := ⟨_, rfl⟩
      rw [hz] at HC HMo
      rw [HA.out] at HMo
      have HZ := hide hz
      clear hC hmk hB hz
      cases z with
      | true =>
        go_wp2_with (first
          | (go_at_call 165; go_must (refine HC.out.mono ?_); rintro e w2 ⟨rfl, hb2⟩; have HB2 := hide hb2; clear hb2))
        go_ret
        exact ⟨.inr ⟨k, hlt, rfl, HA.out, m, HMk.out, HZ.out⟩, HB.out.trans (HB2.out.mono HB.out.size)⟩
      | false =>
        go_wp2_with (first
          | (go_at_call 165; go_must (refine HC.out.mono ?_); rintro e w2 ⟨rfl, hb2⟩; have HB2 := hide hb2; clear hb2))
        go_roundg (n - (k + 1))
        case measure => omega
        case rel => exact ⟨k + 1, rfl, by go_num, by omega, by rw [HMo.out]; rfl, HB.out.trans (HB2.out.mono HB.out.size)⟩
    · obtain rfl : k = n := by omega
      have ek : hs.take k = hs := List.take_of_length_le (by have := HL.out; omega)
      rw [ek] at HA
      clear hB
      go_wp2
      go_ret
      exact ⟨.inl ⟨rfl, HA.out⟩, HB.out⟩

set_option maxHeartbeats 2000000 in
theorem indexW_any (a : Option Addr) (n c : Nat) (hs : List ML) (p : ML → Bool) (B : Nat) (w : World) (h : IsY layK w a n c hs) (hcl : ∀ W, Below w.heap.size w W → ∀ m ∈ hs, Calls Tryz.prog 148 #[.agg #[.int .u64 m.l.tx, .int .i64 m.l.lv, .int .i64 m.l.md, .slice m.la m.ln m.lc, .slice m.ha m.hn m.hc], .pointer (some ⟨B, 0, none⟩)] W fun e w' => e = .returned (.bool (p m)) ∧ Below W.heap.size W w') :
    Calls Tryz.prog 174 #[.slice a n c, .func (.func 148) #[] #[.pointer (some ⟨B, 0, none⟩)]] w fun e w' => IdxPost p hs n e ∧ Below w.heap.size w w' := by
  have H := hide h
  have HCl := hide hcl
  have hm : (n : Int) ≤ 9223372036854775807 := by have := h.2.1; have := h.2.2.1; unfold maxLen at this; omega
  have HL := hide h.1
  clear h hcl
  go_enter Tryz.func174, Tryz.ntmps174
  go_wp2
  go_loopg [8] n (fun gk i wr => ∃ k : Nat, gk = n - k ∧ i = .int .i64 k ∧ k ≤ n ∧ (hs.take k).all (fun m => !p m) = true ∧ Below w.heap.size w wr)
  case atStart => exact ⟨0, rfl, rfl, Nat.zero_le _, rfl, Below.refl _ _⟩
  case round =>
    obtain ⟨k, rfl, rfl, hk, hA, hB⟩ := hrel
    have HB := hide hB
    have HA := hide hA
    clear hA
    by_cases hlt : k < n
    · have hlt' : (k : Int) < (n : Int) := by omega
      obtain ⟨m, hmk⟩ := ml_at (hs := hs) (k := k) (by have := HL.out; omega)
      obtain ⟨g, off, rfl, hg, hC⟩ := H.out.at hlt
      obtain ⟨d0, d1, d2, d3, d4⟩ := at5_list (hC.same (hB.block g hg)) hmk
      have HC := hide (HCl.out wr hB m (List.mem_of_getElem? hmk))
      have HMk := hide hmk
      have HMo := hide (all_moreK (p := fun m => !p m) hmk)
      obtain ⟨z, hz⟩ : ∃ z, p m = z := ⟨_, rfl⟩
      rw [hz] at HC HMo
      rw [HA.out] at HMo
      have HZ := hide hz
      clear hC hmk hB hz
      cases z with
      | true =>
        go_wp2_with (first
          | (go_at_call 148; go_must (refine HC.out.mono ?_); rintro e w2 ⟨rfl, hb2⟩; have HB2 := hide hb2; clear hb2))
        go_ret
        exact ⟨.inr ⟨k, hlt, rfl, HA.out, m, HMk.out, HZ.out⟩, HB.out.trans (HB2.out.mono HB.out.size)⟩
      | false =>
        go_wp2_with (first
          | (go_at_call 148; go_must (refine HC.out.mono ?_); rintro e w2 ⟨rfl, hb2⟩; have HB2 := hide hb2; clear hb2))
        go_roundg (n - (k + 1))
        case measure => omega
        case rel => exact ⟨k + 1, rfl, by go_num, by omega, by rw [HMo.out]; rfl, HB.out.trans (HB2.out.mono HB.out.size)⟩
    · obtain rfl : k = n := by omega
      have ek : hs.take k = hs := List.take_of_length_le (by have := HL.out; omega)
      rw [ek] at HA
      clear hB
      go_wp2
      go_ret
      exact ⟨.inl ⟨rfl, HA.out⟩, HB.out⟩

theorem idx_any {p : ML → Bool} {hs : List ML} {n : Nat} {e : Ending} (h : IdxPost p hs n e) : ∃ i : Int, e = .returned (.int .i64 i) ∧ decide (0 ≤ i) = hs.any p := by
  rcases h with ⟨rfl, h⟩ | ⟨k, hk, rfl, -, m, hm, hp⟩
  · refine ⟨-1, rfl, ?_⟩
    have : hs.any p = false := by
      rw [List.any_eq_false]
      intro x hx
      have := List.all_eq_true.1 h x hx
      simpa using this
    rw [this]; rfl
  · refine ⟨k, rfl, ?_⟩
    rw [List.any_eq_true.2 ⟨m, List.mem_of_getElem? hm, hp⟩]
    simp

theorem containsC_any (a : Option Addr) (n c : Nat) (hs : List ML) (p : ML → Bool) (B : Nat) (w : World) (h : IsY layK w a n c hs) (hcl : ∀ W, Below w.heap.size w W → ∀ m ∈ hs, Calls Tryz.prog 165 #[.agg #[.int .u64 m.l.tx, .int .i64 m.l.lv, .int .i64 m.l.md, .slice m.la m.ln m.lc, .slice m.ha m.hn m.hc], .pointer (some ⟨B, 0, none⟩)] W fun e w' => e = .returned (.bool (p m)) ∧ Below W.heap.size W w') :
    Calls Tryz.prog 164 #[.slice a n c, .func (.func 165) #[] #[.pointer (some ⟨B, 0, none⟩)]] w fun e w' => e = .returned (.bool (hs.any p)) ∧ Below w.heap.size w w' := by
  have HI := hide (indexC_any a n c hs p B w h hcl)
  clear h hcl
  go_enter Tryz.func164, Tryz.ntmps164
  go_wp2_with (first
    | (go_at_call 174; go_must (refine HI.out.mono ?_); rintro e w2 ⟨hi, hb⟩; obtain ⟨i, rfl, hi2⟩ := idx_any hi; have HX := hide hi2; have HB := hide hb; clear hi hi2 hb))
  go_ret
  exact ⟨by rw [← HX.out]; rfl, HB.out⟩

/-- the closure of covered: whether its lock is covered by x, which lies in box B -/
theorem coverC_any (m x : ML) (B : Nat) (w : World) (hm : m.ok w) (hx : x.ok w) (hB : At5 w B 0 x) (hl : B < w.heap.size) :
    Calls Tryz.prog 165 #[.agg #[.int .u64 m.l.tx, .int .i64 m.l.lv, .int .i64 m.l.md, .slice m.la m.ln m.lc, .slice m.ha m.hn m.hc], .pointer (some ⟨B, 0, none⟩)] w fun e w' => e = .returned (.bool (coversL m.l x.l)) ∧ Below w.heap.size w w' := by
  have hn := new_below w (.cells #[.int .u64 m.l.tx, .int .i64 m.l.lv, .int .i64 m.l.md, .slice m.la m.ln m.lc, .slice m.ha m.hn m.hc] 41)
  have HC := hide (pcovers_any m x _ (hm.keep hn) (hx.keep hn))
  obtain ⟨x0, x1, x2, x3, x4⟩ := (hB.same (hn.block _ hl)).zero
  have HN := hide hn
  clear hm hx hB hl hn
  go_enter Tryz.func165, Tryz.ntmps165
  go_wp2_with (first
    | (go_at_call 166; go_must (refine HC.out.mono ?_); rintro e w2 ⟨rfl, hb⟩; have HB := hide hb; clear hb))
  go_ret
  exact ⟨rfl, HN.out.trans (HB.out.mono HN.out.size)⟩

/-- the closure of without: whether its lock is tx's, which lies in box B -/
theorem withoutC_any (m : ML) (tx : Int) (B : Nat) (w : World) (hB : w.cell? ⟨B, 0, none⟩ = some (.int .u64 tx)) (hl : B < w.heap.size) :
    Calls Tryz.prog 148 #[.agg #[.int .u64 m.l.tx, .int .i64 m.l.lv, .int .i64 m.l.md, .slice m.la m.ln m.lc, .slice m.ha m.hn m.hc], .pointer (some ⟨B, 0, none⟩)] w fun e w' => e = .returned (.bool (m.l.tx == tx)) ∧ Below w.heap.size w w' := by
  have hn := new_below w (.cells #[.int .u64 m.l.tx, .int .i64 m.l.lv, .int .i64 m.l.md, .slice m.la m.ln m.lc, .slice m.ha m.hn m.hc] 41)
  have x0 := (hn.cell (p := ⟨B, 0, none⟩) hl).trans hB
  have HN := hide hn
  have hne : ¬ B = w.heap.size := by omega
  clear hB hn
  go_enter Tryz.func148, Tryz.ntmps148
  go_wp2
  go_ret
  exact ⟨rfl, HN.out⟩

/-- what DeleteFunc leaves: the list without tx's -/
def DelP (base : Nat) (w : World) (a : Option Addr) (n c : Nat) (xs : List ML) (tx : Int) (e : Ending) (w' : World) : Prop :=
  ∃ n', e = .returned (.slice a n' c) ∧ OwnY layK w' base (.slice a n' c) (xs.filter (fun m => m.l.tx != tx)) ∧ Keeps (fun k => (Value.slice a n c).ownBlock = some k) w w'

theorem filter_none {xs : List ML} {tx : Int} (h : xs.all (fun m => !(m.l.tx == tx)) = true) : xs.filter (fun m => m.l.tx != tx) = xs := by
  rw [List.filter_eq_self]
  intro m hm
  have := List.all_eq_true.1 h m hm
  simpa [bne] using this

theorem filter_moreM {xs : List ML} {tx : Int} {k : Nat} {m : ML} (h : xs[k]? = some m) : (xs.take (k + 1)).filter (fun m => m.l.tx != tx) = (xs.take k).filter (fun m => m.l.tx != tx) ++ (if m.l.tx = tx then [] else [m]) := by
  rw [filter_more _ h]
  by_cases e : m.l.tx = tx <;> simp [e]

set_option maxHeartbeats 4000000 in
theorem delK_any (base : Nat) (a : Option Addr) (n c : Nat) (xs : List ML) (tx : Int) (B : Nat) (w : World) (h : OwnY layK w base (.slice a n c) xs) (hB : w.cell? ⟨B, 0, none⟩ = some (.int .u64 tx)) (hl : B < w.heap.size) (hne : (Value.slice a n c).ownBlock ≠ some B) :
    Calls Tryz.prog 147 #[.slice a n c, .func (.func 148) #[] #[.pointer (some ⟨B, 0, none⟩)]] w fun e w' => DelP base w a n c xs tx e w' := by
  have HIx := hide (indexW_any a n c xs (fun m => m.l.tx == tx) B w h.is (fun W hW m _ => withoutC_any m tx B W ((hW.cell (p := ⟨B, 0, none⟩) hl).trans hB) (Nat.lt_of_lt_of_le hl hW.size)))
  have H := hide h
  have hlen := h.len
  have hcm : (c : Int) ≤ 9223372036854775807 := by have := hlen.2.2; unfold maxLen at this; omega
  have HLe := hide hlen.1
  have hnc := hlen.2.1
  have HCl := hide (fun W (hW : Keeps (fun k => (Value.slice a n c).ownBlock = some k) w W) (m : ML) => withoutC_any m tx B W ((hW.cell hl hne).trans hB) (Nat.lt_of_lt_of_le hl hW.size))
  clear h hB hl hne hlen
  go_enter Tryz.func147, Tryz.ntmps147
  go_wp2_with (first
    | (go_at_call 174; go_must (refine HIx.out.mono ?_); rintro e w2 ⟨⟨rfl, hno⟩ | ⟨k, hk, rfl, hpre, m, hmk, hpm⟩, hb⟩ <;> have HB2 := hide hb <;> clear hb))
  · go_ret
    exact ⟨n, rfl, by rw [filter_none hno]; exact H.out.keep HB2.out, Below.keeps HB2.out _⟩
  · have hk0 : ((k : Int) == -1) = false := by simp
    have HPre := hide hpre
    have HMk := hide hmk
    have HPm := hide hpm
    clear hpre hmk hpm
    rcases H.out.form with ⟨e, e0⟩ | ⟨g, cap, e, hg1, hg2, -, -, -, -⟩
    · exfalso
      rw [e0] at HLe
      have := HLe.out
      simp at this
      omega
    simp only [Value.slice.injEq] at e
    obtain ⟨rfl, -, rfl⟩ := e
    have HG : Hid (∀ k, (Value.slice (some ⟨g, 0, none⟩) n c).ownBlock = some k ↔ k = g) := fun k => by
      show some g = some k ↔ _
      constructor
      · intro e; exact (Option.some.inj e).symm
      · intro e; rw [e]
    go_wp2
    go_loopg [5, 6] (n - (k + 1)) (fun gk i j wr => ∃ (ki kj : Nat) (cur : List ML), gk = n - kj ∧ ki < kj ∧ kj ≤ n ∧ i = .int .i64 ki ∧ j = .int .i64 kj ∧ OwnY layK wr base (.slice (some ⟨g, 0, none⟩) n c) cur ∧ cur.take ki = (xs.take kj).filter (fun m => m.l.tx != tx) ∧ cur.drop kj = xs.drop kj ∧ Keeps (fun k => (Value.slice (some ⟨g, 0, none⟩) n c).ownBlock = some k) w wr)
    case atStart =>
      refine ⟨k, k + 1, xs, rfl, by omega, by omega, rfl, by go_num, H.out.keep HB2.out, ?_, rfl, Below.keeps HB2.out _⟩
      rw [filter_moreM HMk.out, filter_none HPre.out, if_pos (by simpa using HPm.out), List.append_nil]
    case round =>
      obtain ⟨ki, kj, cur, rfl, hij, hj, rfl, rfl, hO, hT, hD, hK⟩ := hrel
      have HO := hide hO
      have HT := hide hT
      have HD := hide hD
      have HK := hide hK
      have HLc := hide hO.len.1
      clear hT hD hK hk0
      by_cases hlt : kj < n
      · have hkj : (kj : Int) < (n : Int) := by omega
        have hki : (ki : Int) < (n : Int) := by omega
        obtain ⟨m, hmk⟩ := ml_at (hs := xs) (k := kj) (by have := HLe.out; omega)
        have hcj : cur[kj]? = some m := by
          have := congrArg (fun l => l[0]?) HD.out
          simpa [List.getElem?_drop] using this.trans (by simpa [List.getElem?_drop] using hmk)
        obtain ⟨g', cap', e', hgb, hgl, -, -, hC, hfz⟩ : ∃ g' cap', Value.slice (some ⟨g, 0, none⟩) n c = .slice (some ⟨g', 0, none⟩) cur.length cap' ∧ base ≤ g' ∧ g' < wr.heap.size ∧ cur.length ≤ cap' ∧ cap' ≤ maxLen ∧ CellsY layK wr g' 0 cur ∧ ∀ i, wr.frozen? ⟨g', i, none⟩ = false := by
          rcases hO.form with ⟨e, _⟩ | h
          · cases e
          · exact h
        simp only [Value.slice.injEq, Option.some.injEq, Addr.mk.injEq, and_true] at e'
        obtain ⟨rfl, -, rfl⟩ := e'
        obtain ⟨d0, d1, d2, d3, d4⟩ := at5_list hC hcj
        simp only [Nat.zero_add] at d0 d1 d2 d3 d4
        obtain ⟨y, hyi⟩ := ml_at (hs := cur) (k := ki) (by have := HLc.out; omega)
        have HAt := hide (at5_list hC hyi)
        have HFz := hide hfz
        have hbN := new_below wr (.cells #[.int .u64 m.l.tx, .int .i64 m.l.lv, .int .i64 m.l.md, .slice m.la m.ln m.lc, .slice m.ha m.hn m.hc] 41)
        have HCa := hide (HCl.out _ (kpBelow HK.out hbN) m)
        have HBN := hide hbN
        have HFm := hide (filter_moreM (tx := tx) hmk)
        have HMk2 := hide hmk
        have hgw : ¬ g = wr.heap.size := by omega
        have hgw2 : ¬ wr.heap.size = g := by omega
        have HGl := hide hgl
        clear hC hcj hmk hO hfz hyi hbN hgl
        by_cases hx : m.l.tx = tx
        · have hz : (m.l.tx == tx) = true := by simpa using hx
          rw [hz] at HCa
          rw [if_pos hx, List.append_nil] at HFm
          clear hx
          go_wp2_with (first
            | (go_at_call 148; go_must (refine HCa.out.mono ?_); rintro e w4 ⟨rfl, hb4⟩; have HB4 := hide hb4; clear hb4))
          go_roundg (n - (kj + 1))
          case measure => omega
          case rel =>
            have hbb := HBN.out.trans (HB4.out.mono (by simp))
            exact ⟨ki, kj + 1, cur, rfl, by omega, by omega, rfl, by go_num, HO.out.keep hbb, by rw [HFm.out]; exact HT.out, by have := congrArg (List.drop 1) HD.out; simpa [List.drop_drop, Nat.add_comm] using this, kpBelow HK.out hbb⟩
        · have hz : (m.l.tx == tx) = false := by simpa using hx
          rw [hz] at HCa
          rw [if_neg hx] at HFm
          clear hx
          go_wp2_with (first
            | (go_at_call 148; go_must (refine HCa.out.mono ?_); rintro e w4 ⟨rfl, hb4⟩; have HB4 := hide hb4; (have hbb := HBN.out.trans (hb4.mono (by simp))); have hbk := hbb.block g HGl.out; obtain ⟨c0, c1, c2, c3, c4⟩ := HAt.out; (simp only [Nat.zero_add] at c0 c1 c2 c3 c4); have f0 := (World.frozen?_of_block (a := ⟨g, ki * 5, none⟩) hbk).trans (HFz.out _); have f1 := (World.frozen?_of_block (a := ⟨g, ki * 5 + 1, none⟩) hbk).trans (HFz.out _); have f2 := (World.frozen?_of_block (a := ⟨g, ki * 5 + 2, none⟩) hbk).trans (HFz.out _); have f3 := (World.frozen?_of_block (a := ⟨g, ki * 5 + 3, none⟩) hbk).trans (HFz.out _); have f4 := (World.frozen?_of_block (a := ⟨g, ki * 5 + 4, none⟩) hbk).trans (HFz.out _); have b0 := (World.cell?_of_block (a := ⟨g, ki * 5, none⟩) hbk).trans c0; have b1 := (World.cell?_of_block (a := ⟨g, ki * 5 + 1, none⟩) hbk).trans c1; have b2 := (World.cell?_of_block (a := ⟨g, ki * 5 + 2, none⟩) hbk).trans c2; have b3 := (World.cell?_of_block (a := ⟨g, ki * 5 + 3, none⟩) hbk).trans c3; have b4 := (World.cell?_of_block (a := ⟨g, ki * 5 + 4, none⟩) hbk).trans c4; (obtain ⟨m0, m1, m2, m3, m4⟩ := ((at5_new wr m).same (hb4.block _ (by simp))).zero); (have HBB := hide hbb); clear hb4 hbb hbk c0 c1 c2 c3 c4))
          go_roundg (n - (kj + 1))
          case measure => omega
          case rel =>
            have hO4 := (HO.out.keep HBB.out).lay ki (by omega) m
            have hk4 := keepsYs w4 g (ki * 5) (layK.cells m)
            have hil : ki < cur.length := by have := HLc.out; omega
            refine ⟨ki + 1, kj + 1, cur.set ki m, rfl, by omega, by omega, by go_num, by go_num, hO4, ?_, ?_, kpThen (kpBelow HK.out HBB.out) (fun x hx => .inl ((HG.out x).2 hx)) hk4⟩
            · rw [HFm.out, ← HT.out, List.take_add_one, List.getElem?_set_self hil, List.take_set_of_le (Nat.le_refl _)]
              rfl
            · rw [List.drop_set_of_lt (by omega)]
              have := congrArg (List.drop 1) HD.out
              simpa [List.drop_drop, Nat.add_comm] using this
      · have hkj : kj = n := by omega
        subst hkj
        obtain ⟨C, hcl, hOc⟩ := hO.cleared ki (by omega) (by intro u hu; simp [layK, Value.cells] at hu; rcases hu with rfl | rfl | rfl | rfl | rfl <;> rfl)
        have hcl' : ∀ ty, (Builtin.clear_ #[33] ty #[.slice (some ⟨g, ki * 5, none⟩) (kj - ki) (c - ki)]).run Tryz.prog wr = .ok (.tuple #[]) (wr.setRow g C) := hcl
        have hfull : cur.take ki = xs.filter (fun m => m.l.tx != tx) := by rw [HT.out, List.take_of_length_le (by have := HLe.out; omega)]
        rw [hfull] at hOc
        have HOc := hide hOc
        have HKc := hide (kpThen HK.out (fun x hx => .inl ((HG.out x).2 hx)) (keeps_setRow (w := wr) (g := g) C))
        have g1 : ¬ c = ki := by omega
        have hkn : (ki : Int) ≤ (kj : Int) := by omega
        have hkn2 : (ki : Int) ≤ (c : Int) := by omega
        clear hO hcl hOc hfull
        go_wp2
        go_ret
        exact ⟨ki, rfl, HOc.out, HKc.out⟩

end Go.Proofs.YtcgiicmmfleinaaGreatDoor
