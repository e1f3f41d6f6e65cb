/- Locks in memory; the reference's Fits, below, meets, Apart, Covers, same: what they answer. -/
import Derived.Test.YtbnojmaknlfphaaDoorLk2
import Derived.Test.YtbnojmaknlfphaaDoorGnA
import Derived.BigQuiet
import Derived.Deep.DeepCutAuto
import Derived.Deep.CutBlock
import Derived.Deep.LoopGhost
namespace Go.Proofs.YtbnojmaknlfphaaDoor
open Go.RowKit NumMath Go.ChangeShapes Go.WideShapes Go.Deep
set_option linter.unusedVariables false
set_option maxRecDepth 100000

/-- a lock, and where its keys lie -/
structure ML where
  l : Lck
  la : Option Addr
  ln : Nat
  lc : Nat
  ha : Option Addr
  hn : Nat
  hc : Nat

def ML.cells (m : ML) : List Value := [.int .u64 m.l.tx, .int .i64 m.l.lv, .int .i64 m.l.md, .slice m.la m.ln m.lc, .slice m.ha m.hn m.hc]

def layK : Lay ML where
  e := 25
  t := 35
  k := 5
  bys := 72
  z := .agg #[.int .u64 0, .int .i64 0, .int .i64 0, .slice none 0 0, .slice none 0 0]
  cells := fun m => [.int .u64 m.l.tx, .int .i64 m.l.lv, .int .i64 m.l.md, .slice m.la m.ln m.lc, .slice m.ha m.hn m.hc]
  len := fun _ => rfl
  one := by intro x u hu; simp at hu; rcases hu with rfl | rfl | rfl | rfl | rfl <;> rfl
  pos := by decide
  few := by decide
  und := Tryd.underlying35
  info := by kernel_rfl
  zs := rfl

/-- its keys lie there -/
structure ML.ok (w : World) (m : ML) : Prop where
  lo : IsBytes w m.la m.ln m.lc m.l.lo
  hi : IsBytes w m.ha m.hn m.hc m.l.hi

theorem ML.ok.keep {w w' : World} {m : ML} (h : m.ok w) (hb : Below w.heap.size w w') : m.ok w' := ⟨h.lo.keep hb, h.hi.keep hb⟩

set_option maxHeartbeats 2000000 in
theorem fits_any (a b : Int) (w : World) : Calls Tryd.prog 11 #[.int .i64 a, .int .i64 b] w fun e w' => e = .returned (.bool (fitsL a b)) ∧ w' = w := by
  obtain ⟨z, hz⟩ : ∃ z, fitsL a b = z := ⟨_, rfl⟩
  rw [hz]
  unfold fitsL at hz
  by_cases hab : b < a
  · rw [if_pos hab] at hz
    unfold fits2 at hz
    by_cases h1 : b < 1
    · rw [if_pos (.inl h1)] at hz
      subst hz
      go_enter Tryd.func11, Tryd.ntmps11
      go_wp2
      go_ret
      exact ⟨rfl, rfl⟩
    by_cases h2 : 4 < a
    · rw [if_pos (.inr h2)] at hz
      subst hz
      go_enter Tryd.func11, Tryd.ntmps11
      go_wp2
      go_ret
      exact ⟨rfl, rfl⟩
    rw [if_neg (by omega)] at hz
    have hb : b = 1 ∨ b = 2 ∨ b = 3 := by omega
    rcases hb with rfl | rfl | rfl
    all_goals
      have ha : a = 2 ∨ a = 3 ∨ a = 4 := by omega
      rcases ha with rfl | rfl | rfl
      all_goals first
        | (exfalso; omega)
        | (simp at hz; subst hz; go_enter Tryd.func11, Tryd.ntmps11; go_wp2; go_ret; exact ⟨rfl, rfl⟩)
  · rw [if_neg hab] at hz
    unfold fits2 at hz
    by_cases h1 : a < 1
    · rw [if_pos (.inl h1)] at hz
      subst hz
      go_enter Tryd.func11, Tryd.ntmps11
      go_wp2
      go_ret
      exact ⟨rfl, rfl⟩
    by_cases h2 : 4 < b
    · rw [if_pos (.inr h2)] at hz
      subst hz
      go_enter Tryd.func11, Tryd.ntmps11
      go_wp2
      go_ret
      exact ⟨rfl, rfl⟩
    rw [if_neg (by omega)] at hz
    have ha : a = 1 ∨ a = 2 ∨ a = 3 ∨ a = 4 := by omega
    rcases ha with rfl | rfl | rfl | rfl
    all_goals
      have hb : b = 1 ∨ b = 2 ∨ b = 3 ∨ b = 4 := by omega
      rcases hb with rfl | rfl | rfl | rfl
      all_goals first
        | (exfalso; omega)
        | (simp at hz; subst hz; go_enter Tryd.func11, Tryd.ntmps11; go_wp2; go_ret; exact ⟨rfl, rfl⟩)

theorem le_strB (x y : List Int) (hx : ∀ c ∈ x, isB c) (hy : ∀ c ∈ y, isB c) : (Op.bytesLess (strB x).toList (strB y).toList || (strB x).toList == (strB y).toList) = !lessL y x := by
  rw [bytesLess_strB x y hx hy, strB_eq x y hx hy]
  cases h1 : lessL x y
  · cases h2 : lessL y x
    · simp [lessL_total x y h1 h2]
    · have : ¬ x = y := fun e => by rw [e, lessL_self] at h2; cases h2
      simp [this]
  · simp [lessL_anti x y h1]

theorem below_any (ha : Option Addr) (hn hc : Nat) (hi : List Int) (ka : Option Addr) (kn kc : Nat) (key : List Int) (w : World) (h1 : IsBytes w ha hn hc hi) (h2 : IsBytes w ka kn kc key) :
    Calls Tryd.prog 44 #[.slice ha hn hc, .slice ka kn kc] w fun e w' => e = .returned (.bool (belowL hi key)) ∧ w' = w := by
  have q1 := h1.conv
  have q2 := h2.conv
  have hl := h1.1
  have HR := hide (And.intro h1.2.2.2.1 h2.2.2.2.1)
  have hm : (hn : Int) ≤ 9223372036854775807 := by have := h1.2.1; have := h1.2.2.1; unfold maxLen at this; omega
  clear h1 h2
  by_cases h0 : hn = 0
  · subst h0
    have he : hi = [] := List.length_eq_zero_iff.1 hl
    go_enter Tryd.func44, Tryd.ntmps44
    go_wp2
    go_ret
    exact ⟨by rw [he]; rfl, rfl⟩
  · have h0' : (0 : Int) < (hn : Int) := by omega
    have h0N : 0 < hn := by omega
    have he : hi.isEmpty = false := by cases hi with | nil => simp at hl; omega | cons _ _ => rfl
    go_enter Tryd.func44, Tryd.ntmps44
    go_wp2
    go_ret
    refine ⟨?_, rfl⟩
    show Ending.returned (.bool (Op.bytesLess (strB hi).toList (strB key).toList || (strB hi).toList == (strB key).toList)) = _
    rw [le_strB hi key HR.out.1 HR.out.2]
    unfold belowL
    rw [he]
    rfl

set_option maxHeartbeats 2000000 in
theorem meets_any (a b : ML) (w : World) (h1 : a.ok w) (h2 : b.ok w) :
    Calls Tryd.prog 31 #[.agg #[.int .u64 a.l.tx, .int .i64 a.l.lv, .int .i64 a.l.md, .slice a.la a.ln a.lc, .slice a.ha a.hn a.hc], .agg #[.int .u64 b.l.tx, .int .i64 b.l.lv, .int .i64 b.l.md, .slice b.la b.ln b.lc, .slice b.ha b.hn b.hc]] w fun e w' => e = .returned (.bool (meetsL a.l b.l)) ∧ Below w.heap.size w w' := by
  have HB := fun W (hW : Below w.heap.size w W) => hide (below_any a.ha a.hn a.hc a.l.hi b.la b.ln b.lc b.l.lo W (h1.hi.keep hW) (h2.lo.keep hW))
  have HB2 := fun W (hW : Below w.heap.size w W) => hide (below_any b.ha b.hn b.hc b.l.hi a.la a.ln a.lc a.l.lo W (h2.hi.keep hW) (h1.lo.keep hW))
  obtain ⟨z1, hz1⟩ : ∃ z, belowL a.l.hi b.l.lo = z := ⟨_, rfl⟩
  obtain ⟨z2, hz2⟩ : ∃ z, belowL b.l.hi a.l.lo = z := ⟨_, rfl⟩
  obtain ⟨zm, hzm⟩ : ∃ z, meetsL a.l b.l = z := ⟨_, rfl⟩
  rw [hzm]
  unfold meetsL at hzm
  rw [hz1, hz2] at hzm
  rw [hz1] at HB
  rw [hz2] at HB2
  have hn := ((Below.refl _ w).alloc (Nat.le_refl _) (.cells #[.int .u64 a.l.tx, .int .i64 a.l.lv, .int .i64 a.l.md, .slice a.la a.ln a.lc, .slice a.ha a.hn a.hc] 25)).alloc (by simp) (.cells #[.int .u64 b.l.tx, .int .i64 b.l.lv, .int .i64 b.l.md, .slice b.la b.ln b.lc, .slice b.ha b.hn b.hc] 25)
  have HC1 := HB _ hn
  have HC2 := HB2 _ hn
  have HN := hide hn
  have HZ := hide hzm
  clear HB HB2 h1 h2 hz1 hz2 hn hzm
  by_cases hlv : a.l.lv = b.l.lv
  · have hlv' : (a.l.lv == b.l.lv) = true := by simp [hlv]
    rw [hlv'] at HZ
    clear hlv
    cases z1 with
    | true =>
      have HZ2 : Hid (zm = false) := by rw [← HZ.out]; rfl
      go_enter Tryd.func31, Tryd.ntmps31
      go_wp2_with (first
        | (go_at_call 44; go_must (refine HC1.out.mono ?_); rintro e w1 ⟨rfl, hw⟩; have hw := hw.symm; subst hw))
      go_ret
      exact ⟨by rw [HZ2.out]; rfl, HN.out⟩
    | false =>
      have HZ2 : Hid (zm = !z2) := by rw [← HZ.out]; rfl
      go_enter Tryd.func31, Tryd.ntmps31
      go_wp2_with (first
        | (go_at_call_of 44 b.hn; go_must (refine HC2.out.mono ?_); rintro e w2 ⟨rfl, hw⟩; have hw := hw.symm; subst hw)
        | (go_at_call 44; go_must (refine HC1.out.mono ?_); rintro e w1 ⟨rfl, hw⟩; have hw := hw.symm; subst hw))
      go_ret
      exact ⟨by rw [HZ2.out]; rfl, HN.out⟩
  · have hlv' : (a.l.lv == b.l.lv) = false := by simp [hlv]
    rw [hlv'] at HZ
    have HZ2 : Hid (zm = false) := by rw [← HZ.out]; rfl
    clear hlv
    go_enter Tryd.func31, Tryd.ntmps31
    go_wp2
    go_ret
    exact ⟨by rw [HZ2.out]; rfl, HN.out⟩

end Go.Proofs.YtbnojmaknlfphaaDoor
