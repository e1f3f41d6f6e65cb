/- The reference's Apart, Covers, same: what they answer. -/
import Derived.Test.YtbnojmaknlfphaaDoorLk3
namespace Go.Proofs.YtbnojmaknlfphaaDoor
open Go.RowKit NumMath Go.ChangeShapes Go.WideShapes Go.Deep
set_option linter.unusedVariables false
set_option maxRecDepth 100000

set_option maxHeartbeats 2000000 in
theorem apart_any (a b : ML) (w : World) (h1 : a.ok w) (h2 : b.ok w) :
    Calls Tryd.prog 13 #[.agg #[.int .u64 a.l.tx, .int .i64 a.l.lv, .int .i64 a.l.md, .slice a.la a.ln a.lc, .slice a.ha a.hn a.hc], .agg #[.int .u64 b.l.tx, .int .i64 b.l.lv, .int .i64 b.l.md, .slice b.la b.ln b.lc, .slice b.ha b.hn b.hc]] w fun e w' => e = .returned (.bool (apartL a.l b.l)) ∧ Below w.heap.size w w' := by
  have hn := ((Below.refl _ w).alloc (Nat.le_refl _) (.cells #[.int .u64 a.l.tx, .int .i64 a.l.lv, .int .i64 a.l.md, .slice a.la a.ln a.lc, .slice a.ha a.hn a.hc] 25)).alloc (by simp) (.cells #[.int .u64 b.l.tx, .int .i64 b.l.lv, .int .i64 b.l.md, .slice b.la b.ln b.lc, .slice b.ha b.hn b.hc] 25)
  have HC := hide (meets_any a b _ (h1.keep hn) (h2.keep hn))
  have HN := hide hn
  obtain ⟨z, hz⟩ : ∃ z, meetsL a.l b.l = z := ⟨_, rfl⟩
  rw [hz] at HC
  clear h1 h2 hn
  by_cases ht : a.l.tx = b.l.tx
  · have ht' : (a.l.tx == b.l.tx) = true := by simp [ht]
    have HA : Hid (apartL a.l b.l = true) := by show _ = _; unfold apartL; rw [ht']; rfl
    clear ht
    go_enter Tryd.func13, Tryd.ntmps13
    go_wp2
    go_ret
    exact ⟨by rw [HA.out]; rfl, HN.out⟩
  · have ht' : (a.l.tx == b.l.tx) = false := by simp [ht]
    have HA : Hid (apartL a.l b.l = !z) := by show _ = _; unfold apartL; rw [ht', hz]; rfl
    clear ht hz
    go_enter Tryd.func13, Tryd.ntmps13
    go_wp2_with (first
      | (go_at_call 31; go_must (refine HC.out.mono ?_); rintro e w1 ⟨rfl, hb⟩; have HB1 := hide hb; clear hb))
    go_ret
    exact ⟨by rw [HA.out]; rfl, HN.out.trans (HB1.out.mono HN.out.size)⟩

theorem eq_strB (x y : List Int) (hx : ∀ c ∈ x, isB c) (hy : ∀ c ∈ y, isB c) : ((strB x).toList == (strB y).toList) = decide (x = y) := strB_eq x y hx hy

theorem lck_eq (a b : Lck) : decide (a = b) = (a.tx == b.tx && a.lv == b.lv && a.md == b.md && decide (a.lo = b.lo) && decide (a.hi = b.hi)) := by
  cases a with | mk t1 l1 m1 o1 h1 => cases b with | mk t2 l2 m2 o2 h2 =>
  by_cases e1 : t1 = t2 <;> by_cases e2 : l1 = l2 <;> by_cases e3 : m1 = m2 <;> by_cases e4 : o1 = o2 <;> by_cases e5 : h1 = h2 <;> simp [e1, e2, e3, e4, e5]

set_option maxHeartbeats 4000000 in
theorem same_any (a b : ML) (w : World) (h1 : a.ok w) (h2 : b.ok w) :
    Calls Tryd.prog 45 #[.agg #[.int .u64 a.l.tx, .int .i64 a.l.lv, .int .i64 a.l.md, .slice a.la a.ln a.lc, .slice a.ha a.hn a.hc], .agg #[.int .u64 b.l.tx, .int .i64 b.l.lv, .int .i64 b.l.md, .slice b.la b.ln b.lc, .slice b.ha b.hn b.hc]] w fun e w' => e = .returned (.bool (decide (a.l = b.l))) ∧ Below w.heap.size w w' := by
  have hn := ((Below.refl _ w).alloc (Nat.le_refl _) (.cells #[.int .u64 a.l.tx, .int .i64 a.l.lv, .int .i64 a.l.md, .slice a.la a.ln a.lc, .slice a.ha a.hn a.hc] 25)).alloc (by simp) (.cells #[.int .u64 b.l.tx, .int .i64 b.l.lv, .int .i64 b.l.md, .slice b.la b.ln b.lc, .slice b.ha b.hn b.hc] 25)
  have HN := hide hn
  have q1 := (h1.lo.keep hn).conv
  have q2 := (h2.lo.keep hn).conv
  have q3 := (h1.hi.keep hn).conv
  have q4 := (h2.hi.keep hn).conv
  have HE1 := hide (eq_strB a.l.lo b.l.lo h1.lo.2.2.2.1 h2.lo.2.2.2.1)
  have HE2 := hide (eq_strB a.l.hi b.l.hi h1.hi.2.2.2.1 h2.hi.2.2.2.1)
  obtain ⟨z, hz⟩ : ∃ z, decide (a.l = b.l) = z := ⟨_, rfl⟩
  rw [hz]
  rw [lck_eq] at hz
  obtain ⟨y1, hy1⟩ : ∃ y, decide (a.l.lo = b.l.lo) = y := ⟨_, rfl⟩
  obtain ⟨y2, hy2⟩ : ∃ y, decide (a.l.hi = b.l.hi) = y := ⟨_, rfl⟩
  rw [hy1] at HE1 hz
  rw [hy2] at HE2 hz
  have HZ := hide hz
  clear h1 h2 hn hz hy1 hy2
  by_cases ht : a.l.tx = b.l.tx
  · have ht' : (a.l.tx == b.l.tx) = true := by simp [ht]
    by_cases hl : a.l.lv = b.l.lv
    · have hl' : (a.l.lv == b.l.lv) = true := by simp [hl]
      by_cases hm : a.l.md = b.l.md
      · have hm' : (a.l.md == b.l.md) = true := by simp [hm]
        rw [ht', hl', hm'] at HZ
        have e1 := HE1.out
        have e2 := HE2.out
        clear ht hl hm
        cases y1 with
        | true =>
          have HZ2 : Hid (z = y2) := by rw [← HZ.out]; rfl
          go_enter Tryd.func45, Tryd.ntmps45
          go_wp2
          go_ret
          refine ⟨?_, HN.out⟩
          rw [HZ2.out, ← HE2.out]; rfl
        | false =>
          have HZ2 : Hid (z = false) := by rw [← HZ.out]; rfl
          go_enter Tryd.func45, Tryd.ntmps45
          go_wp2
          go_ret
          exact ⟨by rw [HZ2.out]; rfl, HN.out⟩
      · have hm' : (a.l.md == b.l.md) = false := by simp [hm]
        rw [ht', hl', hm'] at HZ
        have HZ2 : Hid (z = false) := by rw [← HZ.out]; rfl
        clear ht hl hm
        go_enter Tryd.func45, Tryd.ntmps45
        go_wp2
        go_ret
        exact ⟨by rw [HZ2.out]; rfl, HN.out⟩
    · have hl' : (a.l.lv == b.l.lv) = false := by simp [hl]
      rw [ht', hl'] at HZ
      have HZ2 : Hid (z = false) := by rw [← HZ.out]; rfl
      clear ht hl
      go_enter Tryd.func45, Tryd.ntmps45
      go_wp2
      go_ret
      exact ⟨by rw [HZ2.out]; rfl, HN.out⟩
  · have ht' : (a.l.tx == b.l.tx) = false := by simp [ht]
    rw [ht'] at HZ
    have HZ2 : Hid (z = false) := by rw [← HZ.out]; rfl
    clear ht
    go_enter Tryd.func45, Tryd.ntmps45
    go_wp2
    go_ret
    exact ⟨by rw [HZ2.out]; rfl, HN.out⟩

end Go.Proofs.YtbnojmaknlfphaaDoor
