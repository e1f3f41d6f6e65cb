/- The reference's Covers: what it answers. -/
import Derived.Test.YtbnojmaknlfphaaDoorLk4
namespace Go.Proofs.YtbnojmaknlfphaaDoor
open Go.RowKit NumMath Go.ChangeShapes Go.WideShapes Go.Deep
set_option linter.unusedVariables false
set_option maxRecDepth 100000

def covHi (a b : Lck) : Bool := a.hi.isEmpty || (!b.hi.isEmpty && !lessL a.hi b.hi)

def covMd (a b : Lck) : Bool := a.md == b.md || a.md == 4 || (b.md == 1 && (a.md == 3 || a.md == 2))

theorem coversL_eq (a b : Lck) : coversL a b = (a.tx == b.tx && a.lv == b.lv && !lessL b.lo a.lo && covHi a b && covMd a b) := rfl

theorem empty_len {xs : List Int} {n : Nat} (h : xs.length = n) : xs.isEmpty = decide (n = 0) := by
  subst h
  cases xs <;> simp

set_option maxHeartbeats 4000000 in
theorem covers_any (a b : ML) (w : World) (h1 : a.ok w) (h2 : b.ok w) :
    Calls Tryd.prog 15 #[.agg #[.int .u64 a.l.tx, .int .i64 a.l.lv, .int .i64 a.l.md, .slice a.la a.ln a.lc, .slice a.ha a.hn a.hc], .agg #[.int .u64 b.l.tx, .int .i64 b.l.lv, .int .i64 b.l.md, .slice b.la b.ln b.lc, .slice b.ha b.hn b.hc]] w fun e w' => e = .returned (.bool (coversL a.l b.l)) ∧ Below w.heap.size w w' := by
  have hn := ((Below.refl _ w).alloc (Nat.le_refl _) (.cells #[.int .u64 a.l.tx, .int .i64 a.l.lv, .int .i64 a.l.md, .slice a.la a.ln a.lc, .slice a.ha a.hn a.hc] 25)).alloc (by simp) (.cells #[.int .u64 b.l.tx, .int .i64 b.l.lv, .int .i64 b.l.md, .slice b.la b.ln b.lc, .slice b.ha b.hn b.hc] 25)
  obtain ⟨W2, hW2⟩ : ∃ W, W = (w.alloc (.cells #[.int .u64 a.l.tx, .int .i64 a.l.lv, .int .i64 a.l.md, .slice a.la a.ln a.lc, .slice a.ha a.hn a.hc] 25)).alloc (.cells #[.int .u64 b.l.tx, .int .i64 b.l.lv, .int .i64 b.l.md, .slice b.la b.ln b.lc, .slice b.ha b.hn b.hc] 25) := ⟨_, rfl⟩
  rw [← hW2] at hn
  have HN := hide hn
  have q1 := (h1.lo.keep hn).conv
  have q2 := (h2.lo.keep hn).conv
  have q3 := (h1.hi.keep hn).conv
  have q4 := (h2.hi.keep hn).conv
  have hs2 : W2.heap.size = w.heap.size + 2 := by rw [hW2]; simp
  have ra : W2.rangeAt w.heap.size 0 #[.int .u64 a.l.tx, .int .i64 a.l.lv, .int .i64 a.l.md, .slice a.la a.ln a.lc, .slice a.ha a.hn a.hc].toList := by rw [hW2]; exact rangeY_same (rangeY_new w w.heap.size #[.int .u64 a.l.tx, .int .i64 a.l.lv, .int .i64 a.l.md, .slice a.la a.ln a.lc, .slice a.ha a.hn a.hc] 25 rfl) ((new_below _ _).block _ (by simp))
  have rb : W2.rangeAt (w.heap.size + 1) 0 #[.int .u64 b.l.tx, .int .i64 b.l.lv, .int .i64 b.l.md, .slice b.la b.ln b.lc, .slice b.ha b.hn b.hc].toList := by rw [hW2]; exact rangeY_new _ _ _ _ (by simp)
  have a0 : W2.cell? ⟨w.heap.size, 0, none⟩ = some (.int .u64 a.l.tx) := ra 0 _ rfl
  have a1 : W2.cell? ⟨w.heap.size, 1, none⟩ = some (.int .i64 a.l.lv) := ra 1 _ rfl
  have a2 : W2.cell? ⟨w.heap.size, 2, none⟩ = some (.int .i64 a.l.md) := ra 2 _ rfl
  have a3 : W2.cell? ⟨w.heap.size, 3, none⟩ = some (.slice a.la a.ln a.lc) := ra 3 _ rfl
  have a4 : W2.cell? ⟨w.heap.size, 4, none⟩ = some (.slice a.ha a.hn a.hc) := ra 4 _ rfl
  have b0 : W2.cell? ⟨w.heap.size + 1, 0, none⟩ = some (.int .u64 b.l.tx) := rb 0 _ rfl
  have b1 : W2.cell? ⟨w.heap.size + 1, 1, none⟩ = some (.int .i64 b.l.lv) := rb 1 _ rfl
  have b2 : W2.cell? ⟨w.heap.size + 1, 2, none⟩ = some (.int .i64 b.l.md) := rb 2 _ rfl
  have b3 : W2.cell? ⟨w.heap.size + 1, 3, none⟩ = some (.slice b.la b.ln b.lc) := rb 3 _ rfl
  have b4 : W2.cell? ⟨w.heap.size + 1, 4, none⟩ = some (.slice b.ha b.hn b.hc) := rb 4 _ rfl
  have HL1 := hide (le_strB a.l.lo b.l.lo h1.lo.2.2.2.1 h2.lo.2.2.2.1)
  have HL2 := hide (le_strB b.l.hi a.l.hi h2.hi.2.2.2.1 h1.hi.2.2.2.1)
  have hah := empty_len h1.hi.1
  have hbh := empty_len h2.hi.1
  have hma : (a.hn : Int) ≤ 9223372036854775807 := by have := h1.hi.2.1; have := h1.hi.2.2.1; unfold maxLen at this; omega
  have hmb : (b.hn : Int) ≤ 9223372036854775807 := by have := h2.hi.2.1; have := h2.hi.2.2.1; unfold maxLen at this; omega
  obtain ⟨z, hz⟩ : ∃ z, coversL a.l b.l = z := ⟨_, rfl⟩
  rw [hz]
  rw [coversL_eq] at hz
  obtain ⟨zh, hzh⟩ : ∃ z, covHi a.l b.l = z := ⟨_, rfl⟩
  obtain ⟨zm, hzm⟩ : ∃ z, covMd a.l b.l = z := ⟨_, rfl⟩
  obtain ⟨y1, hy1⟩ : ∃ y, lessL b.l.lo a.l.lo = y := ⟨_, rfl⟩
  obtain ⟨y2, hy2⟩ : ∃ y, lessL a.l.hi b.l.hi = y := ⟨_, rfl⟩
  rw [hzh, hzm, hy1] at hz
  rw [hy1] at HL1
  rw [hy2] at HL2
  unfold covHi at hzh
  rw [hah, hbh, hy2] at hzh
  unfold covMd at hzm
  have HZ := hide hz
  have HZh := hide hzh
  have HZm := hide hzm
  clear h1 h2 hn hz hzh hzm hy1 hy2 hah hbh ra rb hs2
  go_enter Tryd.func15, Tryd.ntmps15
  go_upto_region 1 with fail
  rw [← hW2]
  clear hW2
  go_cut [5] (fun s wx => s = .bool zh ∧ Hid (wx = W2))
  case first =>
    by_cases ca : a.hn = 0
    · have HZ2 := hide (show zh = true by rw [← HZh.out]; simp [ca])
      have ca' : (a.hn : Int) = 0 := by omega
      have cab : ((a.hn : Int) == 0) = true := by simp [ca]
      clear ca'
      go_wp2
      go_meet
      exact ⟨by rw [HZ2.out], hide rfl⟩
    · have cab : ((a.hn : Int) == 0) = false := by simp [ca]
      have caN : (a.hn == 0) = false := by simp [ca]
      by_cases cb : b.hn = 0
      · have HZ2 := hide (show zh = false by rw [← HZh.out]; simp [ca, cb])
        have cbb : ¬ (0 : Int) < (b.hn : Int) := by omega
        have cbN : ¬ 0 < b.hn := by omega
        clear cb
        go_wp2
        go_meet
        exact ⟨by rw [HZ2.out], hide rfl⟩
      · have HZ2 := hide (show zh = !y2 by rw [← HZh.out]; simp [ca, cb])
        have cbb : (0 : Int) < (b.hn : Int) := by omega
        have cbN : 0 < b.hn := by omega
        have e2 := HL2.out
        clear cb
        go_wp2
        go_meet
        exact ⟨by rw [HZ2.out], hide rfl⟩
  case rest =>
    obtain ⟨rfl, hwc⟩ := hcut
    have hwc := hwc.out
    subst hwc
    go_upto_region 2 with fail
    go_cut [6] (fun s wx => s = .bool zm ∧ Hid (wx = wc))
    case first =>
      by_cases m1 : a.l.md = b.l.md
      · have HZ2 := hide (show zm = true by rw [← HZm.out]; simp [m1])
        have m1' : (a.l.md == b.l.md) = true := by simp [m1]
        clear m1
        go_wp2
        go_meet
        exact ⟨by rw [HZ2.out], hide rfl⟩
      · have m1' : (a.l.md == b.l.md) = false := by simp [m1]
        by_cases m2 : a.l.md = 4
        · have HZ2 := hide (show zm = true by rw [← HZm.out]; simp [m2])
          have m2' : (a.l.md == 4) = true := by simp [m2]
          clear m1 m2
          go_wp2
          go_meet
          exact ⟨by rw [HZ2.out], hide rfl⟩
        · have m2' : (a.l.md == 4) = false := by simp [m2]
          by_cases m3 : b.l.md = 1
          · have m3' : (b.l.md == 1) = true := by simp [m3]
            by_cases m4 : a.l.md = 3
            · have HZ2 := hide (show zm = true by rw [← HZm.out, m3', show (a.l.md == 3) = true by simp [m4]]; simp)
              have m4' : (a.l.md == 3) = true := by simp [m4]
              clear m1 m2 m3 m4
              go_wp2
              go_meet
              exact ⟨by rw [HZ2.out], hide rfl⟩
            · have m4' : (a.l.md == 3) = false := by simp [m4]
              obtain ⟨y5, hy5⟩ : ∃ y, (a.l.md == 2) = y := ⟨_, rfl⟩
              have HZ2 := hide (show zm = y5 by rw [← HZm.out, m1', m2', m3', m4', hy5]; simp)
              clear m1 m2 m3 m4
              go_wp2
              go_meet
              exact ⟨by rw [HZ2.out], hide rfl⟩
          · have m3' : (b.l.md == 1) = false := by simp [m3]
            have HZ2 := hide (show zm = false by rw [← HZm.out, m1', m2', m3']; simp)
            clear m1 m2 m3
            go_wp2
            go_meet
            exact ⟨by rw [HZ2.out], hide rfl⟩
    case rest =>
      obtain ⟨rfl, hwc2⟩ := hcut
      have hwc2 := hwc2.out
      subst hwc2
      have e1 := HL1.out
      by_cases t1 : a.l.tx = b.l.tx
      · have t1' : (a.l.tx == b.l.tx) = true := by simp [t1]
        by_cases t2 : a.l.lv = b.l.lv
        · have t2' : (a.l.lv == b.l.lv) = true := by simp [t2]
          rw [t1', t2'] at HZ
          clear t1 t2
          cases y1 with
          | true =>
            have HZ2 : Hid (z = false) := by rw [← HZ.out]; rfl
            go_wp2
            go_ret
            exact ⟨by rw [HZ2.out]; rfl, HN.out⟩
          | false =>
            cases zh with
            | true =>
              have HZ2 : Hid (z = zm) := by rw [← HZ.out]; rfl
              go_wp2
              go_ret
              exact ⟨by rw [HZ2.out]; rfl, HN.out⟩
            | false =>
              have HZ2 : Hid (z = false) := by rw [← HZ.out]; rfl
              go_wp2
              go_ret
              exact ⟨by rw [HZ2.out]; rfl, HN.out⟩
        · have t2' : (a.l.lv == b.l.lv) = false := by simp [t2]
          rw [t1', t2'] at HZ
          have HZ2 : Hid (z = false) := by rw [← HZ.out]; rfl
          clear t1 t2
          go_wp2
          go_ret
          exact ⟨by rw [HZ2.out]; rfl, HN.out⟩
      · have t1' : (a.l.tx == b.l.tx) = false := by simp [t1]
        rw [t1'] at HZ
        have HZ2 : Hid (z = false) := by rw [← HZ.out]; rfl
        clear t1
        go_wp2
        go_ret
        exact ⟨by rw [HZ2.out]; rfl, HN.out⟩

end Go.Proofs.YtbnojmaknlfphaaDoor
