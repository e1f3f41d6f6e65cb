/- Small, SmallSnap, Snap; chapter 8's example (awake). -/
import Derived.Test.YtfojpengdpnigaaGreatRl4
namespace Go.Proofs.YtfojpengdpnigaaGreat
open Go.RowKit NumMath
set_option linter.unusedVariables false
set_option maxRecDepth 100000

def SmallM (len : Nat) (ms : List MEnt) : Prop := len ≤ 12 ∧ ∀ m ∈ ms, m.n ≤ 100

set_option maxHeartbeats 1000000 in
theorem small_any (X : Nat → Prop) (a : Option Addr) (len cap : Nat) (ms : List MEnt) (w : World) (h : IsMs X w a len cap ms) :
    Calls Tryz.prog 10 #[.slice a len cap] w fun e w' => ∃ b, e = .returned (.bool b) ∧ Tells b (SmallM len ms) ∧ Below w.heap.size w w' := by
  have H := hide h
  have hlen := h.1
  have hm1 : (len : Int) ≤ 9223372036854775807 := by have := h.2.1; have := h.2.2.1; unfold maxLen at this; omega
  clear h
  go_enter Tryz.func10, Tryz.ntmps10
  go_wp2
  go_loopw [7] (fun i wr => ∃ k : Nat, k ≤ len ∧ i = .int .i64 k ∧ (∀ j, j < k → (ms.getD j ment0).n ≤ 100) ∧ Below w.heap.size w wr) (fun i _ => len - (intOf i).toNat)
  case atStart => exact ⟨0, Nat.zero_le _, rfl, by intro j hj; omega, Below.refl _ _⟩
  case round =>
    obtain ⟨k, hk, rfl, hdone, hb⟩ := hrel
    have HDn := hide hdone
    clear hdone
    by_cases hlt : k < len
    · obtain ⟨g, off, rfl, hg, hC⟩ := H.out.at hlt
      obtain ⟨q0, q1, q2, q3⟩ := (hC k (by omega)).same (hb.block g hg)
      have HMem := hide (ment_mem ms k (by omega))
      generalize hm : ms.getD k ment0 = m at *
      have HM := hide hm
      clear hm hC
      obtain ⟨⟨mi, mt, mk, md⟩, mb, mn, mc⟩ := m
      dsimp only at q0 q1 q2 q3
      by_cases hgt : 100 < (mn : Int)
      · have hgt' : 100 < mn := by omega
        go_wp2
        go_ret
        exact ⟨false, rfl, tells_no (fun h => by have := h.2 _ HMem.out; dsimp only at this; omega), hb.trans ((new_below _ _).mono hb.size)⟩
      · have hgt' : mn ≤ 100 := by omega
        go_wp2
        go_roundw
        case rel => exact ⟨k + 1, by omega, by go_num, fun j hj => (by by_cases hjk : j = k; (subst hjk; rw [HM.out]; exact hgt'); exact HDn.out j (by omega)), hb.trans ((new_below _ _).mono hb.size)⟩
        case measure => simp [intOf]; omega
    · have hkl : k = len := by omega
      subst hkl
      have HAll : Hid (∀ m ∈ ms, m.n ≤ 100) := all_of_getD ms (fun j hj => HDn.out j (by omega))
      by_cases hs : k ≤ 12
      · have hs' : (k : Int) ≤ 12 := by omega
        go_wp2
        go_ret
        first | exact ⟨true, rfl, tells_yes ⟨hs, HAll.out⟩, hb⟩ | exact .inr ⟨rfl, tells_yes ⟨hs, HAll.out⟩, hb⟩
      · have hs' : ¬ (k : Int) ≤ 12 := by omega
        go_wp2
        go_ret
        exact .inl ⟨rfl, tells_no (fun h => hs h.1), hb⟩

theorem small_yes (X : Nat → Prop) (a : Option Addr) (len cap : Nat) (ms : List MEnt) (w : World) (h : IsMs X w a len cap ms) (hS : SmallM len ms) :
    Calls Tryz.prog 10 #[.slice a len cap] w fun e w' => e = .returned (.bool true) ∧ Below w.heap.size w w' := by
  refine (small_any X a len cap ms w h).mono ?_
  rintro e w' ⟨b, rfl, ht, hb⟩
  have : b = true := ht.2 hS
  subst this
  exact ⟨rfl, hb⟩

theorem small_no (X : Nat → Prop) (a : Option Addr) (len cap : Nat) (ms : List MEnt) (w : World) (h : IsMs X w a len cap ms) (hS : ¬ SmallM len ms) :
    Calls Tryz.prog 10 #[.slice a len cap] w fun e w' => e = .returned (.bool false) ∧ Below w.heap.size w w' := by
  refine (small_any X a len cap ms w h).mono ?_
  rintro e w' ⟨b, rfl, ht, hb⟩
  have hb' : b = false := by
    cases b with
    | false => rfl
    | true => exact absurd (ht.1 rfl) hS
  subst hb'
  exact ⟨rfl, hb⟩

theorem smallS_yes (i t : Int) (ma : Option Addr) (mn mc : Nat) (da : Option Addr) (dn dc : Nat) (w : World) (h1 : (mn : Int) ≤ 9) (h2 : (dn : Int) ≤ 200) :
    Calls Tryz.prog 9 #[.agg #[.int .u64 i, .int .u64 t, .slice ma mn mc, .slice da dn dc]] w fun e w' => e = .returned (.bool true) ∧ Below w.heap.size w w' := by
  go_enter Tryz.func9, Tryz.ntmps9
  go_wp2
  go_ret
  exact ⟨rfl, new_below _ _⟩

theorem smallS_no (i t : Int) (ma : Option Addr) (mn mc : Nat) (da : Option Addr) (dn dc : Nat) (w : World) (h1 : ¬ ((mn : Int) ≤ 9 ∧ (dn : Int) ≤ 200)) :
    Calls Tryz.prog 9 #[.agg #[.int .u64 i, .int .u64 t, .slice ma mn mc, .slice da dn dc]] w fun e w' => e = .returned (.bool false) ∧ Below w.heap.size w w' := by
  by_cases g : (mn : Int) ≤ 9
  · have g2 : ¬ (dn : Int) ≤ 200 := fun h => h1 ⟨g, h⟩
    clear h1
    go_enter Tryz.func9, Tryz.ntmps9
    go_wp2
    go_ret
    exact ⟨rfl, new_below _ _⟩
  · clear h1
    go_enter Tryz.func9, Tryz.ntmps9
    go_wp2
    go_ret
    exact ⟨rfl, new_below _ _⟩

set_option maxHeartbeats 1000000 in
theorem snap_any (X : Nat → Prop) (base p : Nat) (L : LogS) (w : World) (h : IsL X w base p L) (hG : L.Good) :
    Calls Tryz.prog 73 #[.pointer (some ⟨p, 0, none⟩)] w fun e w' => ∃ a1 n1 c1 a2 n2 c2, e = .returned (.agg #[.int .u64 L.s.i, .int .u64 L.s.t, .slice a1 n1 c1, .slice a2 n2 c2]) ∧ IsNums w' a1 n1 c1 L.s.m ∧ (∀ y, a1 = some y → w.heap.size ≤ y.block) ∧ IsBytes w' a2 n2 c2 L.s.d ∧ (∀ y, a2 = some y → w.heap.size ≤ y.block) ∧ Below w.heap.size w w' := by
  have hplt := h.at
  obtain ⟨ma, mn, mc, da, dn, dc, ea, en, ec, es, c0, c1, c2, c3, c4, c5, c6, hf, hm, hd', hr, he, ho, hp, hn, hx, hx4⟩ := h
  have HC := hide (fun (W : World) (hW : Below w.heap.size w W) => copyS_any L.s.i L.s.t ma mn mc L.s.m da dn dc L.s.d W (hm.1.keep hW) (hd'.1.keep hW) (by have := hG.m1; have := hm.1.1; omega) (by have := hG.d1; have := hd'.1.1; omega))
  have HB := hide (box4_new w (.int .u64 0) (.int .u64 0) (.slice none 0 0) (.slice none 0 0) 28 _ rfl)
  clear hm hd' hr he ho hn hx hx4 hf hp hG
  go_enter Tryz.func73, Tryz.ntmps73
  go_wp2_with (first
    | (go_at_call 36; refine (orE_any p _).mono ?_; rintro e w' ⟨rfl, hw⟩; have hw := hw.symm; subst hw)
    | (go_at_call 35; go_must (refine (HC.out _ (by exact new_below _ _)).mono ?_); rintro e w2 ⟨a1, n1, d1, a2, n2, d2, rfl, hI1, hy1, hI2, hy2, hb2⟩; have HI1 := hide hI1; have HY1 := hide hy1; have HI2 := hide hI2; have HY2 := hide hy2; have HB2 := hide hb2; have HP2 := hide (HB.out.keep hb2 (by simp)); obtain ⟨p0, p1, p2, p3, pf⟩ := HP2.out; have pf0 := pf 0; have pf1 := pf 1; have pf2 := pf 2; have pf3 := pf 3; clear pf hI1 hy1 hI2 hy2 hb2))
  have B0 := HP2.out.set0 (.int .u64 L.s.i)
  have B1 := B0.set1 (.int .u64 L.s.t)
  have B2 := B1.set2 (.slice a1 n1 d1)
  have B3 := B2.set3 (.slice a2 n2 d2)
  have t0 := B0.1
  have t1 := B1.2.1
  have t2 := B2.2.2.1
  have t3 := B3.2.2.2.1
  have hk : Keeps (fun k => k = w.heap.size) w2 ((((w2.setCell ⟨w.heap.size, 0, none⟩ (.int .u64 L.s.i)).setCell ⟨w.heap.size, 1, none⟩ (.int .u64 L.s.t)).setCell ⟨w.heap.size, 2, none⟩ (.slice a1 n1 d1)).setCell ⟨w.heap.size, 3, none⟩ (.slice a2 n2 d2)) := ((((Keeps.self _ w2).also _).also _).also _).also _
  have hk0 : Keeps (fun k => k = w.heap.size) w ((((w2.setCell ⟨w.heap.size, 0, none⟩ (.int .u64 L.s.i)).setCell ⟨w.heap.size, 1, none⟩ (.int .u64 L.s.t)).setCell ⟨w.heap.size, 2, none⟩ (.slice a1 n1 d1)).setCell ⟨w.heap.size, 3, none⟩ (.slice a2 n2 d2)) := (((((Below.keeps (new_below _ _) _).thenBelow HB2.out).also _).also _).also _).also _
  have hy1 := HY1.out
  have hy2 := HY2.out
  simp only [World.size_alloc] at hy1 hy2
  refine bodyPost_ret (v := .agg #[.int .u64 L.s.i, .int .u64 L.s.t, .slice a1 n1 d1, .slice a2 n2 d2]) (by simp [results, Tryz.results73, go_sem, t0, t1, t2, t3]) rfl ⟨a1, n1, d1, a2, n2, d2, rfl, ?_, ?_, ?_, ?_, ?_⟩
  · exact HI1.out.lies hk (.inr (fun y hy e => by have := hy1 y hy; omega))
  · intro y hy
    have := hy1 y hy
    omega
  · exact isB_liesX HI2.out hk (.inr (fun y hy e => by have := hy2 y hy; omega))
  · intro y hy
    have := hy2 y hy
    omega
  · exact hk0.below (Nat.le_refl _) (fun k hk => by omega)

def log0 : LogS := ⟨⟨0, 0, [], []⟩, [], 0, false⟩

theorem good_new {i t : Int} {m d : List Int} (h0 : 0 ≤ i) (h1 : 0 ≤ t) (h2 : t ≤ 18446744073709551615) (hm : ∀ c ∈ m, 0 ≤ c ∧ c ≤ 18446744073709551615) (hm1 : m.length ≤ 1000) (hd : d.length ≤ 100000) : LogS.Good ⟨⟨capI i, t, m, d⟩, [], 0, false⟩ := by
  constructor <;> first | (show 0 ≤ capI i; unfold capI; split <;> omega) | (show capI i ≤ _; unfold capI; split <;> omega) | assumption | (intro j hj; simp at hj) | decide | simp

theorem good_log0 : log0.Good := good_new (i := 0) (t := 0) (m := []) (d := []) (by decide) (by decide) (by decide) (by simp) (by simp) (by simp)

theorem isMs_one (X : Nat → Prop) (w : World) (g : Nat) (m : MEnt) (hg : g < w.heap.size) (h : CellM w g 0 m) (hok : m.ok X w) : IsMs X w (some ⟨g, 0, none⟩) 1 1 [m] :=
  ⟨rfl, Nat.le_refl _, by unfold maxLen; omega, by intro x hx; rw [List.mem_singleton.1 hx]; exact hok, .inr ⟨g, 0, rfl, hg, fun i hi => by
    match i, hi with
    | 0, _ => exact h⟩⟩

theorem cellM_new (w : World) (e : Ent) (b : Option Addr) (n c g : Nat) (ty : TypeId) (hg : w.heap.size = g) : CellM (w.alloc (.cells #[.int .u64 e.i, .int .u64 e.t, .int .i64 e.k, .slice b n c] ty)) g 0 ⟨e, b, n, c⟩ := by
  subst hg
  exact ⟨by simp, by simp, by simp, by simp⟩

theorem dat_nil (X : Nat → Prop) (w : World) : DatB X w none 0 0 [] := ⟨⟨rfl, Nat.le_refl _, Nat.zero_le _, by simp, .inl rfl⟩, .inl rfl⟩

end Go.Proofs.YtfojpengdpnigaaGreat
