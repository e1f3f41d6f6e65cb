/- heapSortOrdered at numbers. reverseRangeOrdered, order2Ordered, medianOrdered, choosePivotOrdered (of fewer than 50), partialInsertionSortOrdered (of fewer than 50) at numbers. medianOrdered, choosePivotOrdered (of fewer than 50), partialInsertionSortOrdered (of fewer than 50) at numbers. partialInsertionSortOrdered (of fewer than 50), bits.Len, nextPowerOfTwo, xorshift.Next, breakPatternsOrdered at numbers. partitionEqualOrdered at numbers. -/
import Derived.Test.YtodmieehdleohaaGreatSuA
import Derived.Deep.DeepCutAuto
import Derived.Deep.CutBlock
import Derived.Test.YtodmieehdleohaaGreatRwA
namespace Go.Proofs.YtodmieehdleohaaGreat
open Go.RowKit NumMath
set_option linter.unusedVariables false
set_option maxRecDepth 100000

set_option maxHeartbeats 1000000 in
theorem heap_any (g n cap a b : Nat) (xs : List Int) (w : World) (h : RU w g n cap xs) (hab : a < b) (hb : b ≤ n) (hn : n ≤ 1000000) :
    Calls Tryz.prog 170 #[.slice (some ⟨g, 0, none⟩) n cap, .int .i64 a, .int .i64 b] w fun e w' => SortPost w g n cap a b xs e w' := by
  have H := hide h
  obtain ⟨hi, hhi⟩ : ∃ hi : Nat, hi = b - a := ⟨_, rfl⟩
  have e1 : (b : Int) - (a : Int) = (hi : Int) := by omega
  obtain ⟨M, hM⟩ : ∃ M : Nat, M = (hi - 1) / 2 := ⟨_, rfl⟩
  have e2 : ((hi : Int) - 1).tdiv 2 = (M : Int) := by rw [show ((hi : Int) - 1) = ((hi - 1 : Nat) : Int) by omega, hM]; rfl
  have hwh : IntKind.i64.wrap (hi : Int) = (hi : Int) := kw_nat hi (by omega)
  have HHi := hide hhi
  have HM := hide hM
  have hhn : hi ≤ 1000000 := by omega
  have hMn : M ≤ 1000000 := by omega
  have hpos : 0 < hi := by omega
  clear h hhi hM
  go_enter Tryz.func170, Tryz.ntmps170
  go_wp2
  go_loopw [9] (fun i wr => ∃ (k : Nat) (ys : List Int), k ≤ M + 1 ∧ i = .int .i64 ((k : Int) - 1) ∧ RU wr g n cap ys ∧ Sh a b xs ys ∧ Hp k hi (fn ys a) ∧ Keeps (fun k => k = g) w wr) (fun i _ => (intOf i + 1).toNat)
  case atStart => exact ⟨M + 1, xs, Nat.le_refl _, by go_num, H.out, Sh.refl _ _ _, fun i c h1 h2 h3 => by (have := HM.out; unfold Kid at h2; omega), Keeps.refl _ _⟩
  case round =>
    obtain ⟨k1, ys, hk, rfl, hR, hS, hH, hK⟩ := hrel
    have HR := hide hR
    have HS := hide hS
    have HH := hide hH
    have HK := hide hK
    clear hR hS hH hK
    cases k1 with
    | succ k =>
      have ek : ((k + 1 : Nat) : Int) - 1 = (k : Int) := by omega
      rw [ek]
      have hk0 : (0 : Int) ≤ (k : Int) := by omega
      have HC := hide (sift_any g n cap k hi a ys wr HR.out (by have := HM.out; omega) (by have := HHi.out; omega) hn HH.out)
      go_wp2_with (first
        | (go_at_call 185; go_must (refine HC.out.mono ?_); rintro e w2 ⟨rfl, zs, hR2, hS2, hH2, hK2⟩; have HR2 := hide hR2; have HS2 := hide (HS.out.trans (hS2.mono (Nat.le_refl _) (by have := HHi.out; omega))); have HH2 := hide hH2; have HK2 := hide (HK.out.trans hK2); clear hR2 hS2 hH2 hK2))
      go_roundw
      case rel => exact ⟨k, zs, by omega, by go_num, HR2.out, HS2.out, HH2.out, HK2.out⟩
      case measure => simp [intOf]
    | zero =>
      rw [show ((0 : Nat) : Int) - 1 = -1 from rfl]
      go_wp2
      go_loopw [10] (fun i wr => ∃ (k : Nat) (ys : List Int), k ≤ hi ∧ i = .int .i64 ((k : Int) - 1) ∧ RU wr g n cap ys ∧ Sh a b xs ys ∧ Hp 0 k (fn ys a) ∧ Tail k hi (fn ys a) ∧ Keeps (fun k => k = g) w wr) (fun i _ => (intOf i + 1).toNat)
      case atStart => exact ⟨hi, ys, Nat.le_refl _, by go_num, HR.out, HS.out, HH.out, fun p q h1 h2 h3 => by omega, HK.out⟩
      case round =>
        clear HR HS HH HK
        obtain ⟨k1, zs, hk, rfl, hR, hS, hH, hT, hK⟩ := hrel
        have HR := hide hR
        have HS := hide hS
        have HH := hide hH
        have HT := hide hT
        have HK := hide hK
        have hzl := hR.len
        clear hR hS hH hT hK
        cases k1 with
        | succ k =>
          have ek : ((k + 1 : Nat) : Int) - 1 = (k : Int) := by omega
          rw [ek]
          have hk0 : (0 : Int) ≤ (k : Int) := by omega
          obtain ⟨t, ht⟩ : ∃ t : Nat, t = a + k := ⟨_, rfl⟩
          have het : (a : Int) + (k : Int) = (t : Int) := by omega
          have htn : t < n := by have := HHi.out; omega
          have hwt : IntKind.i64.wrap (t : Int) = (t : Int) := kw_nat t (by omega)
          have htn' : (t : Int) < (n : Int) := by omega
          have han' : (a : Int) < (n : Int) := by omega
          have Ht := hide ht
          have ca := HR.out.cell (i := a) (by omega)
          have ct := HR.out.cell (i := t) htn
          have fa := HR.out.frozen a
          have ft := HR.out.frozen t
          have HSw := hide (fun k => (HR.out.drewN k).swap a t)
          have HE : Hid ((fun i => (swapL zs a t).getD (a + i) 0) = swF (fn zs a) 0 k) := by
            have e := swF_eq zs a 0 k (by omega) (by omega)
            rw [Nat.add_zero, ← ht] at e
            exact e
          have HS2 := hide (HS.out.trans (Sh.swap (xs := zs) (i := a) (j := t) (by omega) ⟨by omega, by omega⟩ ⟨by omega, by have := HHi.out; omega⟩))
          have HH1 : Hid (Hp 1 k (fn (swapL zs a t) a)) := by
            show Hp 1 k (fun i => (swapL zs a t).getD (a + i) 0)
            rw [HE.out]; exact hp_swap HH.out
          have HT1 : Hid (Tail k hi (fn (swapL zs a t) a)) := by
            show Tail k hi (fun i => (swapL zs a t).getD (a + i) 0)
            rw [HE.out]; exact tail_swap HH.out HT.out (by omega)
          have HC := hide (fun (W : World) (hW : RU W g n cap (swapL zs a t)) => sift_any g n cap 0 k a (swapL zs a t) W hW (by omega) (by have := HHi.out; omega) hn HH1.out)
          have HT2 := hide (fun (vs : List Int) (hs : Sh a (a + k) (swapL zs a t) vs) => tail_sh HT1.out hs (by rw [swap_len]; have := HHi.out; omega) (by omega))
          obtain ⟨va, hva⟩ : ∃ v, zs.getD a 0 = v := ⟨_, rfl⟩
          obtain ⟨vt, hvt⟩ : ∃ v, zs.getD t 0 = v := ⟨_, rfl⟩
          rw [hva] at ca
          rw [hvt] at ct
          rw [hva, hvt] at HSw
          have ct2 := (HR.out.set a vt).cell (i := t) htn
          obtain ⟨v2, hv2⟩ : ∃ v, (zs.set a vt).getD t 0 = v := ⟨_, rfl⟩
          rw [hv2] at ct2
          clear ht hva hvt HE hv2
          go_wp2
          go_region
          all_goals
            go_wp2_with (first
              | (go_at_call 185; go_must (refine (HC.out _ (HSw.out _)).mono ?_); rintro e w2 ⟨rfl, vs, hR2, hS2, hH2, hK2⟩; have HR2 := hide hR2; have HT3 := hide (HT2.out vs hS2); have HS3 := hide (HS2.out.trans (hS2.mono (Nat.le_refl _) (by have := HHi.out; omega))); have HH2 := hide hH2; have HK2 := hide (((HK.out.drN _).set2 _ _).trans hK2); clear hR2 hS2 hH2 hK2))
            go_roundw
            case rel => exact ⟨k, vs, by omega, by go_num, HR2.out, HS3.out, HH2.out, HT3.out, HK2.out⟩
            case measure => simp [intOf]
        | zero =>
          rw [show ((0 : Nat) : Int) - 1 = -1 from rfl]
          have HSr : Hid (Srt a b zs) := tail_srt (by omega) (by rw [← HHi.out]; exact HT.out)
          go_wp2
          go_end0
          exact ⟨rfl, zs, HR.out, HS.out, HSr.out, HK.out⟩

end Go.Proofs.YtodmieehdleohaaGreat

namespace Go.Proofs.YtodmieehdleohaaGreat
open Go.RowKit NumMath
set_option linter.unusedVariables false
set_option maxRecDepth 100000

set_option maxHeartbeats 1000000 in
theorem reverse_any (g n cap a b : Nat) (xs : List Int) (w : World) (h : RU w g n cap xs) (hab : a < b) (hb : b ≤ n) (hn : n ≤ 1000000) :
    Calls Tryz.prog 173 #[.slice (some ⟨g, 0, none⟩) n cap, .int .i64 a, .int .i64 b] w fun e w' => e = .returned (.tuple #[]) ∧ ∃ ys, RU w' g n cap ys ∧ Sh a b xs ys ∧ Keeps (fun k => k = g) w w' := by
  have H := hide h
  clear h
  obtain ⟨b1, hb1⟩ : ∃ b1 : Nat, b = b1 + 1 := ⟨b - 1, by omega⟩
  subst hb1
  go_enter Tryz.func173, Tryz.ntmps173
  go_wp2
  go_loopw [6, 7] (fun i j wr => ∃ (p q : Nat) (ys : List Int), a ≤ p ∧ a ≤ q + 1 ∧ q ≤ b1 ∧ p ≤ b1 + 1 ∧ i = .int .i64 p ∧ j = .int .i64 q ∧ RU wr g n cap ys ∧ Sh a (b1 + 1) xs ys ∧ Keeps (fun k => k = g) w wr) (fun i j _ => (intOf j + 1 - intOf i).toNat)
  case atStart => exact ⟨a, b1, xs, by omega, by omega, by omega, by omega, rfl, by go_num, H.out, Sh.refl _ _ _, Keeps.refl _ _⟩
  case round =>
    obtain ⟨p, q, ys, h1, h2, h3, h4, rfl, rfl, hR, hS, hK⟩ := hrel
    have HR := hide hR
    have HS := hide hS
    have HK := hide hK
    have hyl := hR.len
    clear hR hS hK H
    by_cases hlt : (p : Int) < (q : Int)
    · obtain ⟨q1, hq1⟩ : ∃ q1 : Nat, q = q1 + 1 := ⟨q - 1, by omega⟩
      subst hq1
      have cp := HR.out.cell (i := p) (by omega)
      have cq := HR.out.cell (i := q1 + 1) (by omega)
      have fp := HR.out.frozen p
      have fq := HR.out.frozen (q1 + 1)
      have HSw := hide (fun k => (HR.out.drewN k).swap p (q1 + 1))
      have HS2 := hide (HS.out.trans (Sh.swap (xs := ys) (i := p) (j := q1 + 1) (by omega) ⟨by omega, by omega⟩ ⟨by omega, by omega⟩))
      generalize ys.getD p 0 = X at *
      generalize ys.getD (q1 + 1) 0 = Y at *
      have e1 : ¬ p = q1 + 1 := by omega
      have e2 : ¬ q1 + 1 = p := by omega
      have i1 : (p : Int) < (n : Int) := by omega
      have i2 : (q1 : Int) + 1 < (n : Int) := by omega
      go_wp2
      go_region
      all_goals
        go_wp2
        go_roundw
        case rel => exact ⟨p + 1, q1, swapL ys p (q1 + 1), by omega, by omega, by omega, by omega, by go_num, by go_num, HSw.out _, HS2.out, (HK.out.drN _).set2 _ _⟩
        case measure => simp [intOf]; omega
    · go_wp2
      go_end0
      exact ⟨rfl, ys, HR.out, HS.out, HK.out⟩

set_option maxHeartbeats 1000000 in
theorem order2_any (g n cap a b sp : Nat) (s : Int) (xs : List Int) (w : World) (h : RU w g n cap xs) (ha : a < n) (hb : b < n) (hn : n ≤ 1000000) (hs : w.cell? ⟨sp, 0, none⟩ = some (.int .i64 s)) (hf : w.frozen? ⟨sp, 0, none⟩ = false) (h0 : 0 ≤ s) (h1 : s ≤ 1000000) (hsp : sp ≠ g) :
    Calls Tryz.prog 193 #[.slice (some ⟨g, 0, none⟩) n cap, .int .i64 a, .int .i64 b, .pointer (some ⟨sp, 0, none⟩)] w fun e w' => ∃ x y : Nat, ∃ s' : Int, e = .returned (.tuple #[.int .i64 x, .int .i64 y]) ∧ ((x = a ∧ y = b) ∨ (x = b ∧ y = a)) ∧ w'.cell? ⟨sp, 0, none⟩ = some (.int .i64 s') ∧ w'.frozen? ⟨sp, 0, none⟩ = false ∧ 0 ≤ s' ∧ s' ≤ s + 1 ∧ Keeps (fun k => k = sp) w w' := by
  have ca := h.cell (i := a) ha
  have cb := h.cell (i := b) hb
  clear h
  generalize xs.getD a 0 = X at *
  generalize xs.getD b 0 = Y at *
  obtain ⟨z, hz⟩ : ∃ z : Bool, decide (Y < X) = z := ⟨_, rfl⟩
  have HL := hide (less_any Y X)
  rw [hz] at HL
  have i1 : (a : Int) < (n : Int) := by omega
  have i2 : (b : Int) < (n : Int) := by omega
  clear hz
  go_enter Tryz.func193, Tryz.ntmps193
  go_wp2
  go_quiet (first | (go_at_call 175; refine Calls.quiet_of_same (HL.out _)))
  cases z
  · go_wp2
    go_ret2
    exact ⟨a, b, s, rfl, .inl ⟨rfl, rfl⟩, hs, hf, h0, by omega, (Keeps.refl _ _).drN _⟩
  · go_wp2
    go_ret2
    exact ⟨b, a, s + 1, rfl, .inr ⟨rfl, rfl⟩, World.cell?_setCell_same _ _ _ hs, by simpa using hf, by omega, by omega, ((Keeps.refl _ _).drN _).trans (Keeps.set _)⟩

end Go.Proofs.YtodmieehdleohaaGreat

namespace Go.Proofs.YtodmieehdleohaaGreat
open Go.RowKit NumMath
set_option linter.unusedVariables false
set_option maxRecDepth 100000

/-- the count of swaps at block sp -/
structure SwI (w0 : World) (g n cap sp : Nat) (xs : List Int) (m : Nat) (w : World) : Prop where
  row : RU w g n cap xs
  at_ : ∃ s : Int, 0 ≤ s ∧ s ≤ m ∧ w.cell? ⟨sp, 0, none⟩ = some (.int .i64 s)
  fr : w.frozen? ⟨sp, 0, none⟩ = false
  kp : Keeps (fun k => k = sp) w0 w
  ne : sp ≠ g

theorem order2_in (w0 : World) (g n cap a b sp m lo hi : Nat) (xs : List Int) (w : World) (h : SwI w0 g n cap sp xs m w) (ha : lo ≤ a ∧ a < hi) (hb : lo ≤ b ∧ b < hi) (hhi : hi ≤ n) (hn : n ≤ 1000000) (hm : m ≤ 1000000) :
    Calls Tryz.prog 193 #[.slice (some ⟨g, 0, none⟩) n cap, .int .i64 a, .int .i64 b, .pointer (some ⟨sp, 0, none⟩)] w fun e w' => ∃ x y : Nat, e = .returned (.tuple #[.int .i64 x, .int .i64 y]) ∧ (lo ≤ x ∧ x < hi) ∧ (lo ≤ y ∧ y < hi) ∧ SwI w0 g n cap sp xs (m + 1) w' := by
  obtain ⟨hr, ⟨s, s0, s1, hs⟩, hf, hk, hne⟩ := h
  refine (order2_any g n cap a b sp s xs w hr (by omega) (by omega) hn hs hf s0 (by omega) hne).mono ?_
  rintro e w' ⟨x, y, s', rfl, hxy, hs', hf', t0, t1, hk'⟩
  refine ⟨x, y, rfl, by omega, by omega, hr.lies (hk'.block g hr.lt (fun e => hne e.symm)), ⟨s', t0, by omega, hs'⟩, hf', hk.trans hk', hne⟩

set_option maxHeartbeats 400000 in
theorem median_any (w0 : World) (g n cap a b c sp m lo hi : Nat) (xs : List Int) (w : World) (h : SwI w0 g n cap sp xs m w) (ha : lo ≤ a ∧ a < hi) (hb : lo ≤ b ∧ b < hi) (hc : lo ≤ c ∧ c < hi) (hhi : hi ≤ n) (hn : n ≤ 1000000) (hm : m ≤ 1000) :
    Calls Tryz.prog 189 #[.slice (some ⟨g, 0, none⟩) n cap, .int .i64 a, .int .i64 b, .int .i64 c, .pointer (some ⟨sp, 0, none⟩)] w fun e w' => ∃ x : Nat, e = .returned (.int .i64 x) ∧ (lo ≤ x ∧ x < hi) ∧ SwI w0 g n cap sp xs (m + 3) w' := by
  have H := hide h
  clear h
  go_enter Tryz.func189, Tryz.ntmps189
  go_wp2_with (first
    | (go_at_call 193; have hchk := H2.out; clear hchk; refine (order2_in w0 g n cap y1 x2 sp (m + 2) lo hi xs _ (by exact H2.out) hy1 hx2 hhi hn (by omega)).mono ?_; rintro e w3 ⟨z1, z2, rfl, hz1, hz2, h3⟩; have H3 := hide h3; clear h3)
    | (go_at_call 193; have hchk := H1.out; clear hchk; refine (order2_in w0 g n cap y2 c sp (m + 1) lo hi xs _ (by exact H1.out) hy2 hc hhi hn (by omega)).mono ?_; rintro e w2 ⟨x2, x3, rfl, hx2, hx3, h2⟩; have H2 := hide h2; clear h2)
    | (go_at_call 193; go_must (refine (order2_in w0 g n cap a b sp m lo hi xs _ (by exact H.out) ha hb hhi hn (by omega)).mono ?_); rintro e w1 ⟨y1, y2, rfl, hy1, hy2, h1⟩; have H1 := hide h1; clear h1))
  go_ret
  exact ⟨z2, rfl, hz2, H3.out⟩

theorem swI_new (w : World) (g n cap : Nat) (xs : List Int) (h : RU w g n cap xs) (t : TypeId) : SwI w g n cap w.heap.size xs 0 (w.alloc (.cells #[.int .i64 0] t)) :=
  ⟨h.keep (new_below _ _), ⟨0, by omega, by omega, by simp⟩, by simp, Below.keeps (new_below _ _) _, by have := h.lt; omega⟩

set_option maxHeartbeats 1000000 in
theorem choose_any (g n cap a b : Nat) (xs : List Int) (w : World) (h : RU w g n cap xs) (h8 : a + 8 ≤ b) (h50 : b < a + 50) (hb : b ≤ n) (hn : n ≤ 1000000) :
    Calls Tryz.prog 172 #[.slice (some ⟨g, 0, none⟩) n cap, .int .i64 a, .int .i64 b] w fun e w' => ∃ p : Nat, ∃ t : Int, e = .returned (.tuple #[.int .i64 p, .int .i64 t]) ∧ (a ≤ p ∧ p < b) ∧ (t = 0 ∨ t = 1 ∨ t = 2) ∧ Below w.heap.size w w' := by
  have H := hide (swI_new w g n cap xs h 3)
  have HR := hide h
  clear h
  obtain ⟨l, hl⟩ : ∃ l : Nat, l = b - a := ⟨_, rfl⟩
  obtain ⟨q, hq⟩ : ∃ q : Nat, q = l / 4 := ⟨_, rfl⟩
  have e1 : (b : Int) - (a : Int) = (l : Int) := by omega
  have e2 : (l : Int).tdiv 4 = (q : Int) := by rw [hq]; rfl
  obtain ⟨i1, hi1⟩ : ∃ i1 : Nat, i1 = a + q := ⟨_, rfl⟩
  obtain ⟨j1, hj1⟩ : ∃ j1 : Nat, j1 = a + q * 2 := ⟨_, rfl⟩
  obtain ⟨k1, hk1⟩ : ∃ k1 : Nat, k1 = a + q * 3 := ⟨_, rfl⟩
  have e3 : (a : Int) + (q : Int) = (i1 : Int) := by omega
  have e4 : (a : Int) + (q : Int) * 2 = (j1 : Int) := by omega
  have e5 : (a : Int) + (q : Int) * 3 = (k1 : Int) := by omega
  have w1 : IntKind.i64.wrap (l : Int) = (l : Int) := kw_nat l (by omega)
  have w2 : IntKind.i64.wrap (i1 : Int) = (i1 : Int) := kw_nat i1 (by omega)
  have w3 : IntKind.i64.wrap (j1 : Int) = (j1 : Int) := kw_nat j1 (by omega)
  have w4 : IntKind.i64.wrap (k1 : Int) = (k1 : Int) := kw_nat k1 (by omega)
  have hl8 : (8 : Int) ≤ (l : Int) := by omega
  have hl50 : ¬ (50 : Int) ≤ (l : Int) := by omega
  have HC := hide (fun (W : World) (hW : SwI w g n cap w.heap.size xs 0 W) => median_any w g n cap i1 j1 k1 w.heap.size 0 a b xs W hW ⟨by omega, by omega⟩ ⟨by omega, by omega⟩ ⟨by omega, by omega⟩ hb hn (by omega))
  have hqb : q ≤ 12 := by omega
  have hib : i1 ≤ 1000000 := by omega
  have hjb : j1 ≤ 1000000 := by omega
  have hkb : k1 ≤ 1000000 := by omega
  have hlb : l ≤ 1000000 := by omega
  clear hl hq hi1 hj1 hk1
  go_enter Tryz.func172, Tryz.ntmps172
  go_upto_region 12 with (first
    | (go_at_call 189; go_must (refine (HC.out _ (by exact H.out)).mono ?_); rintro e wm ⟨x, rfl, hx, hm⟩; have HM := hide hm; clear hm))
  have hB : Below w.heap.size w wm := HM.out.kp.below (Nat.le_refl _) (fun k e => by omega)
  obtain ⟨s, s0, s1, hs⟩ := HM.out.at_
  obtain ⟨z1, hz1⟩ : ∃ z : Bool, (s == 0) = z := ⟨_, rfl⟩
  obtain ⟨z2, hz2⟩ : ∃ z : Bool, (s == 12) = z := ⟨_, rfl⟩
  cases z1 <;> cases z2
  all_goals
    go_wp2
    go_ret2
    exact ⟨x, _, rfl, hx, by simp, hB⟩

end Go.Proofs.YtodmieehdleohaaGreat

namespace Go.Proofs.YtodmieehdleohaaGreat
open Go.RowKit NumMath
set_option linter.unusedVariables false
set_option maxRecDepth 100000

theorem srt_snoc {a k : Nat} {xs : List Int} (h : Srt a (k + 1) xs) (hk : a ≤ k) (hl : xs.getD k 0 ≤ xs.getD (k + 1) 0) : Srt a (k + 2) xs := fun p q h1 h2 h3 => by
  by_cases e : q = k + 1
  · subst e
    by_cases e2 : p = k
    · subst e2; exact hl
    · have := h p k h1 (by omega) (by omega); omega
  · exact h p q h1 h2 (by omega)

set_option maxHeartbeats 1000000 in
theorem partial_any (g n cap a b : Nat) (xs : List Int) (w : World) (h : RU w g n cap xs) (hab : a < b) (h50 : b < a + 50) (hb : b ≤ n) (hn : n ≤ 1000000) :
    Calls Tryz.prog 174 #[.slice (some ⟨g, 0, none⟩) n cap, .int .i64 a, .int .i64 b] w fun e w' => ∃ z : Bool, e = .returned (.bool z) ∧ (z = true → Srt a b xs) ∧ Below w.heap.size w w' := by
  have H := hide h
  have hxl := h.len
  clear h
  have hlen : ((b : Int) - (a : Int) < 50) := by omega
  go_enter Tryz.func174, Tryz.ntmps174
  go_wp2
  go_loopw [7, 8] (fun i j wr => i = .int .i64 ((a : Int) + 1) ∧ j = .int .i64 0 ∧ Below w.heap.size w wr) (fun _ _ _ => 0)
  case atStart => exact ⟨rfl, rfl, Below.refl _ _⟩
  case round =>
    obtain ⟨rfl, rfl, hB⟩ := hrel
    have HB := hide hB
    clear hB
    go_wp2
    go_loopw [7] (fun i wr => ∃ k : Nat, a ≤ k ∧ k < b ∧ i = .int .i64 ((k : Int) + 1) ∧ Srt a (k + 1) xs ∧ Below w.heap.size w wr) (fun i _ => b - (intOf i).toNat)
    case atStart => exact ⟨a, Nat.le_refl _, hab, rfl, fun p q h1 h2 h3 => by omega, HB.out⟩
    case round =>
      clear HB
      obtain ⟨k, hk1, hk2, rfl, hS, hB⟩ := hrel
      have HB := hide hB
      have HS := hide hS
      have HR := hide (H.out.keep hB)
      clear hB hS
      by_cases hlt : k + 1 < b
      · have hgd : decide ((k : Int) + 1 < (b : Int)) = true := by simp; omega
        have hgd2 : decide (k + 1 < b) = true := by simp; omega
        have c1 := HR.out.cell (i := k + 1) (by omega)
        have c0 := HR.out.cell (i := k) (by omega)
        have HSn := hide (fun hl => srt_snoc (k := k) HS.out hk1 hl)
        have i1 : (k : Int) + 1 < (n : Int) := by omega
        have i0 : (k : Int) < (n : Int) := by omega
        generalize xs.getD (k + 1) 0 = X at *
        generalize xs.getD k 0 = Y at *
        obtain ⟨z, hz⟩ : ∃ z : Bool, decide (X < Y) = z := ⟨_, rfl⟩
        have HL := hide (less_any X Y)
        rw [hz] at HL
        go_wp2
        go_quiet (first | (go_at_call 175; refine Calls.quiet_of_same (HL.out _)))
        have HB2 : Hid (Below w.heap.size w (wr.drewN nq)) := HB.out.trans ⟨rfl, rfl, rfl, Nat.le_refl _, fun _ _ => rfl⟩
        cases z
        · have hXY : ¬ X < Y := by simpa using hz
          have HSr := hide (HSn.out (by omega))
          go_wp2
          go_roundw
          case rel => exact ⟨k + 1, by omega, by omega, by go_num, HSr.out, HB2.out⟩
          case measure => simp [intOf]; omega
        · have hne : ((k : Int) + 1 == (b : Int)) = false := by simp; omega
          have hne2 : ((k + 1 : Nat) == b) = false := by simp; omega
          go_wp2
          go_ret
          exact ⟨false, rfl, (fun h => by cases h), HB2.out⟩
      · have hkb : b = k + 1 := by omega
        subst hkb
        have hgd : decide ((k : Int) + 1 < (k : Int) + 1) = false := by simp
        have hgd2 : decide (k + 1 < k + 1) = false := by simp
        go_wp2
        go_quiet (first | fail)
        have HB2 : Hid (Below w.heap.size w (wr.drewN nq)) := HB.out.trans ⟨rfl, rfl, rfl, Nat.le_refl _, fun _ _ => rfl⟩
        go_wp2
        go_ret
        exact ⟨true, rfl, fun _ => HS.out, HB2.out⟩

theorem len_any (x : Int) (w : World) (h1 : 0 ≤ x) (h2 : x ≤ 18446744073709551615) :
    Calls Tryz.prog 157 #[.int .u64 x] w fun e w' => e = .returned (.int .i64 (bitLen x.toNat)) ∧ w' = w := by
  have HC := hide (len64_any x)
  go_enter Tryz.func157, Tryz.ntmps157
  go_wp2_with (go_at_call 158; refine (HC.out _ h1 h2).mono ?_; rintro e w' ⟨rfl, hw⟩; have hw := hw.symm; subst hw)
  go_ret
  exact ⟨rfl, rfl⟩

theorem bitLen_few : ∀ l : Fin 50, 13 ≤ l.val → (bitLen l.val = 4 ∧ l.val < 16) ∨ (bitLen l.val = 5 ∧ 16 ≤ l.val ∧ l.val < 32) ∨ (bitLen l.val = 6 ∧ 32 ≤ l.val) := by decide

theorem npow_any (l : Nat) (w : World) (h1 : 13 ≤ l) (h2 : l < 50) :
    Calls Tryz.prog 186 #[.int .i64 l] w fun e w' => ∃ m : Nat, e = .returned (.int .u64 m) ∧ l < m ∧ m ≤ 2 * l ∧ (m = 16 ∨ m = 32 ∨ m = 64) ∧ w' = w := by
  have hb := bitLen_few ⟨l, h2⟩ h1
  dsimp only at hb
  have HC := hide (len_any (l : Int) w (by omega) (by omega))
  rw [Int.toNat_natCast] at HC
  have hw : IntKind.u64.wrap (l : Int) = (l : Int) := by rw [IntKind.wrap_u64]; omega
  rcases hb with ⟨hb, hl⟩ | ⟨hb, hl, hl2⟩ | ⟨hb, hl⟩
  all_goals
    rw [hb] at HC
    clear hb
    go_enter Tryz.func186, Tryz.ntmps186
    go_wp2_with (go_at_call 157; go_must (refine HC.out.mono ?_); rintro e w' ⟨rfl, hw⟩; have hw := hw.symm; subst hw)
    go_ret
  · exact ⟨16, rfl, by omega, by omega, by omega, rfl⟩
  · exact ⟨32, rfl, by omega, by omega, by omega, rfl⟩
  · exact ⟨64, rfl, by omega, by omega, by omega, rfl⟩

/-- the cell at rp holds a number -/
structure NxI (w0 : World) (rp : Nat) (v : Int) (w : World) : Prop where
  c : w.cell? ⟨rp, 0, none⟩ = some (.int .u64 v)
  f : w.frozen? ⟨rp, 0, none⟩ = false
  k : Keeps (fun k => k = rp) w0 w

theorem NxI.next {w0 w : World} {rp : Nat} {v : Int} (h : NxI w0 rp v w) (u : Int) : NxI w0 rp u (w.setCell ⟨rp, 0, none⟩ (.int .u64 u)).drew :=
  ⟨World.cell?_setCell_same _ _ _ h.c, by simpa using h.f, (h.k.trans (Keeps.set _)).dr⟩

set_option maxHeartbeats 1000000 in
theorem next_any (rp : Nat) (v : Int) (w : World) (hc : w.cell? ⟨rp, 0, none⟩ = some (.int .u64 v)) (hf : w.frozen? ⟨rp, 0, none⟩ = false) :
    Calls Tryz.prog 187 #[.pointer (some ⟨rp, 0, none⟩)] w fun e w' => ∃ v', e = .returned (.int .u64 v') ∧ NxI w rp v' w' := by
  have h0 : NxI w rp v w := ⟨hc, hf, Keeps.refl _ _⟩
  go_enter Tryz.func187, Tryz.ntmps187
  go_wp2
  go_region
  have h1 := h0.next (bits .xor .u64 v (IntKind.u64.wrap (v * 8192)))
  generalize bits .xor .u64 v (IntKind.u64.wrap (v * 8192)) = v1 at *
  generalize (w.setCell ⟨rp, 0, none⟩ (.int .u64 v1)).drew = W1 at *
  have c1 := h1.c
  have f1 := h1.f
  have H1 := hide h1
  clear h1 h0 hc hf
  go_wp2
  go_region
  have h2 := H1.out.next (bits .xor .u64 v1 (v1 / 128))
  generalize bits .xor .u64 v1 (v1 / 128) = v2 at *
  generalize (W1.setCell ⟨rp, 0, none⟩ (.int .u64 v2)).drew = W2 at *
  have c2 := h2.c
  have f2 := h2.f
  have H2 := hide h2
  clear h2 H1 c1 f1
  go_wp2
  go_region
  have h3 := H2.out.next (bits .xor .u64 v2 (IntKind.u64.wrap (v2 * 131072)))
  generalize bits .xor .u64 v2 (IntKind.u64.wrap (v2 * 131072)) = v3 at *
  generalize (W2.setCell ⟨rp, 0, none⟩ (.int .u64 v3)).drew = W3 at *
  have c3 := h3.c
  have H3 := hide h3
  clear h3 H2 c2 f2
  go_wp2
  go_ret
  exact ⟨v3, rfl, H3.out⟩

theorem and_le (v : Int) (m : Nat) (hm : m ≤ 1000) : ∃ o : Nat, bits .and .u64 v (m : Int) = (o : Int) ∧ o ≤ m := by
  refine ⟨(BitVec.ofInt 64 v &&& BitVec.ofInt 64 (m : Int)).toNat, ?_, ?_⟩
  · show IntKind.u64.wrap ((BitVec.ofInt 64 v &&& BitVec.ofInt 64 (m : Int)).toNat : Int) = _
    have := (BitVec.ofInt 64 v &&& BitVec.ofInt 64 (m : Int)).isLt
    rw [IntKind.wrap_u64]
    omega
  · rw [BitVec.toNat_and]
    refine Nat.le_trans Nat.and_le_right ?_
    have e : (BitVec.ofInt 64 (m : Int)).toNat = m := by
      rw [BitVec.toNat_ofInt]
      omega
    omega

set_option maxHeartbeats 1000000 in
theorem break_any (g n cap a b : Nat) (xs : List Int) (w : World) (h : RU w g n cap xs) (h13 : a + 13 ≤ b) (h50 : b < a + 50) (hb : b ≤ n) (hn : n ≤ 1000000) :
    Calls Tryz.prog 171 #[.slice (some ⟨g, 0, none⟩) n cap, .int .i64 a, .int .i64 b] w fun e w' => e = .returned (.tuple #[]) ∧ ∃ ys, RU w' g n cap ys ∧ Sh a b xs ys ∧ Keeps (fun k => k = g) w w' := by
  have H := hide h
  have hglt := h.lt
  clear h
  obtain ⟨l, hl⟩ : ∃ l : Nat, l = b - a := ⟨_, rfl⟩
  obtain ⟨q, hq⟩ : ∃ q : Nat, q = l / 4 := ⟨_, rfl⟩
  have e1 : (b : Int) - (a : Int) = (l : Int) := by omega
  have e2 : (l : Int).tdiv 4 = (q : Int) := by rw [hq]; rfl
  obtain ⟨j1, hj1⟩ : ∃ j1 : Nat, j1 + 1 = a + q * 2 := ⟨a + q * 2 - 1, by omega⟩
  have e4 : (a : Int) + (q : Int) * 2 = (j1 : Int) + 1 := by omega
  have w1 : IntKind.i64.wrap (l : Int) = (l : Int) := kw_nat l (by omega)
  have hl8 : (8 : Int) ≤ (l : Int) := by omega
  have hqb : q ≤ 12 := by omega
  have hjb : j1 + 3 < b := by omega
  have hja : a ≤ j1 := by omega
  have hlb : l ≤ 1000000 := by omega
  have hl13 : 13 ≤ l := by omega
  have hl50 : l < 50 := by omega
  have HLl := hide hl
  have HP := hide (fun W => npow_any l W hl13 hl50)
  clear hl hq hj1
  go_enter Tryz.func171, Tryz.ntmps171
  go_wp2_with (first
    | (go_at_call 186; go_must (refine (HP.out _).mono ?_); rintro e w' ⟨m, rfl, hm1, hm2, hm3, hw⟩; have hw := hw.symm; subst hw))
  go_loopw [9] (fun i wr => ∃ (t : Nat) (ys : List Int) (v : Int), j1 ≤ t ∧ t ≤ j1 + 3 ∧ i = .int .i64 t ∧ RU wr g n cap ys ∧ Sh a b xs ys ∧ wr.cell? ⟨w.heap.size, 0, none⟩ = some (.int .u64 v) ∧ wr.frozen? ⟨w.heap.size, 0, none⟩ = false ∧ Keeps (fun k => k = g) w wr) (fun i _ => j1 + 3 - (intOf i).toNat)
  case atStart => exact ⟨j1, xs, l, Nat.le_refl _, by omega, rfl, H.out.keep (new_below _ _), Sh.refl _ _ _, by simp, by simp, Below.keeps (new_below _ _) _⟩
  case round =>
    obtain ⟨t, ys, v, ht1, ht2, rfl, hR, hS, hc, hf, hK⟩ := hrel
    have HR := hide hR
    have HS := hide hS
    have HK := hide hK
    have hyl := hR.len
    have hrg : w.heap.size ≠ g := by omega
    have HNx := hide (next_any w.heap.size v wr hc hf)
    clear hR hS hK H HP hc hf
    obtain ⟨m1, hm1e⟩ : ∃ m1 : Nat, m1 = m - 1 := ⟨_, rfl⟩
    have hm1s : (m : Int) - 1 = (m1 : Int) := by omega
    have hm1l : m1 < 2 * l := by omega
    have hm1b : m1 ≤ 63 := by omega
    clear hm1e
    by_cases hlt : (t : Int) ≤ (j1 : Int) + 2
    · go_upto_region 8 with (first
        | (go_at_call 187; go_must (refine HNx.out.mono ?_); rintro e w2 ⟨v', rfl, hN2⟩; have HN2 := hide hN2; have HR2 := hide (HR.out.lies (hN2.k.block g HR.out.lt (fun e => hrg e.symm))); have HK2 : Hid (Keeps (fun k => k = g) w w2) := ⟨hN2.k.os.trans HK.out.os, hN2.k.tape.trans HK.out.tape, hN2.k.output.trans HK.out.output, Nat.le_trans HK.out.size hN2.k.size, fun i hi hne => (hN2.k.block i (Nat.lt_of_lt_of_le hi HK.out.size) (by omega)).trans (HK.out.block i hi hne)⟩; obtain ⟨o, ho, hom⟩ := and_le v' m1 (by omega); have hwo : IntKind.i64.wrap (o : Int) = (o : Int) := kw_nat o (by omega); clear hN2))
      by_cases hol : (l : Int) ≤ (o : Int)
      · obtain ⟨o2, ho2⟩ : ∃ o2 : Nat, o2 = o - l := ⟨_, rfl⟩
        have heo : (o : Int) - (l : Int) = (o2 : Int) := by omega
        have hwo2 : IntKind.i64.wrap (o2 : Int) = (o2 : Int) := kw_nat o2 (by omega)
        have ho2l : o2 < l := by omega
        clear ho2
        obtain ⟨u, hu⟩ : ∃ u : Nat, u = a + o2 := ⟨_, rfl⟩
        have heu : (a : Int) + (o2 : Int) = (u : Int) := by omega
        have hwu : IntKind.i64.wrap (u : Int) = (u : Int) := kw_nat u (by omega)
        have hua : a ≤ u := by omega
        have hub : u < b := by have := HLl.out; omega
        have hun : (u : Int) < (n : Int) := by omega
        have htn : (t : Int) < (n : Int) := by omega
        have ct := HR2.out.cell (i := t) (by omega)
        have cu := HR2.out.cell (i := u) (by omega)
        have ft := HR2.out.frozen t
        have fu := HR2.out.frozen u
        have HSw := hide (fun k => (HR2.out.drewN k).swap t u)
        have HS2 := hide (HS.out.trans (Sh.swap (xs := ys) (i := t) (j := u) (by omega) ⟨by omega, by omega⟩ ⟨by omega, by omega⟩))
        have ct2 := (HR2.out.set t (ys.getD u 0)).cell (i := u) (by omega)
        obtain ⟨X, hX⟩ : ∃ v, ys.getD t 0 = v := ⟨_, rfl⟩
        obtain ⟨Y, hY⟩ : ∃ v, ys.getD u 0 = v := ⟨_, rfl⟩
        rw [hX] at ct
        rw [hY] at cu ct2
        rw [hX, hY] at HSw
        obtain ⟨v2, hv2⟩ : ∃ v, (ys.set t Y).getD u 0 = v := ⟨_, rfl⟩
        rw [hv2] at ct2
        clear hu hX hY hv2
        go_wp2
        go_region
        all_goals
          go_wp2
          go_roundw
          case rel =>
            refine ⟨t + 1, swapL ys t u, v', by omega, by omega, by go_num, HSw.out _, HS2.out, ?_, ?_, (HK2.out.drN _).set2 _ _⟩
            · exact ((((Keeps.refl (fun k => k = g) w2).set2 (i := t) (j := u) (.int .u64 Y) (.int .u64 X)).dr).cell (g := w.heap.size) (i := 0) (World.block_lt_of_cell? _ ⟨w.heap.size, 0, none⟩ HN2.out.c) hrg).trans HN2.out.c
            · simpa using HN2.out.f
          case measure => simp [intOf]; omega
      · have ho2l : o < l := by omega
        obtain ⟨u, hu⟩ : ∃ u : Nat, u = a + o := ⟨_, rfl⟩
        have heu : (a : Int) + (o : Int) = (u : Int) := by omega
        have hwu : IntKind.i64.wrap (u : Int) = (u : Int) := kw_nat u (by omega)
        have hua : a ≤ u := by omega
        have hub : u < b := by have := HLl.out; omega
        have hun : (u : Int) < (n : Int) := by omega
        have htn : (t : Int) < (n : Int) := by omega
        have ct := HR2.out.cell (i := t) (by omega)
        have cu := HR2.out.cell (i := u) (by omega)
        have ft := HR2.out.frozen t
        have fu := HR2.out.frozen u
        have HSw := hide (fun k => (HR2.out.drewN k).swap t u)
        have HS2 := hide (HS.out.trans (Sh.swap (xs := ys) (i := t) (j := u) (by omega) ⟨by omega, by omega⟩ ⟨by omega, by omega⟩))
        have ct2 := (HR2.out.set t (ys.getD u 0)).cell (i := u) (by omega)
        obtain ⟨X, hX⟩ : ∃ v, ys.getD t 0 = v := ⟨_, rfl⟩
        obtain ⟨Y, hY⟩ : ∃ v, ys.getD u 0 = v := ⟨_, rfl⟩
        rw [hX] at ct
        rw [hY] at cu ct2
        rw [hX, hY] at HSw
        obtain ⟨v2, hv2⟩ : ∃ v, (ys.set t Y).getD u 0 = v := ⟨_, rfl⟩
        rw [hv2] at ct2
        clear hu hX hY hv2
        go_wp2
        go_region
        all_goals
          go_wp2
          go_roundw
          case rel =>
            refine ⟨t + 1, swapL ys t u, v', by omega, by omega, by go_num, HSw.out _, HS2.out, ?_, ?_, (HK2.out.drN _).set2 _ _⟩
            · exact ((((Keeps.refl (fun k => k = g) w2).set2 (i := t) (j := u) (.int .u64 Y) (.int .u64 X)).dr).cell (g := w.heap.size) (i := 0) (World.block_lt_of_cell? _ ⟨w.heap.size, 0, none⟩ HN2.out.c) hrg).trans HN2.out.c
            · simpa using HN2.out.f
          case measure => simp [intOf]; omega
    · go_wp2
      go_end0
      exact ⟨rfl, ys, HR.out, HS.out, HK.out⟩

end Go.Proofs.YtodmieehdleohaaGreat

namespace Go.Proofs.YtodmieehdleohaaGreat
open Go.RowKit NumMath
set_option linter.unusedVariables false
set_option maxRecDepth 100000

structure PE (a b i j : Nat) (p : Int) (ys : List Int) : Prop where
  i0 : a + 1 ≤ i
  ij : i ≤ j + 1
  jb : j < b
  pa : ys.getD a 0 = p
  lo : ∀ k, a ≤ k → k < i → ys.getD k 0 ≤ p
  hi : ∀ k, j < k → k < b → p < ys.getD k 0

theorem PE.up {a b i j : Nat} {p : Int} {ys : List Int} (h : PE a b i j p ys) (hij : i ≤ j) (hv : ¬ p < ys.getD i 0) : PE a b (i + 1) j p ys :=
  ⟨by have := h.i0; omega, by omega, h.jb, h.pa, fun k h1 h2 => by
    by_cases e : k = i
    · subst e; omega
    · exact h.lo k h1 (by omega), h.hi⟩

theorem PE.down {a b i j : Nat} {p : Int} {ys : List Int} (h : PE a b i (j + 1) p ys) (hij : i ≤ j + 1) (hv : p < ys.getD (j + 1) 0) : PE a b i j p ys :=
  ⟨h.i0, by omega, by have := h.jb; omega, h.pa, h.lo, fun k h1 h2 => by
    by_cases e : k = j + 1
    · subst e; exact hv
    · exact h.hi k (by omega) h2⟩

theorem PE.swap {a b i j : Nat} {p : Int} {ys : List Int} (h : PE a b i (j + 1) p ys) (hl : b ≤ ys.length) (hij : i ≤ j + 1) (hi : p < ys.getD i 0) (hj : ¬ p < ys.getD (j + 1) 0) : PE a b (i + 1) j p (swapL ys i (j + 1)) := by
  have hne : i ≠ j + 1 := fun e => by rw [e] at hi; exact hj hi
  have := h.i0
  have := h.jb
  have sg := fun k => swap_get ys i (j + 1) k (by omega) (by omega)
  refine ⟨by omega, by omega, by omega, ?_, ?_, ?_⟩
  · rw [sg, if_neg (by omega), if_neg (by omega)]; exact h.pa
  · intro k h1 h2
    rw [sg, if_neg (by omega)]
    by_cases e : k = i
    · rw [if_pos e]; omega
    · rw [if_neg e]; exact h.lo k h1 (by omega)
  · intro k h1 h2
    rw [sg]
    by_cases e : k = j + 1
    · rw [if_pos e]; exact hi
    · rw [if_neg e, if_neg (by omega)]; exact h.hi k (by omega) h2

theorem pe_new {a b q : Nat} {xs : List Int} (hl : b ≤ xs.length) (hq : a ≤ q ∧ q < b) : PE a b (a + 1) (b - 1) (xs.getD q 0) (swapL xs a q) := by
  have sg := fun k => swap_get xs a q k (by omega) (by omega)
  have e : (swapL xs a q).getD a 0 = xs.getD q 0 := by
    rw [sg]
    by_cases e : a = q
    · rw [if_pos e, ← e]
    · rw [if_neg e, if_pos rfl]
  exact ⟨by omega, by omega, by omega, e, fun k h1 h2 => by rw [show k = a by omega, e]; exact Int.le_refl _, fun k h1 h2 => by omega⟩

set_option maxHeartbeats 1000000 in
theorem parteq_any (g n cap a b q : Nat) (xs : List Int) (w : World) (h : RU w g n cap xs) (hq : a ≤ q ∧ q < b) (hb : b ≤ n) (hn : n ≤ 1000000) :
    Calls Tryz.prog 176 #[.slice (some ⟨g, 0, none⟩) n cap, .int .i64 a, .int .i64 b, .int .i64 q] w fun e w' => ∃ m : Nat, e = .returned (.int .i64 m) ∧ (a < m ∧ m ≤ b) ∧ ∃ ys, RU w' g n cap ys ∧ Sh a b xs ys ∧ (∀ k, a ≤ k → k < m → ys.getD k 0 ≤ xs.getD q 0) ∧ Keeps (fun k => k = g) w w' := by
  have H := hide h
  have hxl := h.len
  have hqb : q < b := hq.2
  have ca := h.cell (i := a) (by omega)
  have cq := h.cell (i := q) (by omega)
  have fa := h.frozen a
  have fq := h.frozen q
  have HSw := hide (fun k => (h.drewN k).swap a q)
  have HSh := hide (Sh.swap (a := a) (b := b) (xs := xs) (i := a) (j := q) (by omega) ⟨by omega, by omega⟩ hq)
  have HPE := hide (pe_new (a := a) (b := b) (xs := xs) (by omega) hq)
  have c2 := (h.set a (xs.getD q 0)).cell (i := q) (by omega)
  obtain ⟨X, hX⟩ : ∃ v, xs.getD a 0 = v := ⟨_, rfl⟩
  obtain ⟨p, hY⟩ : ∃ v, xs.getD q 0 = v := ⟨_, rfl⟩
  rw [hX] at ca
  rw [hY] at cq c2
  rw [hX, hY] at HSw
  rw [hY] at HPE
  rw [hY]
  obtain ⟨v2, hv2⟩ : ∃ v, (xs.set a p).getD q 0 = v := ⟨_, rfl⟩
  rw [hv2] at c2
  have ian : (a : Int) < (n : Int) := by omega
  have iqn : (q : Int) < (n : Int) := by omega
  obtain ⟨b1, hb1⟩ : ∃ b1 : Nat, b1 = b - 1 := ⟨_, rfl⟩
  have eb1 : (b : Int) - 1 = (b1 : Int) := by omega
  rw [← hb1] at HPE
  have HB1 := hide hb1
  have hb1b : b1 < 1000000 := by omega
  clear h hX hY hv2 hb1
  go_enter Tryz.func176, Tryz.ntmps176
  go_wp2
  go_region
  go_wp2
  have HR0 := hide (HSw.out 1)
  have HK0 := hide (((Keeps.refl (fun k => k = g) w).drN 1).set2 (i := a) (j := q) (.int .u64 p) (.int .u64 X))
  go_loopg [9, 10] (b1 + 1 - (a + 1)) (fun gk s9 s10 wr => ∃ (i j : Nat) (ys : List Int), gk = j + 1 - i ∧ s9 = .int .i64 i ∧ s10 = .int .i64 j ∧ RU wr g n cap ys ∧ Sh a b xs ys ∧ PE a b i j p ys ∧ Keeps (fun k => k = g) w wr)
  case atStart => exact ⟨a + 1, b1, swapL xs a q, rfl, by go_num, rfl, HR0.out, HSh.out, HPE.out, HK0.out⟩
  case round =>
    obtain ⟨i, j, ys, rfl, rfl, rfl, hR, hS, hP, hK⟩ := hrel
    have HR := hide hR
    have HS := hide hS
    have HP := hide hP
    have HK := hide hK
    have hyl := hR.len
    have hi0 := hP.i0
    have hij0 := hP.ij
    have hjb := hP.jb
    clear hR hS hP hK HR0 HK0 HSw HSh HPE H ca cq fa fq c2
    go_upto_block 2 with fail
    go_cut [9] (fun s9 wx => ∃ i' : Nat, s9 = .int .i64 i' ∧ i ≤ i' ∧ PE a b i' j p ys ∧ (i' ≤ j → p < ys.getD i' 0) ∧ RU wx g n cap ys ∧ Keeps (fun k => k = g) w wx)
    case first =>
      go_wp2_with fail
      go_loopg [9] (j + 1 - i) (fun gk s9 wx => ∃ i' : Nat, gk = j + 1 - i' ∧ s9 = .int .i64 i' ∧ i ≤ i' ∧ PE a b i' j p ys ∧ RU wx g n cap ys ∧ Keeps (fun k => k = g) w wx)
      case atStart => exact ⟨i, rfl, rfl, Nat.le_refl _, HP.out, HR.out, HK.out⟩
      case round =>
        clear HR HP HK
        obtain ⟨i', rfl, rfl, hii, hP, hR, hK⟩ := hrel
        have HR := hide hR
        have HP := hide hP
        have HK := hide hK
        have hij1 := hP.ij
        clear hR hP hK
        by_cases hij : i' ≤ j
        · have hgd : decide ((i' : Int) ≤ (j : Int)) = true := by simp; omega
          have hgd2 : decide (i' ≤ j) = true := by simp; omega
          have ca := HR.out.cell (i := a) (by omega)
          rw [HP.out.pa] at ca
          have ci := HR.out.cell (i := i') (by omega)
          have HUp := hide (fun hv => HP.out.up hij hv)
          have HVi : Hid (ys.getD i' 0 = ys.getD i' 0) := rfl
          obtain ⟨X, hX⟩ : ∃ v, ys.getD i' 0 = v := ⟨_, rfl⟩
          rw [hX] at ci HUp
          have HX := hide hX
          obtain ⟨z, hz⟩ : ∃ z : Bool, decide (p < X) = z := ⟨_, rfl⟩
          have HL := hide (less_any p X)
          rw [hz] at HL
          have i1 : (i' : Int) < (n : Int) := by omega
          clear hX HVi
          go_wp2
          go_quiet (first | (go_at_call 175; refine Calls.quiet_of_same (HL.out _)))
          cases z
          · have hpX : ¬ p < X := by simpa using hz
            have HU := hide (HUp.out (by first | exact hpX | omega))
            go_wp2
            go_roundg (j + 1 - (i' + 1))
            case measure => omega
            case rel => exact ⟨i' + 1, rfl, by go_num, by omega, HU.out, HR.out.drewN _, HK.out.drN _⟩
          · have hpX : p < X := by simpa using hz
            go_wp2
            go_meet
            exact ⟨i', rfl, hii, HP.out, fun _ => by rw [HX.out]; exact hpX, HR.out.drewN _, HK.out.drN _⟩
        · have hgd : decide ((i' : Int) ≤ (j : Int)) = false := by simp; omega
          have hgd2 : decide (i' ≤ j) = false := by simp; omega
          go_wp2
          go_quiet (first | fail)
          go_wp2
          go_meet
          exact ⟨i', rfl, hii, HP.out, fun h => absurd h hij, HR.out.drewN _, HK.out.drN _⟩
    case rest =>
      clear HR HP HK hij0
      obtain ⟨i', rfl, hii, hP, hv, hR, hK⟩ := hcut
      have HR := hide hR
      have HP := hide hP
      have HV := hide hv
      have HK := hide hK
      have hij0 := hP.ij
      clear hR hP hK hv
      go_upto_block 4 with fail
      go_cut [10] (fun s10 wx => ∃ j' : Nat, s10 = .int .i64 j' ∧ j' ≤ j ∧ PE a b i' j' p ys ∧ (i' ≤ j' → p < ys.getD i' 0) ∧ (i' ≤ j' → ¬ p < ys.getD j' 0) ∧ RU wx g n cap ys ∧ Keeps (fun k => k = g) w wx)
      case first =>
        go_wp2_with fail
        go_loopg [10] (j + 1 - i') (fun gk s10 wx => ∃ j' : Nat, gk = j' + 1 - i' ∧ s10 = .int .i64 j' ∧ j' ≤ j ∧ PE a b i' j' p ys ∧ RU wx g n cap ys ∧ Keeps (fun k => k = g) w wx)
        case atStart => exact ⟨j, rfl, rfl, Nat.le_refl _, HP.out, HR.out, HK.out⟩
        case round =>
          clear HR HP HK
          obtain ⟨j', rfl, rfl, hjj, hP, hR, hK⟩ := hrel
          have HR := hide hR
          have HP := hide hP
          have HK := hide hK
          have hij1 := hP.ij
          clear hR hP hK
          by_cases hij : i' ≤ j'
          · obtain ⟨j2, hj2⟩ : ∃ j2 : Nat, j' = j2 + 1 := ⟨j' - 1, by omega⟩
            subst hj2
            have hgd : decide ((i' : Int) ≤ ((j2 + 1 : Nat) : Int)) = true := by simp; omega
            have hgd2 : decide (i' ≤ j2 + 1) = true := by simp; omega
            have hgd3 : decide ((i' : Int) ≤ (j2 : Int) + 1) = true := by simp; omega
            have ca := HR.out.cell (i := a) (by omega)
            rw [HP.out.pa] at ca
            have ci := HR.out.cell (i := j2 + 1) (by omega)
            have HDn := hide (fun hv => HP.out.down hij hv)
            obtain ⟨X, hX⟩ : ∃ v, ys.getD (j2 + 1) 0 = v := ⟨_, rfl⟩
            rw [hX] at ci HDn
            have HX := hide hX
            obtain ⟨z, hz⟩ : ∃ z : Bool, decide (p < X) = z := ⟨_, rfl⟩
            have HL := hide (less_any p X)
            rw [hz] at HL
            have i1 : (j2 : Int) + 1 < (n : Int) := by omega
            clear hX
            go_wp2
            go_quiet (first | (go_at_call 175; refine Calls.quiet_of_same (HL.out _)))
            cases z
            · have hpX : ¬ p < X := by simpa using hz
              go_wp2
              go_meet
              exact ⟨j2 + 1, by go_num, hjj, HP.out, fun h => HV.out (by omega), fun _ => by rw [HX.out]; exact hpX, HR.out.drewN _, HK.out.drN _⟩
            · have hpX : p < X := by simpa using hz
              have HU := hide (HDn.out (by first | exact hpX | omega))
              go_wp2
              go_roundg (j2 + 1 - i')
              case measure => omega
              case rel => exact ⟨j2, rfl, by go_num, by omega, HU.out, HR.out.drewN _, HK.out.drN _⟩
          · have hgd : decide ((i' : Int) ≤ (j' : Int)) = false := by simp; omega
            have hgd2 : decide (i' ≤ j') = false := by simp; omega
            go_wp2
            go_quiet (first | fail)
            go_wp2
            go_meet
            exact ⟨j', rfl, hjj, HP.out, fun h => absurd h hij, fun h => absurd h hij, HR.out.drewN _, HK.out.drN _⟩
      case rest =>
        clear HR HP HK hij0
        obtain ⟨j', rfl, hjj, hP, hv1, hv2, hR, hK⟩ := hcut
        have HR := hide hR
        have HP := hide hP
        have HV1 := hide hv1
        have HV2 := hide hv2
        have HK := hide hK
        have hij0 := hP.ij
        have hjb2 := hP.jb
        have hi02 := hP.i0
        clear hR hP hK hv1 hv2 HV
        by_cases hfin : (j' : Int) < (i' : Int)
        · go_wp2
          go_ret
          exact ⟨i', rfl, ⟨by omega, by omega⟩, ys, HR.out, HS.out, HP.out.lo, HK.out⟩
        · obtain ⟨j2, hj2⟩ : ∃ j2 : Nat, j' = j2 + 1 := ⟨j' - 1, by omega⟩
          subst hj2
          have HN := hide (HP.out.swap (by omega) (by omega) (HV1.out (by omega)) (HV2.out (by omega)))
          have hne : i' ≠ j2 + 1 := fun e => HV2.out (by omega) (by rw [← e]; exact HV1.out (by omega))
          have e1 : ¬ i' = j2 + 1 := hne
          have e2 : ¬ j2 + 1 = i' := fun e => hne e.symm
          have cp := HR.out.cell (i := i') (by omega)
          have cq := HR.out.cell (i := j2 + 1) (by omega)
          have fp := HR.out.frozen i'
          have fq := HR.out.frozen (j2 + 1)
          have HSw := hide (fun k => (HR.out.drewN k).swap i' (j2 + 1))
          have HS2 := hide (HS.out.trans (Sh.swap (xs := ys) (i := i') (j := j2 + 1) (by omega) ⟨by omega, by omega⟩ ⟨by omega, by omega⟩))
          obtain ⟨X, hX⟩ : ∃ v, ys.getD i' 0 = v := ⟨_, rfl⟩
          obtain ⟨Y, hY⟩ : ∃ v, ys.getD (j2 + 1) 0 = v := ⟨_, rfl⟩
          rw [hX] at cp
          rw [hY] at cq
          rw [hX, hY] at HSw
          have i1 : (i' : Int) < (n : Int) := by omega
          have i2 : (j2 : Int) + 1 < (n : Int) := by omega
          clear hX hY HV1 HV2 hne
          go_wp2
          go_region
          all_goals
            go_wp2
            go_roundg (j2 + 1 - (i' + 1))
            case measure => omega
            case rel => exact ⟨i' + 1, j2, swapL ys i' (j2 + 1), rfl, by go_num, by go_num, HSw.out _, HS2.out, HN.out, (HK.out.drN _).set2 _ _⟩

end Go.Proofs.YtodmieehdleohaaGreat
