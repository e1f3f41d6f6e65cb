/- The law that what is put comes back: RlogBack. -/
import Derived.Test.YtjeijeaogdednaaBkA
import Derived.Test.YtjeijeaogdednaaPp1
namespace Go.Proofs.Ytjeijeaogdednaa
open Go.RowKit NumMath
set_option linter.unusedVariables false
set_option maxRecDepth 100000

def Boxes2 (w : World) (h s : Array Value) : World := (w.alloc (.cells h 48)).alloc (.cells s 26)

theorem boxes2_below (w : World) (h s : Array Value) : Below w.heap.size w (Boxes2 w h s) := by
  have b1 := new_below w (.cells h 48)
  have b2 := new_below (w.alloc (.cells h 48)) (.cells s 26)
  exact b1.trans (b2.mono b1.size)

theorem boxes2_cells {w W : World} {h0 h1 s0 s1 s2 s3 : Value} (hW : Below (Boxes2 w #[h0, h1] #[s0, s1, s2, s3]).heap.size (Boxes2 w #[h0, h1] #[s0, s1, s2, s3]) W) :
    W.cell? ⟨w.heap.size, 0, none⟩ = some h0 ∧ W.cell? ⟨w.heap.size, 1, none⟩ = some h1 ∧ W.cell? ⟨w.heap.size + 1, 0, none⟩ = some s0 ∧ W.cell? ⟨w.heap.size + 1, 1, none⟩ = some s1 ∧ W.cell? ⟨w.heap.size + 1, 2, none⟩ = some s2 ∧ W.cell? ⟨w.heap.size + 1, 3, none⟩ = some s3 := by
  have b2 := new_below (w.alloc (.cells #[h0, h1] 48)) (.cells #[s0, s1, s2, s3] 26)
  have z1 : (w.alloc (.cells #[h0, h1] 48)).heap.size = w.heap.size + 1 := by simp
  have z2 : (Boxes2 w #[h0, h1] #[s0, s1, s2, s3]).heap.size = w.heap.size + 2 := by unfold Boxes2; simp
  have cH : ∀ (i : Nat) (v : Value), (w.alloc (.cells #[h0, h1] 48)).cell? ⟨w.heap.size, i, none⟩ = some v → W.cell? ⟨w.heap.size, i, none⟩ = some v := fun i v h =>
    (hW.cell (by show w.heap.size < _; omega)).trans ((b2.cell (by show w.heap.size < _; omega)).trans h)
  have cS : ∀ (i : Nat) (v : Value), ((w.alloc (.cells #[h0, h1] 48)).alloc (.cells #[s0, s1, s2, s3] 26)).cell? ⟨w.heap.size + 1, i, none⟩ = some v → W.cell? ⟨w.heap.size + 1, i, none⟩ = some v := fun i v h =>
    (hW.cell (by show w.heap.size + 1 < _; omega)).trans h
  exact ⟨cH 0 _ (by simp), cH 1 _ (by simp), cS 0 _ (by rw [← z1]; generalize w.alloc _ = W2; simp), cS 1 _ (by rw [← z1]; generalize w.alloc _ = W2; simp), cS 2 _ (by rw [← z1]; generalize w.alloc _ = W2; simp), cS 3 _ (by rw [← z1]; generalize w.alloc _ = W2; simp)⟩

theorem xmem_no (a : Option Addr) (len cap : Nat) (bs : List Int) (w : World) (h : IsBytes w a len cap bs) (hl : len ≤ 1000000000) (hN : memOf bs = none) :
    Calls Try.prog 20 #[.slice a len cap] w fun e w' => e = .returned (.tuple #[.slice none 0 0, .int .i64 30]) ∧ Below w.heap.size w w' := by
  refine (xofMem_any a len cap bs w h hl).mono ?_
  rintro e w' (⟨_, rfl, hb⟩ | ⟨l, a, n, c, h1, _⟩)
  · exact ⟨rfl, hb⟩
  · rw [hN] at h1; cases h1

theorem xmem_yes (a : Option Addr) (len cap : Nat) (bs : List Int) (w : World) (h : IsBytes w a len cap bs) (hl : len ≤ 1000000000) (l : List Int) (hN : memOf bs = some l) :
    Calls Try.prog 20 #[.slice a len cap] w fun e w' => ∃ b n c, e = .returned (.tuple #[.slice b n c, .int .i64 0]) ∧ Below w.heap.size w w' := by
  refine (xofMem_any a len cap bs w h hl).mono ?_
  rintro e w' (⟨h1, _⟩ | ⟨l', a, n, c, h1, rfl, ho, hr, h9, hb⟩)
  · rw [hN] at h1; cases h1
  · exact ⟨a, n, c, rfl, hb⟩

theorem app_back (L : LogS) (es : List Ent) (h : L.es = []) : appL L es = (80, L) ∨ ∃ L1, appL L es = (0, L1) ∧ L1.s = L.s ∧ L1.es = es := by
  by_cases h0 : es = []
  · subst h0
    exact .inr ⟨L, appL_nil L, rfl, h⟩
  · by_cases hF : Fits L es
    · exact .inr ⟨_, appL_yes h0 hF, rfl, by dsimp only; rw [h]; simp⟩
    · exact .inl (appL_no h0 hF)

theorem blw' {W0 W1 W2 : World} (h : Below W0.heap.size W0 W1) (h' : Below W1.heap.size W1 W2) : Below W0.heap.size W0 W2 := h.trans (h'.mono h.size)

theorem take_put (es : List Ent) (ms : List MEnt) (k : Nat) (h : ms.map MEnt.e = es) (hk : k < es.length) : (es.take (k + 1)).map entB = (es.take k).map entB ++ [entB (ms.getD k ment0).e] ∧ (ms.getD k ment0).e ∈ es := by
  have e : (ms.getD k ment0).e = es[k] := by
    rw [← getD_map_e, h]
    simp [List.getD, List.getElem?_eq_getElem hk]
  rw [e]
  refine ⟨?_, List.getElem_mem hk⟩
  rw [List.take_add_one, List.getElem?_eq_getElem hk, List.map_append]
  rfl

set_option maxHeartbeats 4000000 in
theorem rlback_any (t0 v0 : Int) (i1 t1 : Int) (ma1 : Option Addr) (mn1 mc1 : Nat) (m1 : List Int) (da1 : Option Addr) (dn1 dc1 : Nat) (d1 : List Int) (a2 : Option Addr) (len2 cap2 : Nat) (x2 : List MEnt) (w : World)
    (w0 : (0 ≤ t0 ∧ t0 ≤ 18446744073709551615) ∧ (0 ≤ v0 ∧ v0 ≤ 18446744073709551615)) (w1 : IsSnap w i1 t1 ma1 mn1 mc1 m1 da1 dn1 dc1 d1) (w2 : IsMs (fun _ => False) w a2 len2 cap2 x2) :
    Calls Try.prog 6 #[.agg #[.int .u64 t0, .int .u64 v0], .agg #[.int .u64 i1, .int .u64 t1, .slice ma1 mn1 mc1, .slice da1 dn1 dc1], .slice a2 len2 cap2] w fun e w' => e = .returned (.bool true) ∧ Below w.heap.size w w' := by
  obtain ⟨W0, hW0⟩ : ∃ W0, Boxes2 w #[.int .u64 t0, .int .u64 v0] #[.int .u64 i1, .int .u64 t1, .slice ma1 mn1 mc1, .slice da1 dn1 dc1] = W0 := ⟨_, rfl⟩
  have hb0 := boxes2_below w #[.int .u64 t0, .int .u64 v0] #[.int .u64 i1, .int .u64 t1, .slice ma1 mn1 mc1, .slice da1 dn1 dc1]
  have HK := hide (fun W => boxes2_cells (w := w) (W := W) (h0 := .int .u64 t0) (h1 := .int .u64 v0) (s0 := .int .u64 i1) (s1 := .int .u64 t1) (s2 := .slice ma1 mn1 mc1) (s3 := .slice da1 dn1 dc1))
  rw [hW0] at hb0 HK
  have HAw := hide (rlawake_any W0)
  rw [← hW0] at HAw
  unfold Boxes2 at HAw
  have HW0 := hide hW0
  have HB0 := hide hb0
  have hws := hb0.size
  have HX := hide (fun (W : World) (hW : Below W0.heap.size W0 W) => w2.keep (hb0.trans (hW.mono hb0.size)))
  have HM := hide (fun (W : World) (hW : Below W0.heap.size W0 W) => w1.2.2.1.keep (hb0.trans (hW.mono hb0.size)))
  have HD := hide (fun (W : World) (hW : Below W0.heap.size W0 W) => w1.2.2.2.keep (hb0.trans (hW.mono hb0.size)))
  have HI1 := hide w1.1
  have HT1 := hide w1.2.1
  have HH := hide w0
  have HMr := hide w1.2.2.1.2.2.2.1
  have HDr1 := hide w1.2.2.2.2.2.2.1
  have HMl := hide (memB_length HMr.out)
  have hml := w1.2.2.1.1
  have hdl := w1.2.2.2.1
  have HX0 := hide w2
  have hxl := w2.1
  have hmx : (len2 : Int) ≤ 9223372036854775807 := by have := w2.2.1; have := w2.2.2.1; unfold maxLen at this; omega
  have HMln := hide hml
  have HDln := hide hdl
  have HXln := hide hxl
  clear hW0 hb0 w0 w1 w2 hml hdl hxl
  by_cases g0 : ¬ ((mn1 : Int) ≤ 9 ∧ (dn1 : Int) ≤ 200)
  · have HG0 : Hid (¬ ((mn1 : Int) ≤ 9 ∧ (dn1 : Int) ≤ 200)) := g0
    go_enter Try.func6, Try.ntmps6
    go_wp2_with (first
      | (go_at_call 9; go_must (refine (smallS_no i1 t1 ma1 mn1 mc1 da1 dn1 dc1 _ HG0.out).mono ?_); rintro e wb ⟨rfl, hbb⟩; have HBb := hide (blw HBa.out hbb); clear hbb)
      | (go_at_call 8; go_must (refine HAw.out.mono ?_); rintro e wa ⟨rfl, hba⟩; (have hba : Below W0.heap.size W0 wa := (by have h := HW0.out; unfold Boxes2 at h; rw [h] at hba; exact hba)); have HBa := hide hba; obtain ⟨-, -, p2, p3, p4, p5⟩ := HK.out _ hba; clear hba))
    go_ret
    exact ⟨rfl, HB0.out.trans (HBb.out.mono HB0.out.size)⟩
  have HG0 := hide (Classical.not_not.1 g0)
  clear g0
  by_cases g1 : ¬ SmallM len2 x2
  · have HG1 : Hid (¬ SmallM len2 x2) := g1
    go_enter Try.func6, Try.ntmps6
    go_wp2_with (first
      | (go_at_call 12; go_must (refine (small_no _ a2 len2 cap2 x2 _ (HX.out _ HBb.out) HG1.out).mono ?_); rintro e wc ⟨rfl, hbc⟩; have HBc := hide (blw HBb.out hbc); clear hbc)
      | (go_at_call 9; go_must (refine (smallS_yes i1 t1 ma1 mn1 mc1 da1 dn1 dc1 _ HG0.out.1 HG0.out.2).mono ?_); rintro e wb ⟨rfl, hbb⟩; have HBb := hide (blw HBa.out hbb); clear hbb)
      | (go_at_call 8; go_must (refine HAw.out.mono ?_); rintro e wa ⟨rfl, hba⟩; (have hba : Below W0.heap.size W0 wa := (by have h := HW0.out; unfold Boxes2 at h; rw [h] at hba; exact hba)); have HBa := hide hba; obtain ⟨-, -, p2, p3, p4, p5⟩ := HK.out _ hba; clear hba))
    go_ret
    exact ⟨rfl, HB0.out.trans (HBc.out.mono HB0.out.size)⟩
  have HG1 := hide (Classical.not_not.1 g1)
  clear g1
  by_cases g2 : 2305843009213693952 < i1
  · go_enter Try.func6, Try.ntmps6
    go_wp2_with (first
      | (go_at_call 12; go_must (refine (small_yes _ a2 len2 cap2 x2 _ (HX.out _ HBb.out) HG1.out).mono ?_); rintro e wc ⟨rfl, hbc⟩; have HBc := hide (blw HBb.out hbc); clear hbc; obtain ⟨-, -, r2, r3, r4, r5⟩ := HK.out _ HBc.out)
      | (go_at_call 9; go_must (refine (smallS_yes i1 t1 ma1 mn1 mc1 da1 dn1 dc1 _ HG0.out.1 HG0.out.2).mono ?_); rintro e wb ⟨rfl, hbb⟩; have HBb := hide (blw HBa.out hbb); clear hbb)
      | (go_at_call 8; go_must (refine HAw.out.mono ?_); rintro e wa ⟨rfl, hba⟩; (have hba : Below W0.heap.size W0 wa := (by have h := HW0.out; unfold Boxes2 at h; rw [h] at hba; exact hba)); have HBa := hide hba; obtain ⟨-, -, p2, p3, p4, p5⟩ := HK.out _ hba; clear hba))
    go_ret
    exact ⟨rfl, HB0.out.trans (HBc.out.mono HB0.out.size)⟩
  have hcap : capI i1 = i1 := by unfold capI; rw [if_neg (by omega)]
  cases hN : memOf (memB m1) with
  | none =>
    have HN : Hid (memOf (memB m1) = none) := hN
    go_enter Try.func6, Try.ntmps6
    go_wp2_with (first
      | (go_at_call 20; go_must (refine (xmem_no ad _ cd (memB m1) _ HId.out (by have := HMl.out; omega) HN.out).mono ?_); rintro e we ⟨rfl, hb⟩; have HBe := hide (blw HBd.out hb); clear hb)
      | (go_at_call 28; go_must (refine (xputmem_any ma1 mn1 mc1 m1 _ (HM.out _ HBc.out) (by have := HG0.out.1; omega)).mono ?_); rintro e wd ⟨r6, rfl, hO, hb⟩; obtain ⟨ad, cd, rfl, hI⟩ := hO.is (memB_range m1); have HId := hide hI; have HBd := hide (blw HBc.out hb); clear hO hb hI)
      | (go_at_call 12; go_must (refine (small_yes _ a2 len2 cap2 x2 _ (HX.out _ HBb.out) HG1.out).mono ?_); rintro e wc ⟨rfl, hbc⟩; have HBc := hide (blw HBb.out hbc); clear hbc; obtain ⟨-, -, r2, r3, r4, r5⟩ := HK.out _ HBc.out)
      | (go_at_call 9; go_must (refine (smallS_yes i1 t1 ma1 mn1 mc1 da1 dn1 dc1 _ HG0.out.1 HG0.out.2).mono ?_); rintro e wb ⟨rfl, hbb⟩; have HBb := hide (blw HBa.out hbb); clear hbb)
      | (go_at_call 8; go_must (refine HAw.out.mono ?_); rintro e wa ⟨rfl, hba⟩; (have hba : Below W0.heap.size W0 wa := (by have h := HW0.out; unfold Boxes2 at h; rw [h] at hba; exact hba)); have HBa := hide hba; obtain ⟨-, -, p2, p3, p4, p5⟩ := HK.out _ hba; clear hba))
    go_ret
    exact ⟨rfl, HB0.out.trans (HBe.out.mono HB0.out.size)⟩
  | some l =>
    have hlm := mem_back (by have := HMln.out; have := HG0.out.1; omega) HMr.out hN
    subst hlm
    have HN : Hid (memOf (memB m1) = some (setL m1)) := hN
    clear hN
    have hG0 := good_new (i := i1) (t := t1) (m := m1) (d := d1) HI1.out.1 HT1.out.1 HT1.out.2 HMr.out (by have := HMln.out; have := HG0.out.1; omega) (by have := HDln.out; have := HG0.out.2; omega)
    have HNew := hide (fun (W : World) (hW : Below W0.heap.size W0 W) => new_any (fun _ => False) i1 t1 ma1 mn1 mc1 m1 da1 dn1 dc1 d1 W (fun _ h => h.elim) (HM.out W hW) (HD.out W hW) (by have := HG0.out.1; omega) (by have := HG0.out.2; omega))
    rw [hcap] at hG0 HNew
    have HApp := hide (fun (p B : Nat) (W : World) (hW : Below W0.heap.size W0 W) (hp : W0.heap.size ≤ p) (hL : IsL (fun k => False ∨ k = p) W B p ⟨⟨i1, t1, m1, d1⟩, [], 0, false⟩) (hB : B ≤ W.heap.size) => app_any (fun k => False ∨ k = p) B p ⟨⟨i1, t1, m1, d1⟩, [], 0, false⟩ a2 len2 cap2 x2 W hL hG0 ((HX0.out.more (Y := fun k => k = p) (fun k hk => .inr (by omega))).keep (HB0.out.trans (hW.mono HB0.out.size))) (by rcases HX0.out.2.2.2.2 with h | ⟨g, off, e, hg, _⟩; (exact .inl h); exact .inr (fun y hy => by rw [e] at hy; cases hy; show g ≠ p; omega)) (by have := HG1.out.1; omega) (fun m hm => by have := HG1.out.2 m hm; omega) (by simp) (fun k hk => by have := hL.at; rcases hk with h | h; (exact h.elim); omega) hB)
    have HGn := hide hG0
    clear hG0
    rcases app_back ⟨⟨i1, t1, m1, d1⟩, [], 0, false⟩ (x2.map MEnt.e) rfl with hA | ⟨L1, hA, hs1, he1⟩
    · have HA := hide hA
      clear hA
      go_enter Try.func6, Try.ntmps6
      go_wp2_with (first
        | (go_at_call 13; go_must (refine (HApp.out p we.heap.size _ HBn.out hwp HLn.out HBn0.out).mono ?_); rintro e w2 ⟨rfl, hL2, hP2⟩; rw [HA.out]; have HB2 := hide (HBn.out.trans ((HLn.out.below hP2 HBn0.out).mono HBe.out.size)); clear hL2 hP2)
        | (go_at_call 10; go_must (refine (HNew.out _ HBe.out).mono ?_); rintro e wn ⟨p, rfl, hpn, hLn, hbn0⟩; have HLn := hide hLn; have HBn0 := hide hbn0.size; have HBn := hide (blw HBe.out hbn0); have hwp : W0.heap.size ≤ p := Nat.le_trans HBe.out.size hpn; clear hLn hbn0 hpn)
        | (go_at_call 20; go_must (refine (xmem_yes ad _ cd (memB m1) _ HId.out (by have := HMl.out; omega) _ HN.out).mono ?_); rintro e we ⟨ae, ne, ce, rfl, hb⟩; have HBe := hide (blw HBd.out hb); clear hb; obtain ⟨-, -, s2, s3, s4, s5⟩ := HK.out _ HBe.out)
        | (go_at_call 28; go_must (refine (xputmem_any ma1 mn1 mc1 m1 _ (HM.out _ HBc.out) (by have := HG0.out.1; omega)).mono ?_); rintro e wd ⟨r6, rfl, hO, hb⟩; obtain ⟨ad, cd, rfl, hI⟩ := hO.is (memB_range m1); have HId := hide hI; have HBd := hide (blw HBc.out hb); clear hO hb hI)
        | (go_at_call 12; go_must (refine (small_yes _ a2 len2 cap2 x2 _ (HX.out _ HBb.out) HG1.out).mono ?_); rintro e wc ⟨rfl, hbc⟩; have HBc := hide (blw HBb.out hbc); clear hbc; obtain ⟨-, -, r2, r3, r4, r5⟩ := HK.out _ HBc.out)
        | (go_at_call 9; go_must (refine (smallS_yes i1 t1 ma1 mn1 mc1 da1 dn1 dc1 _ HG0.out.1 HG0.out.2).mono ?_); rintro e wb ⟨rfl, hbb⟩; have HBb := hide (blw HBa.out hbb); clear hbb)
        | (go_at_call 8; go_must (refine HAw.out.mono ?_); rintro e wa ⟨rfl, hba⟩; (have hba : Below W0.heap.size W0 wa := (by have h := HW0.out; unfold Boxes2 at h; rw [h] at hba; exact hba)); have HBa := hide hba; obtain ⟨-, -, p2, p3, p4, p5⟩ := HK.out _ hba; clear hba))
      go_ret
      exact ⟨rfl, HB0.out.trans (HB2.out.mono HB0.out.size)⟩
    have HA := hide hA
    have hG1 := good_app HGn.out (ents_small HX0.out HG1.out) (by have := HG1.out.1; have := HXln.out; simp; omega)
    rw [hA] at hG1
    dsimp only at hG1
    clear hA
    have HG := hide hG1
    have HS1 := hide hs1
    have HE1 := hide he1
    have j0 := hG1.i0
    have j1 := hG1.i1
    rw [hs1] at j0 j1
    dsimp only at j0 j1
    clear hG1 hs1 he1
    go_enter Try.func6, Try.ntmps6
    go_wp2_with (first
      | (go_at_call 13; go_must (refine (HApp.out p we.heap.size _ HBn.out hwp HLn.out HBn0.out).mono ?_); rintro e w2 ⟨rfl, hL2, hP2⟩; rw [HA.out] at hL2 ⊢; dsimp only at hL2; have HB2 := hide (HBn.out.trans ((HLn.out.below hP2 HBn0.out).mono HBe.out.size)); have HL2 := hide hL2; have HXl : Hid (∀ k, ((False ∨ k = p) ∨ SB 4 w2 p k) → k < w2.heap.size) := (fun k hk => (by rcases hk with (h | h) | h; (exact h.elim); (subst h; exact hL2.at); exact (hL2.lt h).1)); clear hL2 hP2)
      | (go_at_call 10; go_must (refine (HNew.out _ HBe.out).mono ?_); rintro e wn ⟨p, rfl, hpn, hLn, hbn0⟩; have HLn := hide hLn; have HBn0 := hide hbn0.size; have HBn := hide (blw HBe.out hbn0); have hwp : W0.heap.size ≤ p := Nat.le_trans HBe.out.size hpn; clear hLn hbn0 hpn)
      | (go_at_call 20; go_must (refine (xmem_yes ad _ cd (memB m1) _ HId.out (by have := HMl.out; omega) _ HN.out).mono ?_); rintro e we ⟨ae, ne, ce, rfl, hb⟩; have HBe := hide (blw HBd.out hb); clear hb; obtain ⟨-, -, s2, s3, s4, s5⟩ := HK.out _ HBe.out)
      | (go_at_call 28; go_must (refine (xputmem_any ma1 mn1 mc1 m1 _ (HM.out _ HBc.out) (by have := HG0.out.1; omega)).mono ?_); rintro e wd ⟨r6, rfl, hO, hb⟩; obtain ⟨ad, cd, rfl, hI⟩ := hO.is (memB_range m1); have HId := hide hI; have HBd := hide (blw HBc.out hb); clear hO hb hI)
      | (go_at_call 12; go_must (refine (small_yes _ a2 len2 cap2 x2 _ (HX.out _ HBb.out) HG1.out).mono ?_); rintro e wc ⟨rfl, hbc⟩; have HBc := hide (blw HBb.out hbc); clear hbc; obtain ⟨-, -, r2, r3, r4, r5⟩ := HK.out _ HBc.out)
      | (go_at_call 9; go_must (refine (smallS_yes i1 t1 ma1 mn1 mc1 da1 dn1 dc1 _ HG0.out.1 HG0.out.2).mono ?_); rintro e wb ⟨rfl, hbb⟩; have HBb := hide (blw HBa.out hbb); clear hbb)
      | (go_at_call 8; go_must (refine HAw.out.mono ?_); rintro e wa ⟨rfl, hba⟩; (have hba : Below W0.heap.size W0 wa := (by have h := HW0.out; unfold Boxes2 at h; rw [h] at hba; exact hba)); have HBa := hide hba; obtain ⟨-, -, p2, p3, p4, p5⟩ := HK.out _ hba; clear hba))
    have hbN := hide (HB2.out.drew)
    have HDr := hide ((Below.refl w2.heap.size w2).drew)
    clear p2 p3 p4 p5 r2 r3 r4 r5 s2 s3 s4 s5
    go_region_held3 (fun W => W.cell? ⟨w.heap.size, 0, none⟩ = some (.int .u64 t0) ∧ W.cell? ⟨w.heap.size, 1, none⟩ = some (.int .u64 v0) ∧ W.cell? ⟨w.heap.size + 1, 0, none⟩ = some (.int .u64 i1) ∧ W.cell? ⟨w.heap.size + 1, 1, none⟩ = some (.int .u64 t1) ∧ W.cell? ⟨w.heap.size + 1, 2, none⟩ = some (.slice ma1 mn1 mc1) ∧ W.cell? ⟨w.heap.size + 1, 3, none⟩ = some (.slice da1 dn1 dc1)) (first | with_reducible exact HK.out _ hbN.out | with_reducible exact HK.out _ (blw hbN.out (new_below _ _))) (first
      | (go_at_call 25; refine (putsnap_any ⟨i1, t1, m1, d1⟩ ma1 mn1 mc1 da1 dn1 dc1 _ HI1.out HT1.out (HM.out _ hbN.out) (HD.out _ hbN.out) (by have := HG0.out.1; omega) (by have := HG0.out.2; omega)).mono ?_; rintro e w7 ⟨r7, rfl, hO, hb⟩; obtain ⟨a7, n7, c7, rfl, -⟩ := hO.any; have HO7 := hide hO; have hbN := hide (blw hbN.out hb); have HDr := hide (blw HDr.out hb); clear hO hb)
      | (go_at_call 21; refine (puthard_any t0 v0 _ HH.out.1 HH.out.2).mono ?_; rintro e w8 ⟨r8, rfl, hO, hb⟩; obtain ⟨a8, n8, c8, rfl, -⟩ := hO.any; have HO8 := hide hO; have HO7 := hide (HO7.out.keep hb); have hbN := hide (blw hbN.out hb); have HDr := hide (blw HDr.out hb); clear hO hb))
    all_goals
      have HT8 := hide (ownT_two (base := w2.heap.size) HO7.out HO8.out (snapB_range _ HDr1.out) (numsL_range _) HDr.out.size w8.heap.size rfl)
      have HB9 := hide (blw hbN.out (new_below w8 (.cells #[.slice a7 n7 c7, .slice a8 n8 c8] 24)))
      have HD9 := hide (blw HDr.out (new_below w8 (.cells #[.slice a7 n7 c7, .slice a8 n8 c8] 24)))
      have hgR := HDr.out.size
      have hz9 : w8.heap.size < (w8.alloc (.cells #[.slice a7 n7 c7, .slice a8 n8 c8] 24)).heap.size := by simp
      clear HO7 HO8 hbN HDr
      generalize w8.alloc (.cells #[.slice a7 n7 c7, .slice a8 n8 c8] 24) = w9 at *
      generalize w8.heap.size = gR at *
      have HL9 := hide (HL2.out.keep HD9.out)
      have hc9 := HL9.out
      obtain ⟨-, -, -, -, -, -, -, -, -, -, c09, -⟩ := hc9
      rw [HS1.out] at c09
      dsimp only at c09
      have HEn := hide (fun (W : World) (X : Nat → Prop) (B q : Nat) (L : LogS) (h : IsL X W B q L) (hG : L.Good) (he : L.es = x2.map MEnt.e) (hs : L.s.i = i1) => ents_all X B q L W h hG (by rw [he, List.length_map, HXln.out]; have := HG1.out.1; omega) (i1 + 1) (by rw [hs]))
      go_wp2_with (first
        | (go_at_call 32; go_must (refine (HEn.out _ _ _ p L1 HL9.out HG.out HE1.out (by rw [HS1.out])).mono ?_); rintro e w3 ⟨b3, n3, c3, ms3, rfl, hn3, hE3, hI3, hbl3, hb3⟩; rw [HE1.out, List.length_map, HXln.out] at hn3; subst hn3; rw [HE1.out] at hE3; have HE3 := hide hE3; have HI3 := hide hI3; have HBl3 := hide hbl3; have HB3 := hide hb3; clear hE3 hI3 hbl3 hb3)
        | (go_at_call 33; go_must (refine (first_any p i1 _ (by exact c09) j0 j1).mono ?_); rintro e w' ⟨rfl, hw⟩; have hw := hw.symm; subst hw))
      have HOk : Hid (∀ e ∈ x2.map MEnt.e, e.ok ∧ e.d.length ≤ 100) := by
        intro e he
        obtain ⟨m, hm, rfl⟩ := List.mem_map.1 he
        have h1 := HX0.out.2.2.2.1 m hm
        exact ⟨h1.1, by have := h1.2.1.1; have := HG1.out.2 m hm; omega⟩
      have HAt : Hid (∀ j, j < (x2.map MEnt.e).length → ((x2.map MEnt.e).getD j ent0).i = capI i1 + 1 + j) := by
        intro j hj
        have := HG.out.at_ j (by rw [HE1.out]; exact hj)
        rw [HE1.out, HS1.out] at this
        rw [hcap]
        exact this
      have HEl : Hid ((x2.map MEnt.e).length = n3) := by show _ = _; rw [List.length_map]; exact HXln.out
      have HG5 := hide (good_back HG.out HS1.out HE1.out)
      have HE1x := hide HE1.out
      generalize x2.map MEnt.e = es at *
      have hl12 := HG1.out.1
      have hgs3 : gR < w3.heap.size := Nat.lt_of_lt_of_le hz9 HB3.out.size
      go_loopw [10, 57] (fun v i wr => ∃ k : Nat, k ≤ n3 ∧ i = .int .i64 k ∧ OwnT wr w2.heap.size v (snapB ⟨i1, t1, m1, d1⟩ :: hardB t0 v0 :: (es.take k).map entB) ∧ (∀ j, v.ownBlock = some j → j = gR ∨ w3.heap.size ≤ j) ∧ Keeps (fun k => k = gR) w3 wr) (fun _ i _ => n3 - (intOf i).toNat)
      case atStart => exact ⟨0, Nat.zero_le _, rfl, HT8.out.keep HB3.out, fun j hj => .inl (Option.some.inj hj).symm, ⟨rfl, rfl, rfl, Nat.le_refl _, fun _ _ _ => rfl⟩⟩
      case round =>
        obtain ⟨k, hk, rfl, hown, hblk, hkp⟩ := hrel
        have HOv := hide hown
        have HBk := hide hblk
        have HKp := hide hkp
        obtain ⟨va, vn, vc, rfl, -⟩ := hown.is
        have hsr := hkp.size
        clear hown hblk hkp
        by_cases hlt : k < n3
        · have HI := hide (HI3.out.lies HKp.out (fun k hk => by show k < w9.heap.size; rw [hk]; exact hz9) (HBl3.out.imp id (fun q y hy e => by have := q y hy; have e : y.block = gR := e; omega)))
          obtain ⟨g, off, rfl, hg, hC⟩ := HI.out.at hlt
          obtain ⟨q0, q1, q2, q3⟩ := hC k (by rw [HI.out.1]; exact hlt)
          have hok := HI.out.2.2.2.1 _ (ment_mem ms3 k (by rw [HI.out.1]; exact hlt))
          have htk := take_put es ms3 k HE3.out (by rw [HEl.out]; exact hlt)
          clear hC
          generalize ms3.getD k ment0 = m at *
          obtain ⟨⟨mi, mt, mk, md⟩, mb, mn, mc⟩ := m
          dsimp only at q0 q1 q2 q3 hok htk
          have HTk := hide htk.1
          have HOm := hide hok.1
          have HDm : Hid (IsBytes wr mb mn mc md) := hok.2.1
          have HMr2 : Hid (∀ c ∈ md, 0 ≤ c ∧ c < 256) := hok.2.1.2.2.2.1
          have HMl2 : Hid (md.length ≤ 100) := (HOk.out _ htk.2).2
          clear hok htk
          go_wp2_with (first
            | (at_builtin; go_must (refine wp_appT4 _ rfl _ _ rfl w2.heap.size _ _ rfl (HOv.out.keep HBq.out) wq.heap.size aq _ cq _ rfl (by simp) (HIq.out.keep (new_below _ _)) Hoff.out (by simp; omega) HSz.out ?_); intro v4 w4 hO4 hg4 hat4; have HO4 := hide hO4; have HG4 := hide hg4; have HA4 := hide hat4; clear hO4 hg4 hat4)
            | (go_at_call 23; go_must (refine (putent_any ⟨mi, mt, mk, md⟩ mb mn mc _ HOm.out (HDm.out.keep (new_below _ _)) (by have := HDm.out.1; have := HMl2.out; omega)).mono ?_); rintro e wq ⟨rq, rfl, hO, hb⟩; obtain ⟨aq, cq, rfl, hIq⟩ := hO.is (entB_range _ HMr2.out); have hlq := hO.lt; have HIq := hide hIq; have HBq := hide (blw (blw (new_below wr _) hb) (new_below wq (.cells #[.slice aq (entB ⟨mi, mt, mk, md⟩).length cq] 24))); have HSz : Hid (w2.heap.size ≤ (wq.alloc (.cells #[.slice aq (entB ⟨mi, mt, mk, md⟩).length cq] 24)).heap.size) := (by have := HBq.out.size; show _ ≤ _; omega); have Hoff : Hid ((entB ⟨mi, mt, mk, md⟩).length = 0 ∨ ∀ y, aq = some y → (Value.slice va vn vc).ownBlock ≠ some y.block) := (by rcases hIq.2.2.2.2 with h0 | ⟨g', off', ha, hg', _⟩; (exact .inl h0); refine .inr (fun y hy e => ?_); subst hy; have h1 := (hlq y.block rfl).1; have h2 := (HOv.out.lt y.block e).2; simp at h1; omega); clear hO hb hIq hlq))
          go_roundw
          case rel =>
            refine ⟨k + 1, by omega, by go_num, ?_, ?_, ?_⟩
            · have h := HO4.out
              rw [HTk.out]
              simpa using h
            · intro j hj
              rcases HA4.out with h | h
              · exact HBk.out j (h ▸ hj)
              · rw [h] at hj
                have h1 := Option.some.inj hj
                have h2 := HBq.out.size
                right
                omega
            · exact keeps_grown (keeps_on HKp.out HBq.out) HG4.out HBk.out
          case measure => simp [intOf]; omega
        · have hkn : k = n3 := by omega
          subst hkn
          obtain ⟨a5, n5, c5, e5, hT5⟩ := HOv.out.is
          cases e5
          rw [List.take_of_length_le (by rw [HEl.out]; exact Nat.le_refl _)] at hT5
          have HBr2 := hide (keeps_below (blw HD9.out HB3.out) HKp.out hgR (by have := HD9.out.size; have := HB3.out.size; omega))
          have HBr := hide (blw' HB2.out HBr2.out)
          have HRep := hide (back_any va vn vc t0 v0 ⟨i1, t1, m1, d1⟩ es wr hT5 (by have := HEl.out; omega) HH.out.1 HH.out.2 HI1.out HT1.out HMr.out (by have := HDln.out; have := HG0.out.2; dsimp only; omega) HN.out HAt.out HOk.out)
          dsimp only at HRep
          rw [hcap] at HRep
          clear hT5
          go_wp2_with (first
            | (go_at_call 30; go_must (refine HRep.out.mono ?_); rintro e w5 ⟨p5, rfl, hL5, hb5⟩; have HL5 := hide hL5; have HB5 := hide (blw HBr.out hb5); have HB52 := hide (blw HBr2.out hb5); obtain ⟨y0, y1, -⟩ := HK.out _ HB5.out; obtain ⟨y0', y1', -⟩ := HK.out _ (blw HB5.out (new_below w5 (.cells #[.int .u64 t0, .int .u64 v0] 48))); clear hL5 hb5)
            | (go_at_call 34; go_must (refine (snap_any _ _ p5 _ _ (HL5.out.keep (new_below _ _)) HG5.out).mono ?_); rintro e w6 ⟨a3, n3, d3, a4, n4, d4, rfl, hI3, -, hI4, -, hb6⟩; dsimp only at hI3 hI4 ⊢; have HI6 := hide hI3; have HI7 := hide hI4; have HB6 := hide (blw (new_below w5 _) hb6); clear hI3 hI4 hb6))
          have HB6x := hide (blw HB6.out ((new_below w6 (.cells #[.int .u64 i1, .int .u64 t1, .slice a3 n3 d3, .slice a4 n4 d4] 26)).drew))
          have HB6y := hide ((new_below w6 (.cells #[.int .u64 i1, .int .u64 t1, .slice a3 n3 d3, .slice a4 n4 d4] 26)).drew)
          have z0 : (w6.alloc (.cells #[.int .u64 i1, .int .u64 t1, .slice a3 n3 d3, .slice a4 n4 d4] 26)).drew.cell? ⟨w6.heap.size, 0, none⟩ = some (.int .u64 i1) := by simp
          have z1 : (w6.alloc (.cells #[.int .u64 i1, .int .u64 t1, .slice a3 n3 d3, .slice a4 n4 d4] 26)).drew.cell? ⟨w6.heap.size, 1, none⟩ = some (.int .u64 t1) := by simp
          have z2 : (w6.alloc (.cells #[.int .u64 i1, .int .u64 t1, .slice a3 n3 d3, .slice a4 n4 d4] 26)).drew.cell? ⟨w6.heap.size, 2, none⟩ = some (.slice a3 n3 d3) := by simp
          have z3 : (w6.alloc (.cells #[.int .u64 i1, .int .u64 t1, .slice a3 n3 d3, .slice a4 n4 d4] 26)).drew.cell? ⟨w6.heap.size, 3, none⟩ = some (.slice a4 n4 d4) := by simp
          have zs : w6.heap.size < (w6.alloc (.cells #[.int .u64 i1, .int .u64 t1, .slice a3 n3 d3, .slice a4 n4 d4] 26)).drew.heap.size := by simp
          refine startL (by kernel_rfl) ?_
          generalize (w6.alloc (.cells #[.int .u64 i1, .int .u64 t1, .slice a3 n3 d3, .slice a4 n4 d4] 26)).drew = Xd at *
          have HQ : Hid (∀ W, Below Xd.heap.size Xd W → W.cell? ⟨w6.heap.size, 0, none⟩ = some (.int .u64 i1) ∧ W.cell? ⟨w6.heap.size, 1, none⟩ = some (.int .u64 t1) ∧ W.cell? ⟨w6.heap.size, 2, none⟩ = some (.slice a3 n3 d3) ∧ W.cell? ⟨w6.heap.size, 3, none⟩ = some (.slice a4 n4 d4)) := fun W hW => ⟨(hW.cell zs).trans z0, (hW.cell zs).trans z1, (hW.cell zs).trans z2, (hW.cell zs).trans z3⟩
          have hbN := hide (blw HB5.out HB6x.out)
          have HDr := hide (Below.refl Xd.heap.size Xd)
          have HI6 := hide (HI6.out.keep HB6y.out)
          have HI7 := hide (HI7.out.keep HB6y.out)
          have HLa := hide (HL2.out.keep (blw HB52.out HB6x.out))
          have HLb := hide (HL5.out.keep HB6x.out)
          have HPm := hide (fun (W : World) (hW : IsNums W a3 n3 d3 (setL m1)) => putmem_any a3 n3 d3 (setL m1) W hW (by have := hW.1; have := set_length m1; have := HMln.out; have := HG0.out.1; omega))
          rw [memB_set] at HPm
          have HFa := hide (fun (W : World) (hW : Below Xd.heap.size Xd W) => first_any p i1 W (by have h := HLa.out.keep hW; obtain ⟨-, -, -, -, -, -, -, -, -, -, c, -⟩ := h; rw [HS1.out] at c; exact c) j0 j1)
          have HFb := hide (fun (W : World) (hW : Below Xd.heap.size Xd W) => first_any p5 i1 W (by have h := HLb.out.keep hW; obtain ⟨-, -, -, -, -, -, -, -, -, -, c, -⟩ := h; exact c) j0 j1)
          clear z0 z1 z2 z3 y0 y1 y0' y1' HB6x HB6y
          refine takeL (i := 0) (v := ?v0) rfl (by kernel_rfl) (by kernel_rfl) (by kernel_rfl) (fun _ _ _ h => h) (by rfl) (Below.refl _ _) ?hy0 ?rest0
          case hy0 => (intro W hSw; go_simp; all_goals (with_reducible rfl))
          (try simp only [Act.put, List.setIfInBounds_toArray, List.set_cons_zero, List.set_cons_succ])
          refine takeL (i := 1) (v := ?v1) rfl (by kernel_rfl) (by kernel_rfl) (by kernel_rfl) (fun _ _ _ h => h) (by rfl) (Below.refl _ _) ?hy1 ?rest1
          case hy1 => (intro W hSw; obtain ⟨y0, y1, y2, y3, y4, y5⟩ := HK.out W (blw hbN.out hSw); obtain ⟨z0, z1, z2, z3⟩ := HQ.out W (blw HDr.out hSw); go_simp; all_goals (with_reducible rfl))
          (try simp only [Act.put, List.setIfInBounds_toArray, List.set_cons_zero, List.set_cons_succ])
          refine takeL (i := 2) (v := ?v2) rfl (by kernel_rfl) (by kernel_rfl) (by kernel_rfl) (fun _ _ _ h => h) (by rfl) (Below.refl _ _) ?hy2 ?rest2
          case hy2 => (intro W hSw; go_simp; all_goals (with_reducible rfl))
          (try simp only [Act.put, List.setIfInBounds_toArray, List.set_cons_zero, List.set_cons_succ])
          refine takeL (i := 3) (v := ?v3) rfl (by kernel_rfl) (by kernel_rfl) (by kernel_rfl) (fun _ _ _ h => h) (by rfl) (Below.refl _ _) ?hy3 ?rest3
          case hy3 => (intro W hSw; obtain ⟨y0, y1, y2, y3, y4, y5⟩ := HK.out W (blw hbN.out hSw); obtain ⟨z0, z1, z2, z3⟩ := HQ.out W (blw HDr.out hSw); go_simp; all_goals (with_reducible rfl))
          (try simp only [Act.put, List.setIfInBounds_toArray, List.set_cons_zero, List.set_cons_succ])
          refine takeL (i := 4) (v := ?v4) rfl (by kernel_rfl) (by kernel_rfl) (by kernel_rfl) (fun _ _ _ h => h) (by rfl) (Below.refl _ _) ?hy4 ?rest4
          case hy4 => (intro W hSw; go_simp; all_goals (with_reducible rfl))
          (try simp only [Act.put, List.setIfInBounds_toArray, List.set_cons_zero, List.set_cons_succ])
          refine takeL (i := 5) (v := ?v5) rfl (by kernel_rfl) (by kernel_rfl) (by kernel_rfl) (fun _ _ _ h => h) (by rfl) (Below.refl _ _) ?hy5 ?rest5
          case hy5 => (intro W hSw; go_simp; all_goals (with_reducible rfl))
          (try simp only [Act.put, List.setIfInBounds_toArray, List.set_cons_zero, List.set_cons_succ])
          refine takeL (i := 6) (v := ?v6) rfl (by kernel_rfl) (by kernel_rfl) (by kernel_rfl) (fun _ _ _ h => h) (by rfl) (Below.refl _ _) ?hy6 ?rest6
          case hy6 => (intro W hSw; go_simp; all_goals (with_reducible rfl))
          (try simp only [Act.put, List.setIfInBounds_toArray, List.set_cons_zero, List.set_cons_succ])
          refine takeL (i := 7) (v := ?v7) rfl (by kernel_rfl) (by kernel_rfl) (by kernel_rfl) (fun _ _ _ h => h) (by rfl) (Below.refl _ _) ?hy7 ?rest7
          case hy7 => (intro W hSw; obtain ⟨y0, y1, y2, y3, y4, y5⟩ := HK.out W (blw hbN.out hSw); obtain ⟨z0, z1, z2, z3⟩ := HQ.out W (blw HDr.out hSw); go_simp; all_goals (with_reducible rfl))
          (try simp only [Act.put, List.setIfInBounds_toArray, List.set_cons_zero, List.set_cons_succ])
          refine takeL (i := 8) (v := ?v8) rfl (by kernel_rfl) (by kernel_rfl) (by kernel_rfl) (fun _ _ _ h => h) (by rfl) (Below.refl _ _) ?hy8 ?rest8
          case hy8 => (intro W hSw; go_simp; all_goals (with_reducible rfl))
          (try simp only [Act.put, List.setIfInBounds_toArray, List.set_cons_zero, List.set_cons_succ])
          refine takeL (i := 9) (v := ?v9) rfl (by kernel_rfl) (by kernel_rfl) (by kernel_rfl) (fun _ _ _ h => h) (by rfl) (Below.refl _ _) ?hy9 ?rest9
          case hy9 => (intro W hSw; obtain ⟨y0, y1, y2, y3, y4, y5⟩ := HK.out W (blw hbN.out hSw); obtain ⟨z0, z1, z2, z3⟩ := HQ.out W (blw HDr.out hSw); go_simp; all_goals (with_reducible rfl))
          (try simp only [Act.put, List.setIfInBounds_toArray, List.set_cons_zero, List.set_cons_succ])
          refine takeL (i := 10) (v := ?v10) rfl (by kernel_rfl) (by kernel_rfl) (by kernel_rfl) (fun _ _ _ h => h) (by rfl) (Below.refl _ _) ?hy10 ?rest10
          case hy10 => (intro W hSw; go_simp; all_goals (with_reducible rfl))
          (try simp only [Act.put, List.setIfInBounds_toArray, List.set_cons_zero, List.set_cons_succ])
          refine takeL (i := 11) (v := ?v11) rfl (by kernel_rfl) (by kernel_rfl) (by kernel_rfl) (fun _ _ _ h => h) (by rfl) (Below.refl _ _) ?hy11 ?rest11
          case hy11 => (intro W hSw; go_simp; all_goals (with_reducible rfl))
          (try simp only [Act.put, List.setIfInBounds_toArray, List.set_cons_zero, List.set_cons_succ])
          refine takeL (i := 12) (v := ?v12) rfl (by kernel_rfl) (by kernel_rfl) (by kernel_rfl) (fun _ _ _ h => h) (by rfl) (Below.refl _ _) ?hy12 ?rest12
          case hy12 => (intro W hSw; go_simp; all_goals (with_reducible rfl))
          (try simp only [Act.put, List.setIfInBounds_toArray, List.set_cons_zero, List.set_cons_succ])
          refine takeL (i := 13) (v := ?v13) rfl (by kernel_rfl) (by kernel_rfl) (by kernel_rfl) (fun _ _ _ h => h) (by rfl) (Below.refl _ _) ?hy13 ?rest13
          case hy13 => (intro W hSw; go_simp; all_goals (with_reducible rfl))
          (try simp only [Act.put, List.setIfInBounds_toArray, List.set_cons_zero, List.set_cons_succ])
          refine takeL (i := 14) (v := ?v14) rfl (by kernel_rfl) (by kernel_rfl) (by kernel_rfl) (fun _ _ _ h => h) (by rfl) (Below.refl _ _) ?hy14 ?rest14
          case hy14 => (intro W hSw; obtain ⟨y0, y1, y2, y3, y4, y5⟩ := HK.out W (blw hbN.out hSw); obtain ⟨z0, z1, z2, z3⟩ := HQ.out W (blw HDr.out hSw); go_simp; all_goals (with_reducible rfl))
          (try simp only [Act.put, List.setIfInBounds_toArray, List.set_cons_zero, List.set_cons_succ])
          refine takeL (i := 15) (v := ?v15) rfl (by kernel_rfl) (by kernel_rfl) (by kernel_rfl) (fun _ _ _ h => h) (by rfl) (Below.refl _ _) ?hy15 ?rest15
          case hy15 => (intro W hSw; have q := (HI7.out.keep (blw HDr.out hSw)).conv; go_simp; all_goals (with_reducible rfl))
          (try simp only [Act.put, List.setIfInBounds_toArray, List.set_cons_zero, List.set_cons_succ])
          refine takeL (i := 16) (v := ?v16) rfl (by kernel_rfl) (by kernel_rfl) (by kernel_rfl) (fun _ _ _ h => h) (by rfl) (Below.refl _ _) ?hy16 ?rest16
          case hy16 => (intro W hSw; go_simp; all_goals (with_reducible rfl))
          (try simp only [Act.put, List.setIfInBounds_toArray, List.set_cons_zero, List.set_cons_succ])
          refine takeL (i := 17) (v := ?v17) rfl (by kernel_rfl) (by kernel_rfl) (by kernel_rfl) (fun _ _ _ h => h) (by rfl) (Below.refl _ _) ?hy17 ?rest17
          case hy17 => (intro W hSw; obtain ⟨y0, y1, y2, y3, y4, y5⟩ := HK.out W (blw hbN.out hSw); obtain ⟨z0, z1, z2, z3⟩ := HQ.out W (blw HDr.out hSw); go_simp; all_goals (with_reducible rfl))
          (try simp only [Act.put, List.setIfInBounds_toArray, List.set_cons_zero, List.set_cons_succ])
          refine takeL (i := 18) (v := ?v18) rfl (by kernel_rfl) (by kernel_rfl) (by kernel_rfl) (fun _ _ _ h => h) (by rfl) (Below.refl _ _) ?hy18 ?rest18
          case hy18 => (intro W hSw; have q := (HD.out W (blw hbN.out hSw)).conv; go_simp; all_goals (with_reducible rfl))
          (try simp only [Act.put, List.setIfInBounds_toArray, List.set_cons_zero, List.set_cons_succ])
          refine takeL (i := 19) (v := ?v19) rfl (by kernel_rfl) (by kernel_rfl) (by kernel_rfl) (fun _ _ _ h => h) (by rfl) (Below.refl _ _) ?hy19 ?rest19
          case hy19 => (intro W hSw; go_simp; all_goals (with_reducible rfl))
          (try simp only [Act.put, List.setIfInBounds_toArray, List.set_cons_zero, List.set_cons_succ])
          refine takeL (i := 20) (v := ?v20) rfl (by kernel_rfl) (by kernel_rfl) (by kernel_rfl) (fun _ _ _ h => h) (by rfl) (Below.refl _ _) ?hy20 ?rest20
          case hy20 => (intro W hSw; go_simp; all_goals (with_reducible rfl))
          (try simp only [Act.put, List.setIfInBounds_toArray, List.set_cons_zero, List.set_cons_succ])
          refine takeL (i := 21) (v := ?v21) rfl (by kernel_rfl) (by kernel_rfl) (by kernel_rfl) (fun _ _ _ h => h) (by rfl) (Below.refl _ _) ?hy21 ?rest21
          case hy21 => (intro W hSw; go_simp; all_goals (with_reducible rfl))
          (try simp only [Act.put, List.setIfInBounds_toArray, List.set_cons_zero, List.set_cons_succ])
          refine takeL (i := 22) (v := ?v22) rfl (by kernel_rfl) (by kernel_rfl) (by kernel_rfl) (fun _ _ _ h => h) (by rfl) (Below.refl _ _) ?hy22 ?rest22
          case hy22 => (intro W hSw; go_simp; all_goals (with_reducible rfl))
          (try simp only [Act.put, List.setIfInBounds_toArray, List.set_cons_zero, List.set_cons_succ])
          refine takeL (i := 23) (v := ?v23) rfl (by kernel_rfl) (by kernel_rfl) (by kernel_rfl) (fun _ _ _ h => h) (by rfl) (Below.refl _ _) ?hy23 ?rest23
          case hy23 => (intro W hSw; obtain ⟨y0, y1, y2, y3, y4, y5⟩ := HK.out W (blw hbN.out hSw); obtain ⟨z0, z1, z2, z3⟩ := HQ.out W (blw HDr.out hSw); go_simp; all_goals (with_reducible rfl))
          (try simp only [Act.put, List.setIfInBounds_toArray, List.set_cons_zero, List.set_cons_succ])
          refine takeL (i := 26) (v := ?v26) rfl (by kernel_rfl) (by kernel_rfl) (by kernel_rfl) (fun _ _ _ h => h) (by rfl) (Below.refl _ _) ?hy26 ?rest26
          case hy26 => (intro W hSw; go_simp; all_goals (with_reducible rfl))
          (try simp only [Act.put, List.setIfInBounds_toArray, List.set_cons_zero, List.set_cons_succ])
          refine takeL (i := 27) (v := ?v27) rfl (by kernel_rfl) (by kernel_rfl) (by kernel_rfl) (fun _ _ _ h => h) (by rfl) (Below.refl _ _) ?hy27 ?rest27
          case hy27 => (intro W hSw; obtain ⟨y0, y1, y2, y3, y4, y5⟩ := HK.out W (blw hbN.out hSw); obtain ⟨z0, z1, z2, z3⟩ := HQ.out W (blw HDr.out hSw); go_simp; all_goals (with_reducible rfl))
          (try simp only [Act.put, List.setIfInBounds_toArray, List.set_cons_zero, List.set_cons_succ])
          refine callL (i := 24) rfl (by kernel_rfl) (fun K hK => ?_)
          go_simp
          refine (HPm.out _ (HI6.out.keep HDr.out)).mono ?_
          rintro e w10 ⟨r10, rfl, hO, hb⟩
          have HO10 := hide hO
          have hbN := hide (blw hbN.out hb)
          have HDr := hide (blw HDr.out hb)
          refine hK.out _ _ hb ?_
          clear hK K hb hO
          (try simp only [Act.put, List.setIfInBounds_toArray, List.set_cons_zero, List.set_cons_succ])
          refine takeL (i := 25) (v := ?v25) rfl (by kernel_rfl) (by kernel_rfl) (by kernel_rfl) (fun _ _ _ h => h) (by rfl) (Below.refl _ _) ?hy25 ?rest25
          case hy25 => (intro W hSw; have q := (HO10.out.keep hSw).holds.conv; go_simp; all_goals (with_reducible rfl))
          (try simp only [Act.put, List.setIfInBounds_toArray, List.set_cons_zero, List.set_cons_succ])
          refine callL (i := 28) rfl (by kernel_rfl) (fun K hK => ?_)
          go_simp
          refine (putmem_any ma1 mn1 mc1 m1 _ (HM.out _ hbN.out) (by have := HG0.out.1; omega)).mono ?_
          rintro e w11 ⟨r11, rfl, hO, hb⟩
          have HO11 := hide hO
          have hbN := hide (blw hbN.out hb)
          have HDr := hide (blw HDr.out hb)
          refine hK.out _ _ hb ?_
          clear hK K hb hO
          (try simp only [Act.put, List.setIfInBounds_toArray, List.set_cons_zero, List.set_cons_succ])
          refine takeL (i := 29) (v := ?v29) rfl (by kernel_rfl) (by kernel_rfl) (by kernel_rfl) (fun _ _ _ h => h) (by rfl) (Below.refl _ _) ?hy29 ?rest29
          case hy29 => (intro W hSw; have q := (HO11.out.keep hSw).holds.conv; go_simp; all_goals (with_reducible rfl))
          (try simp only [Act.put, List.setIfInBounds_toArray, List.set_cons_zero, List.set_cons_succ])
          refine takeL (i := 30) (v := ?v30) rfl (by kernel_rfl) (by kernel_rfl) (by kernel_rfl) (fun _ _ _ h => h) (by rfl) (Below.refl _ _) ?hy30 ?rest30
          case hy30 => (intro W hSw; go_simp; all_goals (with_reducible rfl))
          (try simp only [Act.put, List.setIfInBounds_toArray, List.set_cons_zero, List.set_cons_succ])
          refine takeL (i := 31) (v := ?v31) rfl (by kernel_rfl) (by kernel_rfl) (by kernel_rfl) (fun _ _ _ h => h) (by rfl) (Below.refl _ _) ?hy31 ?rest31
          case hy31 => (intro W hSw; go_simp; all_goals (with_reducible rfl))
          (try simp only [Act.put, List.setIfInBounds_toArray, List.set_cons_zero, List.set_cons_succ])
          refine takeL (i := 32) (v := ?v32) rfl (by kernel_rfl) (by kernel_rfl) (by kernel_rfl) (fun _ _ _ h => h) (by rfl) (Below.refl _ _) ?hy32 ?rest32
          case hy32 => (intro W hSw; go_simp; all_goals (with_reducible rfl))
          (try simp only [Act.put, List.setIfInBounds_toArray, List.set_cons_zero, List.set_cons_succ])
          refine takeL (i := 33) (v := ?v33) rfl (by kernel_rfl) (by kernel_rfl) (by kernel_rfl) (fun _ _ _ h => h) (by rfl) (Below.refl _ _) ?hy33 ?rest33
          case hy33 => (intro W hSw; go_simp; all_goals (with_reducible rfl))
          (try simp only [Act.put, List.setIfInBounds_toArray, List.set_cons_zero, List.set_cons_succ])
          refine takeL (i := 34) (v := ?v34) rfl (by kernel_rfl) (by kernel_rfl) (by kernel_rfl) (fun _ _ _ h => h) (by rfl) (Below.refl _ _) ?hy34 ?rest34
          case hy34 => (intro W hSw; go_simp; all_goals (with_reducible rfl))
          (try simp only [Act.put, List.setIfInBounds_toArray, List.set_cons_zero, List.set_cons_succ])
          refine takeL (i := 37) (v := ?v37) rfl (by kernel_rfl) (by kernel_rfl) (by kernel_rfl) (fun _ _ _ h => h) (by rfl) (Below.refl _ _) ?hy37 ?rest37
          case hy37 => (intro W hSw; go_simp; all_goals (with_reducible rfl))
          (try simp only [Act.put, List.setIfInBounds_toArray, List.set_cons_zero, List.set_cons_succ])
          refine takeL (i := 38) (v := ?v38) rfl (by kernel_rfl) (by kernel_rfl) (by kernel_rfl) (fun _ _ _ h => h) (by rfl) (Below.refl _ _) ?hy38 ?rest38
          case hy38 => (intro W hSw; go_simp; all_goals (with_reducible rfl))
          (try simp only [Act.put, List.setIfInBounds_toArray, List.set_cons_zero, List.set_cons_succ])
          refine callL (i := 35) rfl (by kernel_rfl) (fun K hK => ?_)
          go_simp
          refine (HFb.out _ HDr.out).mono ?_
          rintro e w12 ⟨rfl, hw⟩
          have hw := hw.symm
          subst hw
          have hb := Below.refl w11.heap.size w11
          refine hK.out _ _ hb ?_
          clear hK K hb 
          (try simp only [Act.put, List.setIfInBounds_toArray, List.set_cons_zero, List.set_cons_succ])
          refine callL (i := 36) rfl (by kernel_rfl) (fun K hK => ?_)
          go_simp
          refine (HEn.out _ _ _ p5 _ (HLb.out.keep HDr.out) HG5.out rfl rfl).mono ?_
          rintro e w13 ⟨b13, n13, c13, ms13, rfl, hn, hE, hI, -, hb⟩
          dsimp only at hn hE
          rw [HEl.out] at hn
          subst hn
          have HE13 := hide hE
          have HI13 := hide hI
          have hbN := hide (blw hbN.out hb)
          have HDr := hide (blw HDr.out hb)
          refine hK.out _ _ hb ?_
          clear hK K hb hE hI
          (try simp only [Act.put, List.setIfInBounds_toArray, List.set_cons_zero, List.set_cons_succ])
          refine callL (i := 39) rfl (by kernel_rfl) (fun K hK => ?_)
          go_simp
          refine (HFa.out _ HDr.out).mono ?_
          rintro e w14 ⟨rfl, hw⟩
          have hw := hw.symm
          subst hw
          have hb := Below.refl w13.heap.size w13
          refine hK.out _ _ hb ?_
          clear hK K hb 
          (try simp only [Act.put, List.setIfInBounds_toArray, List.set_cons_zero, List.set_cons_succ])
          refine callL (i := 40) rfl (by kernel_rfl) (fun K hK => ?_)
          go_simp
          refine (HEn.out _ _ _ p L1 (HLa.out.keep HDr.out) HG.out HE1.out (by rw [HS1.out])).mono ?_
          rintro e w15 ⟨b15, n15, c15, ms15, rfl, hn, hE, hI, -, hb⟩
          rw [HE1.out, HEl.out] at hn
          subst hn
          rw [HE1.out] at hE
          have HE15 := hide hE
          have HI15 := hide hI
          have HI13 := hide (HI13.out.keep hb)
          have hbN := hide (blw hbN.out hb)
          have HDr := hide (blw HDr.out hb)
          refine hK.out _ _ hb ?_
          clear hK K hb hE hI
          (try simp only [Act.put, List.setIfInBounds_toArray, List.set_cons_zero, List.set_cons_succ])
          refine callL (i := 41) rfl (by kernel_rfl) (fun K hK => ?_)
          go_simp
          refine (sameE_any _ _ b13 b15 _ c13 c15 ms13 ms15 _ HI13.out HI15.out (HE13.out.trans HE15.out.symm)).mono ?_
          rintro e w16 ⟨rfl, hb⟩
          have hbN := hide (blw hbN.out hb)
          have HDr := hide (blw HDr.out hb)
          refine hK.out _ _ hb ?_
          clear hK K hb 
          (try simp only [Act.put, List.setIfInBounds_toArray, List.set_cons_zero, List.set_cons_succ])
          refine takeL (i := 42) (v := ?v42) rfl (by kernel_rfl) (by kernel_rfl) (by kernel_rfl) (fun _ _ _ h => h) (by rfl) (Below.refl _ _) ?hy42 ?rest42
          case hy42 => (intro W hSw; go_simp; all_goals (with_reducible rfl))
          (try simp only [Act.put, List.setIfInBounds_toArray, List.set_cons_zero, List.set_cons_succ])
          refine takeL (i := 43) (v := ?v43) rfl (by kernel_rfl) (by kernel_rfl) (by kernel_rfl) (fun _ _ _ h => h) (by rfl) (Below.refl _ _) ?hy43 ?rest43
          case hy43 => (intro W hSw; go_simp; all_goals (with_reducible rfl))
          (try simp only [Act.put, List.setIfInBounds_toArray, List.set_cons_zero, List.set_cons_succ])
          refine wpAnyH_done (by kernel_rfl) ?_ _
          go_wp2
          go_ret
          exact ⟨rfl, HB0.out.trans (hbN.out.mono HB0.out.size)⟩

end Go.Proofs.Ytjeijeaogdednaa
