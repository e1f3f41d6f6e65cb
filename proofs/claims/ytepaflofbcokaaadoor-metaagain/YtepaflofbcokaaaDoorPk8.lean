/- The program's table: copies, Held, Waiting: what they answer. -/
import Derived.Test.YtepaflofbcokaaaDoorPk6
namespace Go.Proofs.YtepaflofbcokaaaDoor
open Go.RowKit NumMath Go.ChangeShapes Go.WideShapes Go.Deep
set_option linter.unusedVariables false
set_option maxRecDepth 100000

set_option maxHeartbeats 1000000 in
theorem cloneK_any (a : Option Addr) (n c : Nat) (xs : List ML) (w : World) (h : IsY layK w a n c xs) (hn : n ≤ 1000000) :
    Calls Tryd.prog 41 #[.slice a n c] w fun e w' => ∃ v, e = .returned v ∧ OwnY layK w' w.heap.size v xs ∧ Below w.heap.size w w' := by
  have H := hide h
  have hl := h.1
  cases a with
  | none =>
    have h0 : n = 0 := by
      rcases h.2.2.2 with h | ⟨g, off, e, _⟩
      · exact h
      · cases e
    subst h0
    have hx : xs = [] := List.length_eq_zero_iff.1 hl
    subst hx
    clear h hl
    have hnil : ∀ w, (binOp .eql 53 (.slice none 0 c) (.slice none 0 0)).run Tryd.prog w = .ok (.bool true) w := fun w => Lib.run_eql_slice_nil w 53 32 none 0 c 0 0 Tryd.underlying53
    go_enter Tryd.func41, Tryd.ntmps41
    go_wp2
    go_ret
    exact ⟨_, rfl, ownY_nil _ _, Below.refl _ _⟩
  | some y =>
    have hb := new_below w (.cells #[] 32)
    have HO : Hid (OwnY layK (w.alloc (.cells #[] 32)) w.heap.size (.slice (some ⟨w.heap.size, 0, none⟩) 0 0) []) := ownY_empty (L := layK) w w.heap.size (Nat.le_refl _)
    have HS := hide ((h.keep hb).src)
    have HBig : Hid (([] : List ML).length + xs.length ≤ 1000000000) := by show _ ≤ _; simp; omega
    have HB := hide hb
    clear h hb hl
    have hnil : ∀ w, (binOp .eql 53 (.slice (some y) n c) (.slice none 0 0)).run Tryd.prog w = .ok (.bool false) w := fun w => Lib.run_eql_slice_nil w 53 32 (some y) n c 0 0 Tryd.underlying53
    go_enter Tryd.func41, Tryd.ntmps41
    go_wp2_with (first
      | (at_builtin; go_must (refine wp_joinY layK _ rfl (.tmp 5) (.tmp 6) rfl w.heap.size _ [] rfl HO.out (some y) n c xs rfl HS.out HBig.out (by simp) ?_); intro v5 w5 hown5 hg5 hat5; have HO5 := hide hown5; have HB5 := hide (HO.out.grown hg5 (by simp)); obtain ⟨xa, xn, xc, rfl⟩ := hown5.any3; clear hown5 hg5 hat5))
    go_ret
    exact ⟨_, rfl, by simpa using HO5.out, HB.out.trans HB5.out⟩

theorem out_ltB {X : Nat → Prop} {w : World} {a : Option Addr} {n c : Nat} {xs : List Int} (h : IsBytes w a n c xs) (hX : ∀ j, X j → w.heap.size ≤ j) : Out X a n := by
  rcases isB_blk h with h0 | h0
  · exact .inl h0
  · exact .inr (fun y hy hx => by have := h0 y hy; have := hX _ hx; omega)

/-- a list of copies -/
def CopsP (w : World) (xs : List ML) (e : Ending) (w' : World) : Prop :=
  ∃ (a : Option Addr) (n c : Nat) (ys : List ML), e = .returned (.slice a n c) ∧ OwnY layK w' w.heap.size (.slice a n c) ys ∧ ys.map ML.l = xs.map ML.l ∧ (∀ y ∈ ys, y.ok w') ∧ Below w.heap.size w w'

theorem set_map {xs ys : List ML} {k : Nat} {x y : ML} (h : ys.map ML.l = xs.map ML.l) (hx : ys[k]? = some x) (hy : y.l = x.l) : (ys.set k y).map ML.l = xs.map ML.l := by
  rw [← h, List.map_set, hy]
  apply List.ext_getElem?
  intro i
  by_cases e : i = k
  · subst e
    rw [List.getElem?_set_self (by rw [List.length_map]; exact (List.getElem?_eq_some_iff.1 hx).1), List.getElem?_map, hx]; rfl
  · rw [List.getElem?_set_ne (fun e2 => e e2.symm)]

set_option maxHeartbeats 4000000 in
theorem copies_any (a : Option Addr) (n c : Nat) (xs : List ML) (w : World) (h : IsY layK w a n c xs) (hn : n ≤ 1000000) (hok : ∀ m ∈ xs, m.ok w) (hsm : ∀ m ∈ xs, m.ln ≤ 1000000 ∧ m.hn ≤ 1000000) :
    Calls Tryd.prog 26 #[.slice a n c] w fun e w' => CopsP w xs e w' := by
  have HCl := hide (cloneK_any a n c xs w h hn)
  have HOk := hide hok
  have HSm := hide hsm
  have HL := hide h.1
  clear h hok hsm
  go_enter Tryd.func26, Tryd.ntmps26
  go_upto_region 2 with (first
    | (go_at_call 41; go_must (refine HCl.out.mono ?_); rintro e w1 ⟨v1, rfl, ho1, hb1⟩; obtain ⟨va, vn, vc, rfl⟩ := ho1.any3; have HO1 := hide ho1; have HB1 := hide hb1; have HVl := hide ho1.len; clear ho1 hb1))
  have hvn : vn = n := by have := HVl.out.1; have := HL.out; omega
  subst hvn
  have hm : (vn : Int) ≤ 9223372036854775807 := by omega
  go_wp2
  go_loopg [8] vn (fun gk i wr => ∃ (k : Nat) (cur : List ML), gk = vn - k ∧ i = .int .i64 k ∧ k ≤ vn ∧ OwnY layK wr w.heap.size (.slice va vn vc) cur ∧ cur.map ML.l = xs.map ML.l ∧ (∀ y ∈ cur, Foot (fun j => (Value.slice va vn vc).ownBlock = some j) wr (fun V => y.ok V)) ∧ (∀ y ∈ cur.drop k, y ∈ xs) ∧ Below w.heap.size w wr)
  case atStart =>
    refine ⟨0, xs, rfl, rfl, Nat.zero_le _, HO1.out, rfl, fun y hy => ?_, fun y hy => by simpa using hy, HB1.out⟩
    have hy0 := HOk.out y hy
    have f0 : ∀ X : Nat → Prop, (∀ j, X j → w.heap.size ≤ j) → Foot X w (fun V => y.ok V) := fun X hX => (Foot.and (foot_bytes hy0.lo (out_ltB hy0.lo hX)) (foot_bytes hy0.hi (out_ltB hy0.hi hX))).imp (fun V hV => ⟨hV.1, hV.2⟩)
    exact (f0 _ (fun j hj => (HO1.out.lt j hj).1)).keep HB1.out
  case round =>
    obtain ⟨k, cur, rfl, rfl, hk, hO, hM, hF, hD, hB⟩ := hrel
    have HO := hide hO
    have HM := hide hM
    have HF := hide hF
    have HD := hide hD
    have HB := hide hB
    have HLc := hide hO.len.1
    clear hM hF hD
    by_cases hlt : k < vn
    · have hlt' : (k : Int) < (vn : Int) := by omega
      obtain ⟨m, hmk⟩ := ml_at (hs := cur) (k := k) (by have := HLc.out; omega)
      rcases hO.form with ⟨e, e0⟩ | ⟨g, cap, e, hg1, hg2, -, -, hC, hfz⟩
      · exfalso; rw [e0] at hmk; simp at hmk
      simp only [Value.slice.injEq] at e
      obtain ⟨rfl, -, rfl⟩ := e
      obtain ⟨d0, d1, d2, d3, d4⟩ := at5_list hC hmk
      simp only [Nat.zero_add] at d0 d1 d2 d3 d4
      have hmc : m ∈ cur := List.mem_of_getElem? hmk
      have hmx : m ∈ xs := HD.out m (List.mem_of_getElem? (i := 0) (by rw [List.getElem?_drop]; simpa using hmk))
      have HCp := hide (pcopyOf_any m wr (HF.out m hmc).now (HSm.out m hmx).1 (HSm.out m hmx).2)
      have HMk := hide hmk
      have HFz := hide hfz
      have HGl := hide hg2
      have HAt := hide (at5_list hC hmk)
      clear hC hmk hfz hO hB hmc hmx
      go_wp2_with (first
        | (go_at_call 42; go_must (refine HCp.out.mono ?_); rintro e w2 ⟨y, rfl, hyl, hyf, hb2⟩; have hbk := hb2.block g HGl.out; obtain ⟨c0, c1, c2, c3, c4⟩ := HAt.out; (simp only [Nat.zero_add] at c0 c1 c2 c3 c4); have f0 := (World.frozen?_of_block (a := ⟨g, k * 5, none⟩) hbk).trans (HFz.out _); have f1 := (World.frozen?_of_block (a := ⟨g, k * 5 + 1, none⟩) hbk).trans (HFz.out _); have f2 := (World.frozen?_of_block (a := ⟨g, k * 5 + 2, none⟩) hbk).trans (HFz.out _); have f3 := (World.frozen?_of_block (a := ⟨g, k * 5 + 3, none⟩) hbk).trans (HFz.out _); have f4 := (World.frozen?_of_block (a := ⟨g, k * 5 + 4, none⟩) hbk).trans (HFz.out _); have b0 := (World.cell?_of_block (a := ⟨g, k * 5, none⟩) hbk).trans c0; have b1 := (World.cell?_of_block (a := ⟨g, k * 5 + 1, none⟩) hbk).trans c1; have b2 := (World.cell?_of_block (a := ⟨g, k * 5 + 2, none⟩) hbk).trans c2; have b3 := (World.cell?_of_block (a := ⟨g, k * 5 + 3, none⟩) hbk).trans c3; have b4 := (World.cell?_of_block (a := ⟨g, k * 5 + 4, none⟩) hbk).trans c4; have HYl := hide hyl; have HYf := hide hyf; have HB2 := hide hb2; clear hyl hyf hb2 hbk c0 c1 c2 c3 c4 d0 d1 d2 d3 d4))
      go_roundg (vn - (k + 1))
      case measure => omega
      case rel =>
        have hk4 := keepsYs w2 g (k * 5) (layK.cells y)
        have hXg : ∀ j, (Value.slice (some ⟨g, 0, none⟩) vn vc).ownBlock = some j → j = g := fun j e => (Option.some.inj (show some g = some j from e)).symm
        have hk4' : Keeps (fun j => (Value.slice (some ⟨g, 0, none⟩) vn vc).ownBlock = some j) w2 (w2.setCells g (k * 5) (layK.cells y)) := Keeps.wider hk4 (fun j hj => by rw [hj]; rfl)
        refine ⟨k + 1, cur.set k y, rfl, by go_num, by omega, (HO.out.keep HB2.out).lay k hlt y, set_map HM.out HMk.out HYl.out, fun z hz => ?_, fun z hz => ?_, ?_⟩
        · rcases List.mem_or_eq_of_mem_set hz with h1 | h1
          · exact ((HF.out z h1).keep HB2.out).step hk4' (fun j hj => .inl hj)
          · rw [h1]
            exact (HYf.out.more (Y := fun j => (Value.slice (some ⟨g, 0, none⟩) vn vc).ownBlock = some j) (fun j hj => .inl (by rw [hXg j hj]; exact HGl.out))).step hk4' (fun j hj => .inl hj)
        · rw [List.drop_set_of_lt (by omega)] at hz
          refine HD.out z ?_
          rw [List.mem_iff_getElem?] at hz ⊢
          obtain ⟨i, hi⟩ := hz
          exact ⟨1 + i, by rw [List.getElem?_drop] at hi ⊢; rw [← hi]; congr 1; omega⟩
        · exact kp_below (kpThen (Below.keeps (HB.out.trans (HB2.out.mono HB.out.size)) (fun j => w.heap.size ≤ j)) (fun j (hj : j = g) => .inl (by rw [hj]; exact hg1)) hk4)
    · obtain rfl : k = vn := by omega
      clear hO hB
      go_wp2
      go_ret
      exact ⟨_, _, _, cur, rfl, HO.out, HM.out, fun y hy => (HF.out y hy).now, HB.out⟩

set_option maxHeartbeats 1000000 in
theorem pheld_any (w : World) (p : Nat) (ha : Option Addr) (hn hc : Nat) (wa : Option Addr) (wn wc : Nat) (hs ws : List ML) (h : TpA w p ha hn hc wa wn wc hs ws) (hln : hn ≤ 1000000) (hsm : ∀ m ∈ hs, m.ln ≤ 1000000 ∧ m.hn ≤ 1000000) :
    Calls Tryd.prog 13 #[.pointer (some ⟨p, 0, none⟩)] w fun e w' => CopsP w hs e w' := by
  have HC := hide (copies_any ha hn hc hs w h.h hln h.ho hsm)
  have HM := hide (made_any w p h.c0)
  have c1 := h.c1
  clear h hsm
  go_enter Tryd.func13, Tryd.ntmps13
  go_wp2_with (first
    | (go_at_call 25; go_must (refine HM.out.mono ?_); rintro e w2 ⟨rfl, hw⟩; have hw := hw.symm; subst hw)
    | (go_at_call 26; go_must (refine HC.out.mono ?_); rintro e w2 ⟨a2, n2, c2, ys, rfl, ho2, hm2, hk2, hb2⟩; have HO2 := hide ho2; have HM2 := hide hm2; have HK2 := hide hk2; have HB2 := hide hb2; clear ho2 hm2 hk2 hb2))
  go_ret
  exact ⟨_, _, _, ys, rfl, HO2.out, HM2.out, HK2.out, HB2.out⟩

end Go.Proofs.YtepaflofbcokaaaDoor
