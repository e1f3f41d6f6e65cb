/- The program's table: copies, Held, Waiting: what they answer. The program's table: Edges: what they are. The program's table: Ask: what it does. -/
import Derived.Test.YtcgiicmmfleinaaGreatDoorPkM
import Derived.Test.YtcgiicmmfleinaaGreatDoorLk9
import Derived.Test.YtcgiicmmfleinaaGreatDoorWpC
import Derived.Test.YtcgiicmmfleinaaGreatDoorLkM
namespace Go.Proofs.YtcgiicmmfleinaaGreatDoor
open Go.RowKit NumMath Go.ChangeShapes Go.WideShapes Go.Deep
set_option linter.unusedVariables false
set_option maxRecDepth 100000

set_option maxHeartbeats 1000000 in
theorem cloneK_any (a : Option Addr) (n c : Nat) (xs : List ML) (w : World) (h : IsY layK w a n c xs) (hn : n ≤ 1000000) :
    Calls Tryz.prog 86 #[.slice a n c] w fun e w' => ∃ v, e = .returned v ∧ OwnY layK w' w.heap.size v xs ∧ Below w.heap.size w w' := by
  have H := hide h
  have hl := h.1
  cases a with
  | none =>
    have h0 : n = 0 := by
      rcases h.2.2.2 with h | ⟨g, off, e, _⟩
      · exact h
      · cases e
    subst h0
    have hx : xs = [] := List.length_eq_zero_iff.1 hl
    subst hx
    clear h hl
    have hnil : ∀ w, (binOp .eql 33 (.slice none 0 c) (.slice none 0 0)).run Tryz.prog w = .ok (.bool true) w := fun w => Lib.run_eql_slice_nil w 33 41 none 0 c 0 0 Tryz.underlying33
    go_enter Tryz.func86, Tryz.ntmps86
    go_wp2
    go_ret
    exact ⟨_, rfl, ownY_nil _ _, Below.refl _ _⟩
  | some y =>
    have hb := new_below w (.cells #[] 41)
    have HO : Hid (OwnY layK (w.alloc (.cells #[] 41)) w.heap.size (.slice (some ⟨w.heap.size, 0, none⟩) 0 0) []) := ownY_empty (L := layK) w w.heap.size (Nat.le_refl _)
    have HS := hide ((h.keep hb).src)
    have HBig : Hid (([] : List ML).length + xs.length ≤ 1000000000) := by show _ ≤ _; simp; omega
    have HB := hide hb
    clear h hb hl
    have hnil : ∀ w, (binOp .eql 33 (.slice (some y) n c) (.slice none 0 0)).run Tryz.prog w = .ok (.bool false) w := fun w => Lib.run_eql_slice_nil w 33 41 (some y) n c 0 0 Tryz.underlying33
    go_enter Tryz.func86, Tryz.ntmps86
    go_wp2_with (first
      | (at_builtin; go_must (refine wp_joinY layK _ rfl (.tmp 5) (.tmp 6) rfl w.heap.size _ [] rfl HO.out (some y) n c xs rfl HS.out HBig.out (by simp) ?_); intro v5 w5 hown5 hg5 hat5; have HO5 := hide hown5; have HB5 := hide (HO.out.grown hg5 (by simp)); obtain ⟨xa, xn, xc, rfl⟩ := hown5.any3; clear hown5 hg5 hat5))
    go_ret
    exact ⟨_, rfl, by simpa using HO5.out, HB.out.trans HB5.out⟩

theorem out_ltB {X : Nat → Prop} {w : World} {a : Option Addr} {n c : Nat} {xs : List Int} (h : IsBytes w a n c xs) (hX : ∀ j, X j → w.heap.size ≤ j) : Out X a n := by
  rcases isB_blk h with h0 | h0
  · exact .inl h0
  · exact .inr (fun y hy hx => by have := h0 y hy; have := hX _ hx; omega)

/-- a list of copies -/
def CopsP (w : World) (xs : List ML) (e : Ending) (w' : World) : Prop :=
  ∃ (a : Option Addr) (n c : Nat) (ys : List ML), e = .returned (.slice a n c) ∧ OwnY layK w' w.heap.size (.slice a n c) ys ∧ ys.map ML.l = xs.map ML.l ∧ (∀ y ∈ ys, y.ok w') ∧ Below w.heap.size w w'

theorem set_map {xs ys : List ML} {k : Nat} {x y : ML} (h : ys.map ML.l = xs.map ML.l) (hx : ys[k]? = some x) (hy : y.l = x.l) : (ys.set k y).map ML.l = xs.map ML.l := by
  rw [← h, List.map_set, hy]
  apply List.ext_getElem?
  intro i
  by_cases e : i = k
  · subst e
    rw [List.getElem?_set_self (by rw [List.length_map]; exact (List.getElem?_eq_some_iff.1 hx).1), List.getElem?_map, hx]; rfl
  · rw [List.getElem?_set_ne (fun e2 => e e2.symm)]

set_option maxHeartbeats 4000000 in
theorem copies_any (a : Option Addr) (n c : Nat) (xs : List ML) (w : World) (h : IsY layK w a n c xs) (hn : n ≤ 1000000) (hok : ∀ m ∈ xs, m.ok w) (hsm : ∀ m ∈ xs, m.ln ≤ 1000000 ∧ m.hn ≤ 1000000) :
    Calls Tryz.prog 34 #[.slice a n c] w fun e w' => CopsP w xs e w' := by
  have HCl := hide (cloneK_any a n c xs w h hn)
  have HOk := hide hok
  have HSm := hide hsm
  have HL := hide h.1
  clear h hok hsm
  go_enter Tryz.func34, Tryz.ntmps34
  go_upto_region 2 with (first
    | (go_at_call 86; go_must (refine HCl.out.mono ?_); rintro e w1 ⟨v1, rfl, ho1, hb1⟩; obtain ⟨va, vn, vc, rfl⟩ := ho1.any3; have HO1 := hide ho1; have HB1 := hide hb1; have HVl := hide ho1.len; clear ho1 hb1))
  have hvn : vn = n := by have := HVl.out.1; have := HL.out; omega
  subst hvn
  have hm : (vn : Int) ≤ 9223372036854775807 := by omega
  go_wp2
  go_loopg [8] vn (fun gk i wr => ∃ (k : Nat) (cur : List ML), gk = vn - k ∧ i = .int .i64 k ∧ k ≤ vn ∧ OwnY layK wr w.heap.size (.slice va vn vc) cur ∧ cur.map ML.l = xs.map ML.l ∧ (∀ y ∈ cur, Foot (fun j => (Value.slice va vn vc).ownBlock = some j) wr (fun V => y.ok V)) ∧ (∀ y ∈ cur.drop k, y ∈ xs) ∧ Below w.heap.size w wr)
  case atStart =>
    refine ⟨0, xs, rfl, rfl, Nat.zero_le _, HO1.out, rfl, fun y hy => ?_, fun y hy => by simpa using hy, HB1.out⟩
    have hy0 := HOk.out y hy
    have f0 : ∀ X : Nat → Prop, (∀ j, X j → w.heap.size ≤ j) → Foot X w (fun V => y.ok V) := fun X hX => (Foot.and (foot_bytes hy0.lo (out_ltB hy0.lo hX)) (foot_bytes hy0.hi (out_ltB hy0.hi hX))).imp (fun V hV => ⟨hV.1, hV.2⟩)
    exact (f0 _ (fun j hj => (HO1.out.lt j hj).1)).keep HB1.out
  case round =>
    obtain ⟨k, cur, rfl, rfl, hk, hO, hM, hF, hD, hB⟩ := hrel
    have HO := hide hO
    have HM := hide hM
    have HF := hide hF
    have HD := hide hD
    have HB := hide hB
    have HLc := hide hO.len.1
    clear hM hF hD
    by_cases hlt : k < vn
    · have hlt' : (k : Int) < (vn : Int) := by omega
      obtain ⟨m, hmk⟩ := ml_at (hs := cur) (k := k) (by have := HLc.out; omega)
      rcases hO.form with ⟨e, e0⟩ | ⟨g, cap, e, hg1, hg2, -, -, hC, hfz⟩
      · exfalso; rw [e0] at hmk; simp at hmk
      simp only [Value.slice.injEq] at e
      obtain ⟨rfl, -, rfl⟩ := e
      obtain ⟨d0, d1, d2, d3, d4⟩ := at5_list hC hmk
      simp only [Nat.zero_add] at d0 d1 d2 d3 d4
      have hmc : m ∈ cur := List.mem_of_getElem? hmk
      have hmx : m ∈ xs := HD.out m (List.mem_of_getElem? (i := 0) (by rw [List.getElem?_drop]; simpa using hmk))
      have HCp := hide (pcopyOf_any m wr (HF.out m hmc).now (HSm.out m hmx).1 (HSm.out m hmx).2)
      have HMk := hide hmk
      have HFz := hide hfz
      have HGl := hide hg2
      have HAt := hide (at5_list hC hmk)
      clear hC hmk hfz hO hB hmc hmx
      go_wp2_with (first
        | (go_at_call 87; go_must (refine HCp.out.mono ?_); rintro e w2 ⟨y, rfl, hyl, hyf, hb2⟩; have hbk := hb2.block g HGl.out; obtain ⟨c0, c1, c2, c3, c4⟩ := HAt.out; (simp only [Nat.zero_add] at c0 c1 c2 c3 c4); have f0 := (World.frozen?_of_block (a := ⟨g, k * 5, none⟩) hbk).trans (HFz.out _); have f1 := (World.frozen?_of_block (a := ⟨g, k * 5 + 1, none⟩) hbk).trans (HFz.out _); have f2 := (World.frozen?_of_block (a := ⟨g, k * 5 + 2, none⟩) hbk).trans (HFz.out _); have f3 := (World.frozen?_of_block (a := ⟨g, k * 5 + 3, none⟩) hbk).trans (HFz.out _); have f4 := (World.frozen?_of_block (a := ⟨g, k * 5 + 4, none⟩) hbk).trans (HFz.out _); have b0 := (World.cell?_of_block (a := ⟨g, k * 5, none⟩) hbk).trans c0; have b1 := (World.cell?_of_block (a := ⟨g, k * 5 + 1, none⟩) hbk).trans c1; have b2 := (World.cell?_of_block (a := ⟨g, k * 5 + 2, none⟩) hbk).trans c2; have b3 := (World.cell?_of_block (a := ⟨g, k * 5 + 3, none⟩) hbk).trans c3; have b4 := (World.cell?_of_block (a := ⟨g, k * 5 + 4, none⟩) hbk).trans c4; have HYl := hide hyl; have HYf := hide hyf; have HB2 := hide hb2; clear hyl hyf hb2 hbk c0 c1 c2 c3 c4 d0 d1 d2 d3 d4))
      go_roundg (vn - (k + 1))
      case measure => omega
      case rel =>
        have hk4 := keepsYs w2 g (k * 5) (layK.cells y)
        have hXg : ∀ j, (Value.slice (some ⟨g, 0, none⟩) vn vc).ownBlock = some j → j = g := fun j e => (Option.some.inj (show some g = some j from e)).symm
        have hk4' : Keeps (fun j => (Value.slice (some ⟨g, 0, none⟩) vn vc).ownBlock = some j) w2 (w2.setCells g (k * 5) (layK.cells y)) := Keeps.wider hk4 (fun j hj => by rw [hj]; rfl)
        refine ⟨k + 1, cur.set k y, rfl, by go_num, by omega, (HO.out.keep HB2.out).lay k hlt y, set_map HM.out HMk.out HYl.out, fun z hz => ?_, fun z hz => ?_, ?_⟩
        · rcases List.mem_or_eq_of_mem_set hz with h1 | h1
          · exact ((HF.out z h1).keep HB2.out).step hk4' (fun j hj => .inl hj)
          · rw [h1]
            exact (HYf.out.more (Y := fun j => (Value.slice (some ⟨g, 0, none⟩) vn vc).ownBlock = some j) (fun j hj => .inl (by rw [hXg j hj]; exact HGl.out))).step hk4' (fun j hj => .inl hj)
        · rw [List.drop_set_of_lt (by omega)] at hz
          refine HD.out z ?_
          rw [List.mem_iff_getElem?] at hz ⊢
          obtain ⟨i, hi⟩ := hz
          exact ⟨1 + i, by rw [List.getElem?_drop] at hi ⊢; rw [← hi]; congr 1; omega⟩
        · exact kp_below (kpThen (Below.keeps (HB.out.trans (HB2.out.mono HB.out.size)) (fun j => w.heap.size ≤ j)) (fun j (hj : j = g) => .inl (by rw [hj]; exact hg1)) hk4)
    · obtain rfl : k = vn := by omega
      clear hO hB
      go_wp2
      go_ret
      exact ⟨_, _, _, cur, rfl, HO.out, HM.out, fun y hy => (HF.out y hy).now, HB.out⟩

set_option maxHeartbeats 1000000 in
theorem pheld_any (w : World) (p : Nat) (ha : Option Addr) (hn hc : Nat) (wa : Option Addr) (wn wc : Nat) (hs ws : List ML) (h : TpA w p ha hn hc wa wn wc hs ws) (hln : hn ≤ 1000000) (hsm : ∀ m ∈ hs, m.ln ≤ 1000000 ∧ m.hn ≤ 1000000) :
    Calls Tryz.prog 15 #[.pointer (some ⟨p, 0, none⟩)] w fun e w' => CopsP w hs e w' := by
  have HC := hide (copies_any ha hn hc hs w h.h hln h.ho hsm)
  have HM := hide (made_any w p h.c0)
  have c1 := h.c1
  clear h hsm
  go_enter Tryz.func15, Tryz.ntmps15
  go_wp2_with (first
    | (go_at_call 33; go_must (refine HM.out.mono ?_); rintro e w2 ⟨rfl, hw⟩; have hw := hw.symm; subst hw)
    | (go_at_call 34; go_must (refine HC.out.mono ?_); rintro e w2 ⟨a2, n2, c2, ys, rfl, ho2, hm2, hk2, hb2⟩; have HO2 := hide ho2; have HM2 := hide hm2; have HK2 := hide hk2; have HB2 := hide hb2; clear ho2 hm2 hk2 hb2))
  go_ret
  exact ⟨_, _, _, ys, rfl, HO2.out, HM2.out, HK2.out, HB2.out⟩

end Go.Proofs.YtcgiicmmfleinaaGreatDoor

namespace Go.Proofs.YtcgiicmmfleinaaGreatDoor
open Go.RowKit NumMath Go.ChangeShapes Go.WideShapes Go.Deep
set_option linter.unusedVariables false
set_option maxRecDepth 100000

/-- whom one waits for, each once -/
def whoE (hs ws : List ML) (k : Nat) (m : ML) : List Int := whoL ((wayM hs (ws.take k) m).map (fun h => h.l.tx))

theorem dd_who (t : Int) (acc : List (Int × Int)) (hacc : ∀ e ∈ acc, e.1 ≠ t) : ∀ (l s : List Int), (l.map (fun y => (t, y))).foldl ddW (acc ++ s.map (fun y => (t, y))) = acc ++ (l.foldl whoW s).map (fun y => (t, y)) := by
  intro l
  induction l with
  | nil => intro s; rfl
  | cons y r ih =>
    intro s
    rw [List.map_cons, List.foldl_cons, List.foldl_cons, ← ih]
    congr 1
    unfold ddW whoW
    have hiff : (t, y) ∈ acc ++ s.map (fun y => (t, y)) ↔ y ∈ s := by
      rw [List.mem_append, List.mem_map]
      constructor
      · rintro (h | ⟨z, hz, e⟩)
        · exact absurd rfl (hacc _ h)
        · cases e; exact hz
      · intro h; exact .inr ⟨y, h, rfl⟩
    by_cases h : y ∈ s
    · rw [if_pos h, if_pos (hiff.2 h)]
    · rw [if_neg h, if_neg (fun e => h (hiff.1 e)), List.map_append, List.append_assoc]; rfl

theorem edK_fst {hs ws : List ML} {k : Nat} {e : Int × Int} (h : e ∈ edK hs ws k) : e.1 ∈ (ws.take k).map (fun m => m.l.tx) := by
  unfold edK at h
  rw [mem_ddL, mem_rawE] at h
  obtain ⟨b, x, c, h, h1, -, rfl⟩ := h
  have : x ∈ (ws.take k).map ML.l := by rw [h1]; simp
  obtain ⟨m, hm, rfl⟩ := List.mem_map.1 this
  exact List.mem_map.2 ⟨m, hm, rfl⟩

theorem edK_next {hs ws : List ML} {k : Nat} {m : ML} (hn : (ws.map (fun m => m.l.tx)).Nodup) (hk : ws[k]? = some m) : edK hs ws (k + 1) = edK hs ws k ++ (whoE hs ws k m).map (fun t => (m.l.tx, t)) := by
  rw [← edJ_all (hs := hs) hk (Nat.le_refl _)]
  unfold edJ
  rw [List.take_of_length_le (Nat.le_refl _)]
  have hfst : ∀ e ∈ edK hs ws k, e.1 ≠ m.l.tx := by
    intro e he h1
    have h2 := edK_fst he
    rw [h1] at h2
    obtain ⟨m2, hm2, e2⟩ := List.mem_map.1 h2
    rw [List.mem_iff_getElem?] at hm2
    obtain ⟨i, hi⟩ := hm2
    rw [List.getElem?_take] at hi
    split at hi
    · rename_i hlt
      have a1 : (ws.map (fun m => m.l.tx))[i]? = some m.l.tx := by rw [List.getElem?_map, hi]; simp [e2]
      have a2 : (ws.map (fun m => m.l.tx))[k]? = some m.l.tx := by rw [List.getElem?_map, hk]; rfl
      have l1 := (List.getElem?_eq_some_iff.1 a1).1
      have := (List.getElem?_inj l1 hn).1 (a1.trans a2.symm)
      omega
    · cases hi
  have := dd_who m.l.tx (edK hs ws k) hfst ((wayM hs (ws.take k) m).map (fun h => h.l.tx)) []
  rw [List.map_nil, List.append_nil, List.map_map] at this
  exact this

theorem edK_all (hs ws : List ML) : edK hs ws ws.length = edgesL (hs.map ML.l) (ws.map ML.l) := by
  unfold edK edgesL
  rw [List.take_of_length_le (Nat.le_refl _)]

theorem whoE_len (hs ws : List ML) (k : Nat) (m : ML) : (whoE hs ws k m).length ≤ hs.length + ws.length := by
  unfold whoE
  have h1 := who_len ((wayM hs (ws.take k) m).map (fun h => h.l.tx)) []
  unfold whoL
  rw [List.length_map, List.length_nil, Nat.zero_add] at h1
  refine Nat.le_trans h1 ?_
  unfold wayM
  rw [List.length_append]
  have a1 := List.length_filter_le (fun h : ML => standsL m.l h.l) hs
  have a2 : (if holdsL (hs.map ML.l) m.l = true then [] else (ws.take k).filter (fun h => standsL m.l h.l)).length ≤ ws.length := by
    split
    · simp
    · refine Nat.le_trans (List.length_filter_le _ _) ?_
      rw [List.length_take]; omega
  omega

/-- how many edges there are -/
theorem edN_len (hs ws : List ML) (hn : (ws.map (fun m => m.l.tx)).Nodup) : ∀ k, k ≤ ws.length → (edK hs ws k).length ≤ k * (hs.length + ws.length) := by
  intro k
  induction k with
  | zero => intro _; unfold edK; simp [rawE, ddL]
  | succ k ih =>
    intro hk
    obtain ⟨m, hm⟩ := ml_at (hs := ws) (k := k) (by omega)
    rw [edK_next hn hm, List.length_append, List.length_map, Nat.add_mul, Nat.one_mul]
    have h1 := ih (by omega)
    have h2 := whoE_len hs ws k m
    omega

theorem edges_U64 {hs ws : List ML} (hu : ∀ m ∈ hs ++ ws, U64 m.l.tx) : ∀ e ∈ edgesL (hs.map ML.l) (ws.map ML.l), U64 e.1 ∧ U64 e.2 := by
  intro e he
  unfold edgesL at he
  rw [mem_ddL, mem_rawE] at he
  obtain ⟨b, x, c, h, h1, h2, rfl⟩ := he
  have hx : x ∈ ws.map ML.l := by rw [h1]; simp
  obtain ⟨m, hm, rfl⟩ := List.mem_map.1 hx
  have hh : h ∈ hs.map ML.l ∨ h ∈ ws.map ML.l := by
    rcases mem_way.1 h2 with h3 | ⟨-, h3⟩
    · exact .inl (mem_against.1 h3).1
    · have := (mem_against.1 h3).1
      rw [List.nil_append] at this
      exact .inr (by rw [h1]; simp [this])
  refine ⟨hu m (List.mem_append_right _ hm), ?_⟩
  rcases hh with hh | hh
  · obtain ⟨m2, hm2, rfl⟩ := List.mem_map.1 hh
    exact hu m2 (List.mem_append_left _ hm2)
  · obtain ⟨m2, hm2, rfl⟩ := List.mem_map.1 hh
    exact hu m2 (List.mem_append_right _ hm2)

set_option maxHeartbeats 4000000 in
theorem pedges_any (w : World) (p : Nat) (ha : Option Addr) (hn hc : Nat) (wa : Option Addr) (wn wc : Nat) (hs ws : List ML) (h : TpA w p ha hn hc wa wn wc hs ws) (hb1 : hn ≤ 10000) (hb2 : wn ≤ 10000) (hno : (ws.map (fun m => m.l.tx)).Nodup) :
    Calls Tryz.prog 146 #[.pointer (some ⟨p, 0, none⟩)] w fun e w' => ∃ v, e = .returned v ∧ OwnY layE w' w.heap.size v (edgesL (hs.map ML.l) (ws.map ML.l)) ∧ Below w.heap.size w w' := by
  have H := hide h
  have HN := hide hno
  have HL := hide h.wt.1
  have HLh := hide h.h.1
  have HMd := hide (made_any w p h.c0)
  have c2 := h.c2
  have hplt := h.lt
  have hm : (wn : Int) ≤ 9223372036854775807 := by omega
  clear h hno
  go_enter Tryz.func146, Tryz.ntmps146
  go_wp2_with (first
    | (go_at_call 33; go_must (refine HMd.out.mono ?_); rintro e w2 ⟨rfl, hw⟩; have hw := hw.symm; subst hw))
  go_loopg [16, 3] wn (fun gk i v wr => ∃ k : Nat, gk = wn - k ∧ i = .int .i64 k ∧ k ≤ wn ∧ OwnY layE wr w.heap.size v (edK hs ws k) ∧ Below w.heap.size w wr)
  case atStart => exact ⟨0, rfl, rfl, Nat.zero_le _, ownY_nil _ _, Below.refl _ _⟩
  case round =>
    clear c2
    obtain ⟨k, rfl, rfl, hk, hO, hB⟩ := hrel
    obtain ⟨va, vn, vc, rfl⟩ := hO.any3
    have HO := hide hO
    have HB := hide hB
    have hsw := hB.size
    clear hO
    by_cases hlt : k < wn
    · have hlt' : (k : Int) < (wn : Int) := by omega
      obtain ⟨m, hmk⟩ := ml_at (hs := ws) (k := k) (by have := HL.out; omega)
      obtain ⟨g, off, rfl, hg, hC⟩ := H.out.wt.at hlt
      obtain ⟨d0, d1, d2, d3, d4⟩ := at5_list (hC.same (hB.block g hg)) hmk
      have hbN := new_below wr (.cells #[.int .u64 m.l.tx, .int .i64 m.l.lv, .int .i64 m.l.md, .slice m.la m.ln m.lc, .slice m.ha m.hn m.hc] 41)
      have hbwN := hB.trans (hbN.mono hsw)
      have HWy := hide (pway_any _ p ha hn hc (some ⟨g, off, none⟩) wn wc hs ws (H.out.keep hbwN) m ((H.out.wo m (List.mem_of_getElem? hmk)).keep hbwN) k hk (by omega) (by omega))
      have HNx := hide (edK_next (hs := hs) HN.out hmk)
      have HAt := hide (at5_new wr m)
      have HBN := hide hbN
      have HLw := hide (whoE_len hs ws k m)
      have HLk := hide (edN_len hs ws HN.out k (by have := HL.out; omega))
      clear hC hmk hB hbN hbwN
      go_wp2_with (first
        | (go_at_call 143; go_must (refine HWy.out.mono ?_); rintro e w2 ⟨v2, rfl, ho2, hb2⟩; obtain ⟨ua, un, uc, rfl⟩ := ho2.any3; have HW2 := hide ho2; have HWl := hide ho2.len; have HB2 := hide hb2; clear ho2 hb2))
      have hWl := HWl.out
      have hum : (un : Int) ≤ 9223372036854775807 := by have := hWl.2.1; have := hWl.2.2; unfold maxLen at this; omega
      have hWe : (whoE hs ws k m).length = un := hWl.1
      have hbb2 := HBN.out.trans (HB2.out.mono (by simp))
      have HO2 := hide (HO.out.keep hbb2)
      have HB02 := hide (HB.out.trans (hbb2.mono hsw))
      have HM0 := hide (fun V (hV : Below w2.heap.size w2 V) => ((HAt.out.same (HB2.out.block _ (by simp))).same (hV.block wr.heap.size (by have := HB2.out.size; simp at this; omega))).zero.1)
      have hs2 := HB02.out.size
      have HBig : Hid ((edK hs ws k).length ≤ 400000000) := by
        show _ ≤ _
        have h1 := HLk.out
        have h2 : k * (hs.length + ws.length) ≤ 10000 * 20000 := Nat.mul_le_mul (by omega) (by have := HL.out; have := HLh.out; omega)
        omega
      have HBg2 : Hid (un ≤ 20000) := by show _ ≤ _; have := HLw.out; have := HL.out; have := HLh.out; omega
      have HWe := hide hWe
      clear hWl hWe hbb2 d0 d1 d2 d3 d4
      obtain ⟨wo, hwo⟩ : ∃ wo, wo = wr := ⟨_, rfl⟩
      subst hwo
      go_loopg [26, 3] un (fun gk i v wq => ∃ q : Nat, gk = un - q ∧ i = .int .i64 q ∧ q ≤ un ∧ OwnY layE wq w.heap.size v (edK hs ws k ++ ((whoE hs ws k m).take q).map (fun t => (m.l.tx, t))) ∧ Below w.heap.size w wq ∧ w2.heap.size ≤ wq.heap.size ∧ (∀ j, wo.heap.size ≤ j → j < w2.heap.size → wq.heap[j]? = w2.heap[j]?) ∧ ∀ g, v.ownBlock = some g → g < wo.heap.size ∨ w2.heap.size ≤ g)
      case atStart => exact ⟨0, rfl, rfl, Nat.zero_le _, by simpa using HO2.out, HB02.out, Nat.le_refl _, fun _ _ _ => rfl, fun g e => .inl (HO.out.lt g e).2⟩
      case round =>
        obtain ⟨q, rfl, rfl, hq, hOq, hBq, hsz, hfr, hob⟩ := hrel
        obtain ⟨xa, xn, xc, rfl⟩ := hOq.any3
        have HOq := hide hOq
        have HBq := hide hBq
        have HFr := hide hfr
        have HOb := hide hob
        clear hOq hBq hob
        by_cases hql : q < un
        · have hql' : (q : Int) < (un : Int) := by omega
          obtain ⟨t, hqt⟩ : ∃ t, (whoE hs ws k m)[q]? = some t := ⟨_, List.getElem?_eq_getElem (by have := HWe.out; omega)⟩
          rcases HW2.out.form with ⟨e, -⟩ | ⟨g2, cap, e, hgb, hgl, -, -, hC2, -⟩
          · exfalso; simp only [Value.slice.injEq] at e; omega
          simp only [Value.slice.injEq] at e
          obtain ⟨rfl, -, rfl⟩ := e
          simp only [World.size_alloc] at hgb
          have t0 : wr.cell? ⟨g2, q, none⟩ = some (.int .u64 t) := by
            have := hC2 q t hqt 0 _ rfl
            have h3 := (World.cell?_of_block (a := ⟨g2, q, none⟩) (hfr g2 (by omega) hgl)).trans (by simpa [layU] using this)
            exact h3
          have m0 : wr.cell? ⟨wo.heap.size, 0, none⟩ = some (.int .u64 m.l.tx) := by
            have hlt2 : wo.heap.size < w2.heap.size := by omega
            exact (World.cell?_of_block (a := ⟨wo.heap.size, 0, none⟩) (hfr wo.heap.size (Nat.le_refl _) hlt2)).trans (HM0.out w2 (Below.refl _ _))
          have HQt := hide hqt
          have HNb := hide (new_below wr (.cells #[.int .u64 m.l.tx, .int .u64 t] 222))
          have HS1 : Hid (OwnY layE (wr.alloc (.cells #[.int .u64 m.l.tx, .int .u64 t] 222)) wr.heap.size (.slice (some ⟨wr.heap.size, 0, none⟩) 1 1) [(m.l.tx, t)]) := ownY_one (L := layE) wr wr.heap.size #[.int .u64 m.l.tx, .int .u64 t] (m.l.tx, t) (Nat.le_refl _) rfl
          have HO4 := hide (HOq.out.keep HNb.out)
          have HBg3 : Hid ((edK hs ws k ++ ((whoE hs ws k m).take q).map (fun t => (m.l.tx, t))).length + [(m.l.tx, t)].length ≤ 1000000000) := by
            show _ ≤ _
            have h1 := HBig.out
            have h2 := HBg2.out
            have h3 := HWe.out
            simp only [List.length_append, List.length_map, List.length_take, List.length_singleton]
            omega
          have hbs := HBq.out.size
          clear hC2 hqt hgb hgl
          go_wp2_with (first
            | (at_builtin; go_must (refine wp_joinY layE _ rfl (.tmp 30) (.tmp 35) rfl w.heap.size _ (edK hs ws k ++ ((whoE hs ws k m).take q).map (fun t => (m.l.tx, t))) rfl HO4.out (some ⟨wr.heap.size, 0, none⟩) 1 1 [(m.l.tx, t)] rfl HS1.out.is.src HBg3.out (by simp; omega) ?_); intro v5 w5 hown5 hg5 hat5; have HO5 := hide hown5; have HB5 := hide (HO4.out.grown hg5 (by simp; omega)); have HG5 := hide hg5; have HA5 := hide hat5; obtain ⟨ya, yn, yc, rfl⟩ := hown5.any3; clear hown5 hg5 hat5))
          go_roundg (un - (q + 1))
          case measure => omega
          case rel =>
            refine ⟨q + 1, rfl, by go_num, by omega, ?_, (HBq.out.trans (HNb.out.mono hbs)).trans HB5.out, ?_, fun j hj1 hj2 => ?_, fun g e => ?_⟩
            · rw [List.take_add_one, HQt.out]
              simpa using HO5.out
            · have := HNb.out.size; have := HG5.out.size; omega
            · have hjr : j < wr.heap.size := by omega
              have h1 := HG5.out.block j (by have := HNb.out.size; omega) (fun e => by
                have := HOb.out j e.symm
                omega)
              rw [h1, HNb.out.block j hjr]
              exact HFr.out j hj1 hj2
            · rcases HA5.out with h1 | ⟨g3, h1, h2⟩
              · rw [h1] at e; exact HOb.out g e
              · rw [h1] at e; cases e; right; have := HNb.out.size; omega
        · obtain rfl : q = un := by omega
          have eq : (whoE hs ws k m).take q = whoE hs ws k m := List.take_of_length_le (by have := HWe.out; omega)
          rw [eq] at HOq
          go_wp2
          go_roundg (wn - (k + 1))
          case measure => omega
          case rel => exact ⟨k + 1, rfl, by go_num, by omega, by rw [HNx.out]; exact HOq.out, HBq.out⟩
    · obtain rfl : k = wn := by omega
      clear hB
      go_wp2
      go_ret
      refine ⟨_, rfl, ?_, HB.out⟩
      rw [← edK_all, HL.out]
      exact HO.out

end Go.Proofs.YtcgiicmmfleinaaGreatDoor

namespace Go.Proofs.YtcgiicmmfleinaaGreatDoor
open Go.RowKit NumMath Go.ChangeShapes Go.WideShapes Go.Deep
set_option linter.unusedVariables false
set_option maxRecDepth 100000

theorem leave0 {L : List Lck} {tx : Int} (h : tx ≠ 0) : leaveL L tx lck0 = L.filter (fun w => w.tx != tx) := by
  unfold leaveL
  apply List.filter_congr
  intro w _
  by_cases e : w = lck0
  · subst e
    have : ((0 : Int) != tx) = true := by simp; exact fun e => h e.symm
    simp [lck0, this]
  · simp [e]

theorem leaveX_none {L : List Lck} {x : Lck} (h : x ∉ L) : leaveL L x.tx x = L.filter (fun w => w.tx != x.tx) := by
  unfold leaveL
  apply List.filter_congr
  intro w hw
  have : ¬ w = x := fun e => h (e ▸ hw)
  simp [this]

theorem leaveX_in {L : List Lck} {x : Lck} (hn : (L.map Lck.tx).Nodup) (h : x ∈ L) : leaveL L x.tx x = L := by
  unfold leaveL
  rw [List.filter_eq_self]
  intro w hw
  by_cases e : w.tx = x.tx
  · have := tx_unique hn hw h e
    simp [this]
  · simp [e]

theorem stands_tx {x w : Lck} (h : w.tx = x.tx) : standsL x w = false := by
  unfold standsL apartL
  rw [h]; simp

theorem against_tx (L : List Lck) (x : Lck) : againstL (L.filter (fun w => w.tx != x.tx)) x = againstL L x := by
  unfold againstL
  rw [List.filter_filter]
  apply List.filter_congr
  intro w _
  by_cases e : w.tx = x.tx
  · rw [stands_tx e]; rfl
  · simp [e]

theorem aheadN {x : Lck} : ∀ {L : List Lck}, x ∉ L → aheadL L x = L := by
  intro L
  induction L with
  | nil => intro _; rfl
  | cons y r ih =>
    intro h
    unfold aheadL at *
    have hy : y ≠ x := fun e => h (by simp [e])
    rw [List.takeWhile_cons, if_pos (by simpa using hy), ih (fun e => h (List.mem_cons_of_mem _ e))]

theorem aheadK {x : Lck} : ∀ {L : List Lck} {k : Nat}, (∀ j, j < k → L[j]? ≠ some x) → L[k]? = some x → aheadL L x = L.take k := by
  intro L
  induction L with
  | nil => intro k _ h; simp at h
  | cons y r ih =>
    intro k h1 h2
    unfold aheadL at *
    cases k with
    | zero => simp at h2; subst h2; simp
    | succ k =>
      have hy : y ≠ x := fun e => h1 0 (by omega) (by simp [e])
      rw [List.takeWhile_cons, if_pos (by simpa using hy), List.take_succ_cons]
      congr 1
      exact ih (fun j hj => by have := h1 (j + 1) (by omega); simpa using this) (by simpa using h2)

/-- where x waits, as plain lists -/
structure PlaceL (L : List Lck) (x : Lck) (k : Nat) : Prop where
  le : k ≤ L.length
  no : ∀ j, j < k → L[j]? ≠ some x
  at_ : k = L.length ∨ L[k]? = some x

theorem placeL_of {x : ML} {ws : List ML} {k : Nat} (h1 : k ≤ ws.length) (h2 : (ws.take k).all (fun m => !decide (m.l = x.l)) = true) (h3 : k = ws.length ∨ ∃ m, ws[k]? = some m ∧ m.l = x.l) : PlaceL (ws.map ML.l) x.l k := by
  refine ⟨by rw [List.length_map]; exact h1, fun j hj e => ?_, ?_⟩
  · rw [List.getElem?_map] at e
    obtain ⟨m, hm, e⟩ := Option.map_eq_some_iff.1 e
    have hmem : m ∈ ws.take k := List.mem_of_getElem? (i := j) (by rw [List.getElem?_take, if_pos hj]; exact hm)
    have := List.all_eq_true.1 h2 m hmem
    simp [e] at this
  · rcases h3 with h3 | ⟨m, hm, e⟩
    · exact .inl (by rw [List.length_map]; exact h3)
    · exact .inr (by rw [List.getElem?_map, hm]; simp [e])

theorem PlaceL.none {L : List Lck} {x : Lck} {k : Nat} (h : PlaceL L x k) (e : k = L.length) : x ∉ L := by
  intro hx
  obtain ⟨j, hj⟩ := List.mem_iff_getElem?.1 hx
  exact h.no j (by rw [e]; exact (List.getElem?_eq_some_iff.1 hj).1) hj

theorem PlaceL.mem {L : List Lck} {x : Lck} {k : Nat} (h : PlaceL L x k) (e : k < L.length) : x ∈ L ∧ L[k]? = some x := by
  rcases h.at_ with h1 | h1
  · omega
  · exact ⟨List.mem_of_getElem? h1, h1⟩

theorem way_place {t : Tab} {x : Lck} {k : Nat} (hn : (t.wait.map Lck.tx).Nodup) (h : PlaceL t.wait x k) : wayL t.held (aheadL (leaveL t.wait x.tx x) x) x = wayL t.held (t.wait.take k) x := by
  unfold wayL
  congr 1
  split
  · rfl
  · by_cases e : k = t.wait.length
    · have hx := h.none e
      rw [leaveX_none hx, aheadN (fun hm => hx (List.mem_filter.1 hm).1), against_tx, e, List.take_of_length_le (Nat.le_refl _)]
    · obtain ⟨hm, hk⟩ := h.mem (by have := h.le; omega)
      rw [leaveX_in hn hm, aheadK h.no hk]

theorem tx_of {x : Lck} (hb : badL x = false) : x.tx ≠ 0 := bad_tx hb

theorem filter_leave {L : List Lck} {x : Lck} : (leaveL L x.tx x).filter (fun w => w.tx != x.tx) = L.filter (fun w => w.tx != x.tx) := by
  unfold leaveL
  rw [List.filter_filter]
  apply List.filter_congr
  intro w _
  by_cases e : w.tx = x.tx <;> simp [e]

theorem ask_hold {t : Tab} {x : Lck} {k : Nat} (hn : (t.wait.map Lck.tx).Nodup) (hb : badL x = false) (hc : t.held.any (fun h => coversL h x) = false) (h : PlaceL t.wait x k) (hw : wayL t.held (t.wait.take k) x = []) :
    askL t x = if 400 ≤ t.held.length then (⟨t.held, t.wait.filter (fun w => w.tx != x.tx)⟩, false, 132) else (⟨t.held ++ [x], t.wait.filter (fun w => w.tx != x.tx)⟩, true, 0) := by
  unfold askL
  rw [if_neg (by rw [hb]; simp), if_neg (by rw [hc]; simp)]
  dsimp only
  rw [way_place hn h, if_pos hw, leave0 (tx_of hb), filter_leave]

theorem ask_new {t : Tab} {x : Lck} (hn : (t.wait.map Lck.tx).Nodup) (hb : badL x = false) (hc : t.held.any (fun h => coversL h x) = false) (h : PlaceL t.wait x t.wait.length) (hw : wayL t.held (t.wait.take t.wait.length) x ≠ []) :
    askL t x = if cycleW (edgesL t.held (t.wait.filter (fun w => w.tx != x.tx) ++ [x])) x.tx = [] then (⟨t.held, t.wait.filter (fun w => w.tx != x.tx) ++ [x]⟩, false, 0) else (⟨t.held, (t.wait.filter (fun w => w.tx != x.tx) ++ [x]).filter (fun w => w.tx != x.tx)⟩, false, 131) := by
  have hx := h.none rfl
  have hq : queuedL (leaveL t.wait x.tx x) x = t.wait.filter (fun w => w.tx != x.tx) ++ [x] := by
    unfold queuedL
    rw [if_neg (fun hm => hx (mem_leave.1 hm).1), leaveX_none hx]
  unfold askL
  rw [if_neg (by rw [hb]; simp), if_neg (by rw [hc]; simp)]
  dsimp only
  rw [way_place hn h, if_neg hw, hq, leave0 (tx_of hb)]

theorem ask_old {t : Tab} {x : Lck} {k : Nat} (hn : (t.wait.map Lck.tx).Nodup) (hb : badL x = false) (hc : t.held.any (fun h => coversL h x) = false) (h : PlaceL t.wait x k) (hk : k < t.wait.length) (hw : wayL t.held (t.wait.take k) x ≠ []) :
    askL t x = if cycleW (edgesL t.held t.wait) x.tx = [] then (⟨t.held, t.wait⟩, false, 0) else (⟨t.held, t.wait.filter (fun w => w.tx != x.tx)⟩, false, 131) := by
  obtain ⟨hm, -⟩ := h.mem hk
  have hq : queuedL (leaveL t.wait x.tx x) x = t.wait := by
    unfold queuedL
    rw [leaveX_in hn hm, if_pos hm]
  unfold askL
  rw [if_neg (by rw [hb]; simp), if_neg (by rw [hc]; simp)]
  dsimp only
  rw [way_place hn h, if_neg hw, hq, leave0 (tx_of hb)]

theorem who_nil {l : List Int} : whoL l = [] ↔ l = [] := by
  constructor
  · intro h
    cases l with
    | nil => rfl
    | cons x r =>
      exfalso
      have key : ∀ (r acc : List Int), acc ≠ [] → r.foldl whoW acc ≠ [] := by
        intro r
        induction r with
        | nil => intro acc h; exact h
        | cons y r ih =>
          intro acc h
          rw [List.foldl_cons]
          refine ih _ ?_
          unfold whoW
          split
          · exact h
          · simp
      have : whoL (x :: r) = r.foldl whoW [x] := rfl
      rw [this] at h
      exact key r [x] (by simp) h
  · intro h; rw [h]; rfl

theorem filterM (ws : List ML) (tx : Int) : (ws.filter (fun m => m.l.tx != tx)).map ML.l = (ws.map ML.l).filter (fun w => w.tx != tx) := by
  rw [List.filter_map]; rfl

theorem nodup_snoc {ws : List ML} {y : ML} {tx : Int} (h : (ws.map (fun m => m.l.tx)).Nodup) (hy : y.l.tx = tx) : ((ws.filter (fun m => m.l.tx != tx) ++ [y]).map (fun m => m.l.tx)).Nodup := by
  rw [List.map_append, List.nodup_append]
  refine ⟨h.sublist (List.filter_sublist.map _), by simp, fun a ha b hb => ?_⟩
  obtain ⟨m, hm, rfl⟩ := List.mem_map.1 ha
  simp at hb
  subst hb
  rw [hy]
  simpa using (List.mem_filter.1 hm).2

theorem at5_of0 {w : World} {g : Nat} {m : ML} (h : w.cell? ⟨g, 0, none⟩ = some (.int .u64 m.l.tx) ∧ w.cell? ⟨g, 1, none⟩ = some (.int .i64 m.l.lv) ∧ w.cell? ⟨g, 2, none⟩ = some (.int .i64 m.l.md) ∧ w.cell? ⟨g, 3, none⟩ = some (.slice m.la m.ln m.lc) ∧ w.cell? ⟨g, 4, none⟩ = some (.slice m.ha m.hn m.hc)) : At5 w g 0 m :=
  ⟨h.1, h.2.1, h.2.2.1, h.2.2.2.1, h.2.2.2.2⟩

/-- what Ask leaves -/
def AskP (G : Nat → Prop) (base : Nat) (w : World) (p : Nat) (hv wv : Value) (r : Tab × Bool × Int) (e : Ending) (w' : World) : Prop :=
  e = .returned (.tuple #[.bool r.2.1, .int .i64 r.2.2]) ∧ ∃ hs' ws', hs'.map ML.l = r.1.held ∧ ws'.map ML.l = r.1.wait ∧ TPost G base w p hv wv hs' ws' w'

set_option maxHeartbeats 8000000 in
theorem pask_any {G : Nat → Prop} {base : Nat} {w : World} {p : Nat} {hv wv : Value} {hs ws : List ML} (h : IsT G base w p hv wv hs ws) (x : ML) (hx : Foot (Xt p hv wv) w (fun V => x.ok V)) (hln : x.ln ≤ 1000000) (hhn : x.hn ≤ 1000000) (hU : U64 x.l.tx) (hUs : ∀ m ∈ hs ++ ws, U64 m.l.tx) (hno : (ws.map (fun m => m.l.tx)).Nodup) (hb1 : hs.length ≤ 400) (hb2 : ws.length ≤ 160) :
    Calls Tryz.prog 117 #[.pointer (some ⟨p, 0, none⟩), .agg #[.int .u64 x.l.tx, .int .i64 x.l.lv, .int .i64 x.l.md, .slice x.la x.ln x.lc, .slice x.ha x.hn x.hc]] w fun e w' => AskP G base w p hv wv (askL ⟨hs.map ML.l, ws.map ML.l⟩ x.l) e w' := by
  obtain ⟨r, hr⟩ : ∃ r, askL ⟨hs.map ML.l, ws.map ML.l⟩ x.l = r := ⟨_, rfl⟩
  rw [hr]
  obtain ⟨w1, hw1⟩ : ∃ w1, w1 = w.alloc (.cells #[.int .u64 x.l.tx, .int .i64 x.l.lv, .int .i64 x.l.md, .slice x.la x.ln x.lc, .slice x.ha x.hn x.hc] 41) := ⟨_, rfl⟩
  have hb : Below w.heap.size w w1 := by rw [hw1]; exact new_below _ _
  have hs1 : w1.heap.size = w.heap.size + 1 := by rw [hw1]; simp
  have hA1 : At5 w1 w.heap.size 0 x := by rw [hw1]; exact at5_new w x
  obtain ⟨ha, hn, hc, wa, wn, wc, rfl, rfl, hT0⟩ := h.read
  have hT := hT0.keep hb
  have hI := h.keep hb
  have hxk := hx.keep hb
  have HX := hide (fun V (hV : Below w1.heap.size w1 V) => (hA1.same (hV.block w.heap.size (by omega))).zero)
  have HXf := hide hxk
  have HI := hide hI
  have HT := hide hT
  have HB := hide hb
  have HN0 := hide hno
  have HUs := hide hUs
  have HR := hide hr
  have HU := hide hU
  have hl1 := hT.h.1
  have hl2 := hT.wt.1
  have hnN : ((⟨hs.map ML.l, ws.map ML.l⟩ : Tab).wait.map Lck.tx).Nodup := by show ((ws.map ML.l).map Lck.tx).Nodup; rw [List.map_map]; exact hno
  have HNn := hide hnN
  have HL1 := hide hl1
  have HL2 := hide hl2
  have HNx : Hid (∀ k, Xt p (.slice ha hn hc) (.slice wa wn wc) k → k < w.heap.size) := fun k hk => (h.xl k hk).2
  have HMd := hide (made_any w1 p hT.c0)
  have HMb := hide (mayBe_any x w1 hxk.now)
  have HTp : Hid (∀ V, Below w1.heap.size w1 V → TPost G base w p (.slice ha hn hc) (.slice wa wn wc) hs ws V) := fun V hV => tpost_keep h (hb.trans (hV.mono (by omega)))
  obtain ⟨x0, x1, x2, x3, x4⟩ := HX.out w1 (Below.refl _ _)
  have hplt := hT.lt
  clear h hx hb hA1 hT0 hT hI hxk hno hUs hU hnN hr hl1 hl2
  cases hbd : badL x.l with
  | true =>
    rw [hbd] at HMb
    have HR2 := hide (show r = (⟨hs.map ML.l, ws.map ML.l⟩, false, 1) by rw [← HR.out]; unfold askL; rw [if_pos hbd])
    clear hbd
    go_enter Tryz.func117, Tryz.ntmps117
    go_upto_region 1 with fail
    rw [← hw1]
    clear hw1
    go_wp2_with (first
      | (go_at_call 140; go_must (refine HMb.out.mono ?_); rintro e w2 ⟨rfl, hb2⟩; have HB2 := hide hb2; clear hb2)
      | (go_at_call 33; go_must (refine HMd.out.mono ?_); rintro e w2 ⟨rfl, hw⟩; have hw := hw.symm; subst hw))
    go_ret2
    exact ⟨by rw [HR2.out]; rfl, hs, ws, by rw [HR2.out], by rw [HR2.out], HTp.out _ HB2.out⟩
  | false =>
    rw [hbd] at HMb
    have HBd := hide hbd
    clear hbd
    go_enter Tryz.func117, Tryz.ntmps117
    go_upto_region 1 with fail
    rw [← hw1]
    clear hw1
    go_upto_region 3 with (first
      | (go_at_call 140; go_must (refine HMb.out.mono ?_); rintro e w2 ⟨rfl, hb2⟩; have HB2 := hide hb2; clear hb2)
      | (go_at_call 33; go_must (refine HMd.out.mono ?_); rintro e w2 ⟨rfl, hw⟩; have hw := hw.symm; subst hw))
    obtain ⟨x0, x1, x2, x3, x4⟩ := HX.out w2 HB2.out
    have HCv := hide (pcovered_any w2 p ha hn hc wa wn wc hs ws (HT.out.keep HB2.out) x (HXf.out.keep HB2.out).now)
    cases hcv : hs.any (fun m => coversL m.l x.l) with
    | true =>
      rw [hcv] at HCv
      have HR2 := hide (show r = (⟨hs.map ML.l, ws.map ML.l⟩, true, 0) by rw [← HR.out]; unfold askL; rw [if_neg (by rw [HBd.out]; simp), if_pos (by rw [List.any_map]; exact hcv)])
      clear hcv
      go_wp2_with (first
        | (go_at_call 141; go_must (refine HCv.out.mono ?_); rintro e w3 ⟨rfl, hb3⟩; have HB3 := hide hb3; clear hb3))
      go_ret2
      exact ⟨by rw [HR2.out]; rfl, hs, ws, by rw [HR2.out], by rw [HR2.out], HTp.out _ (HB2.out.trans (HB3.out.mono HB2.out.size))⟩
    | false =>
      rw [hcv] at HCv
      have HCc := hide (show ((⟨hs.map ML.l, ws.map ML.l⟩ : Tab).held.any (fun h => coversL h x.l)) = false by show (hs.map ML.l).any _ = false; rw [List.any_map]; exact hcv)
      clear hcv
      go_upto_region 5 with (first
        | (go_at_call 141; go_must (refine HCv.out.mono ?_); rintro e w3 ⟨rfl, hb3⟩; have HB3 := hide hb3; clear hb3))
      have HB13 := hide (HB2.out.trans (HB3.out.mono HB2.out.size))
      obtain ⟨x0, x1, x2, x3, x4⟩ := HX.out w3 HB13.out
      have HPl := hide (pplace_any w3 p ha hn hc wa wn wc hs ws (HT.out.keep HB13.out) x (HXf.out.keep HB13.out).now)
      go_upto_region 6 with (first
        | (go_at_call 142; go_must (refine HPl.out.mono ?_); rintro e w4 ⟨⟨k, rfl, hk1, hk2, hk3⟩, hb4⟩; have HPk := hide (placeL_of hk1 hk2 hk3); have HK1 := hide hk1; have HB4 := hide hb4; clear hb4 hk1 hk2 hk3))
      have HB14 := hide (HB13.out.trans (HB4.out.mono HB13.out.size))
      obtain ⟨x0, x1, x2, x3, x4⟩ := HX.out w4 HB14.out
      have HWy := hide (pway_any w4 p ha hn hc wa wn wc hs ws (HT.out.keep HB14.out) x (HXf.out.keep HB14.out).now k (by have := HK1.out; have := HL2.out; omega) (by have := HL1.out; omega) (by have := HL2.out; omega))
      have HWn : Hid (whoL ((wayM hs (ws.take k) x).map (fun m => m.l.tx)) = [] ↔ wayL (⟨hs.map ML.l, ws.map ML.l⟩ : Tab).held ((⟨hs.map ML.l, ws.map ML.l⟩ : Tab).wait.take k) x.l = []) := by
        show _ ↔ wayL (hs.map ML.l) ((ws.map ML.l).take k) x.l = []
        rw [who_nil, List.map_eq_nil_iff, ← List.map_take, ← wayM_l, List.map_eq_nil_iff]
      go_upto_region 6 with fail
      by_cases hwe : wayL (⟨hs.map ML.l, ws.map ML.l⟩ : Tab).held ((⟨hs.map ML.l, ws.map ML.l⟩ : Tab).wait.take k) x.l = []
      · have HR2 := hide (HR.out.symm.trans (ask_hold HNn.out HBd.out HCc.out HPk.out hwe))
        have hw0 := HWn.out.2 hwe
        rw [hw0] at HWy
        clear hwe hw0
        go_upto_region 7 with (first
          | (go_at_call 143; go_must (refine HWy.out.mono ?_); rintro e w5 ⟨v5, rfl, ho5, hb5⟩; obtain ⟨ua, un, uc, rfl⟩ := ho5.any3; have hun := ho5.len.1; simp only [List.length_nil] at hun; subst hun; have HB5 := hide hb5; clear ho5 hb5))
        have HB15 := hide (HB14.out.trans (HB5.out.mono HB14.out.size))
        obtain ⟨x0, x1, x2, x3, x4⟩ := HX.out w5 HB15.out
        have HHo := hide (phold_any (HI.out.keep HB15.out) x (HXf.out.keep HB15.out) hln hhn)
        go_wp2_with (first
          | (go_at_call 144; go_must (refine HHo.out.mono ?_); rintro e w6 (⟨h4, rfl, hp⟩ | ⟨h4, rfl, y, hyl, hp⟩)))
        · go_ret2
          have e4 : 400 ≤ (hs.map ML.l).length := by rw [List.length_map]; exact h4
          have hr := HR2.out
          rw [if_pos e4] at hr
          exact ⟨by rw [hr]; rfl, hs, _, by rw [hr], by rw [hr]; exact filterM _ _, TPost.ahead (HB.out.trans (HB15.out.mono (by omega))) hp⟩
        · go_ret2
          have e4 : ¬ 400 ≤ (hs.map ML.l).length := by rw [List.length_map]; omega
          have hr := HR2.out
          rw [if_neg e4] at hr
          exact ⟨by rw [hr]; rfl, hs ++ [y], _, by rw [hr, List.map_append, List.map_singleton, hyl], by rw [hr]; exact filterM _ _, TPost.ahead (HB.out.trans (HB15.out.mono (by omega))) hp⟩
      · have HWne := hide hwe
        have hw0 : ¬ whoL ((wayM hs (ws.take k) x).map (fun m => m.l.tx)) = [] := fun e => hwe (HWn.out.1 e)
        have HW0 := hide hw0
        clear hwe hw0
        go_upto_region 6 with fail
        go_upto_region 8 with (first
          | (go_at_call 143; go_must (refine HWy.out.mono ?_); rintro e w5 ⟨v5, rfl, ho5, hb5⟩; obtain ⟨ua, un, uc, rfl⟩ := ho5.any3; (have hunp : 0 < un := (by rw [← ho5.len.1]; exact List.length_pos_iff.2 HW0.out)); have hunI : ((un : Int) == 0) = false := (by simp; omega); have hunN : (un == 0) = false := (by simp; omega); have HB5 := hide hb5; clear ho5 hb5))
        have HB15 := hide (HB14.out.trans (HB5.out.mono HB14.out.size))
        obtain ⟨x0, x1, x2, x3, x4⟩ := HX.out w5 HB15.out
        have c25 := (HT.out.keep HB15.out).c2
        by_cases hkw : k = wn
        · have HPw : Hid (PlaceL (⟨hs.map ML.l, ws.map ML.l⟩ : Tab).wait x.l (⟨hs.map ML.l, ws.map ML.l⟩ : Tab).wait.length) := by
            have e : k = (⟨hs.map ML.l, ws.map ML.l⟩ : Tab).wait.length := by show k = (ws.map ML.l).length; rw [List.length_map, HL2.out]; exact hkw
            rw [← e]; exact HPk.out
          have HWne : Hid (wayL (⟨hs.map ML.l, ws.map ML.l⟩ : Tab).held ((⟨hs.map ML.l, ws.map ML.l⟩ : Tab).wait.take (⟨hs.map ML.l, ws.map ML.l⟩ : Tab).wait.length) x.l ≠ []) := by
            have e : k = (⟨hs.map ML.l, ws.map ML.l⟩ : Tab).wait.length := by show k = (ws.map ML.l).length; rw [List.length_map, HL2.out]; exact hkw
            rw [← e]; exact HWne.out
          have hkb : ((k : Int) == (wn : Int)) = true := by simp [hkw]
          have HLv := hide (pleave_any (HI.out.keep HB15.out) x.l.tx)
          clear hkw
          go_upto_region 10 with (first
            | (go_at_call 119; go_must (refine HLv.out.mono ?_); rintro e w6 ⟨rfl, hp6⟩; have HP6 := hide hp6; clear hp6))
          obtain ⟨hv6, wv6, hI6, hk6, ha6, hbb6⟩ := HP6.out
          obtain ⟨ia6, in6, ic6, ja, jn, jc, e6, rfl, hT6⟩ := hI6.read
          clear hT6 e6 c25
          have hw6s : w.heap.size < w6.heap.size := by have h1 := hk6.size; have h2 := HB15.out.size; omega
          have hw5s : w.heap.size < w5.heap.size := by have h2 := HB15.out.size; omega
          have HK06 := hide (kpThen (Below.keeps (HB.out.trans (HB15.out.mono (by omega))) (Xt p (.slice ha hn hc) (.slice wa wn wc))) (fun k hk => .inl hk) hk6)
          have hsz5 : w.heap.size ≤ w5.heap.size := by omega
          have HAt6 := hide (atB_then (w := w) (.inl rfl) ha6 hsz5)
          have HBt6 := hide (atB_then (w := w) (.inl rfl) hbb6 hsz5)
          have HXok := hide ((HXf.out.keep HB15.out).step (Y := Xt p (.slice ha hn hc) (.slice wa wn wc)) hk6 (fun k hk => .inl hk))
          have hA6 : At5 w6 w.heap.size 0 x := (at5_of0 (HX.out w5 HB15.out)).same (hk6.block w.heap.size hw5s (fun e => by have := HNx.out _ e; omega))
          have HA6 := hide hA6
          have HNt : Hid (¬ Xt p hv6 (.slice ja jn jc) w.heap.size) := by
            intro e
            rcases xt_step (w := w5) ha6 hbb6 _ e with h1 | h1
            · have := HNx.out _ h1; omega
            · omega
          have HNh : Hid ((Value.slice ja jn jc).ownBlock ≠ some w.heap.size) := fun e => HNt.out (.inr (.inr e))
          have HI6 := hide hI6
          clear hI6 hk6 ha6 hbb6 hA6 x0 x1 x2 x3 x4
          have HV : Hid (∀ V, Keeps (fun k => (Value.slice ja jn jc).ownBlock = some k) w6.drew V → V.cell? ⟨p, 2, none⟩ = some (.slice ja jn jc) ∧ V.cell? ⟨w.heap.size, 0, none⟩ = some (.int .u64 x.l.tx) ∧ V.cell? ⟨w.heap.size, 1, none⟩ = some (.int .i64 x.l.lv) ∧ V.cell? ⟨w.heap.size, 2, none⟩ = some (.int .i64 x.l.md) ∧ V.cell? ⟨w.heap.size, 3, none⟩ = some (.slice x.la x.ln x.lc) ∧ V.cell? ⟨w.heap.size, 4, none⟩ = some (.slice x.ha x.hn x.hc)) := fun V hV =>
            ⟨(World.cell?_of_block (a := ⟨p, 2, none⟩) (hV.block p HI6.out.lt HI6.out.wp)).trans HI6.out.c2, (HA6.out.same (hV.block w.heap.size (by show w.heap.size < w6.heap.size; omega) (fun e => HNh.out e))).zero⟩
          refine startG (fun V => Keeps (fun k => (Value.slice ja jn jc).ownBlock = some k) w6.drew V) (fun i => i == 11) (by kernel_rfl) ?_
          refine' takeG (i := 0) (v := _) rfl (by kernel_rfl) (by kernel_rfl) (by kernel_rfl) (by kernel_rfl) (fun _ _ _ h => h) (by rfl) (kpSelf _ _) ?_ ?_; rotate_left
          · (intro V hSV; obtain ⟨t1, x0, x1, x2, x3, x4⟩ := HV.out V hSV; go_simp; all_goals (with_reducible rfl))
          (try simp only [Act.put, List.setIfInBounds_toArray, List.set_cons_zero, List.set_cons_succ])
          refine' takeG (i := 1) (v := _) rfl (by kernel_rfl) (by kernel_rfl) (by kernel_rfl) (by kernel_rfl) (fun _ _ _ h => h) (by rfl) (kpSelf _ _) ?_ ?_; rotate_left
          · (intro V hSV; obtain ⟨t1, x0, x1, x2, x3, x4⟩ := HV.out V hSV; go_simp; all_goals (with_reducible rfl))
          (try simp only [Act.put, List.setIfInBounds_toArray, List.set_cons_zero, List.set_cons_succ])
          refine' takeG (i := 2) (v := _) rfl (by kernel_rfl) (by kernel_rfl) (by kernel_rfl) (by kernel_rfl) (fun _ _ _ h => h) (by rfl) (kpSelf _ _) ?_ ?_; rotate_left
          · (intro V hSV; obtain ⟨t1, x0, x1, x2, x3, x4⟩ := HV.out V hSV; go_simp; all_goals (with_reducible rfl))
          (try simp only [Act.put, List.setIfInBounds_toArray, List.set_cons_zero, List.set_cons_succ])
          refine' takeG (i := 3) (v := _) rfl (by kernel_rfl) (by kernel_rfl) (by kernel_rfl) (by kernel_rfl) (fun _ _ _ h => h) (by rfl) (kpSelf _ _) ?_ ?_; rotate_left
          · (intro V hSV; obtain ⟨t1, x0, x1, x2, x3, x4⟩ := HV.out V hSV; go_simp; all_goals (with_reducible rfl))
          (try simp only [Act.put, List.setIfInBounds_toArray, List.set_cons_zero, List.set_cons_succ])
          refine' takeG (i := 4) (v := _) rfl (by kernel_rfl) (by kernel_rfl) (by kernel_rfl) (by kernel_rfl) (fun _ _ _ h => h) (by rfl) (kpSelf _ _) ?_ ?_; rotate_left
          · (intro V hSV; obtain ⟨t1, x0, x1, x2, x3, x4⟩ := HV.out V hSV; go_simp; all_goals (with_reducible rfl))
          (try simp only [Act.put, List.setIfInBounds_toArray, List.set_cons_zero, List.set_cons_succ])
          refine' takeG (i := 5) (v := _) rfl (by kernel_rfl) (by kernel_rfl) (by kernel_rfl) (by kernel_rfl) (fun _ _ _ h => h) (by rfl) (kpSelf _ _) ?_ ?_; rotate_left
          · (intro V hSV; obtain ⟨t1, x0, x1, x2, x3, x4⟩ := HV.out V hSV; go_simp; all_goals (with_reducible rfl))
          (try simp only [Act.put, List.setIfInBounds_toArray, List.set_cons_zero, List.set_cons_succ])
          refine callE (i := 6) rfl (by kernel_rfl) (fun K hK => ?_)
          go_simp
          refine (pcopyOf_any x w6.drew (HXok.out.keep (Below.refl _ w6).drew).now hln hhn).mono ?_
          rintro e w7 ⟨y, rfl, hyl, hyf, hb7⟩
          have HYl := hide hyl
          have HYf := hide hyf
          have HB7 := hide (below_undrew hb7)
          refine hK.out _ _ (fun _ => Below.keeps hb7 _) ?_
          clear hyl hyf hb7
          clear hK K
          (try simp only [Act.put, List.setIfInBounds_toArray, List.set_cons_zero, List.set_cons_succ])
          have hb8 := HB7.out.trans ((new_below w7 (.cells #[.int .u64 y.l.tx, .int .i64 y.l.lv, .int .i64 y.l.md, .slice y.la y.ln y.lc, .slice y.ha y.hn y.hc] 41)).mono HB7.out.size)
          have hb8d : Keeps (fun k => (Value.slice ja jn jc).ownBlock = some k) w6.drew (w7.alloc (.cells #[.int .u64 y.l.tx, .int .i64 y.l.lv, .int .i64 y.l.md, .slice y.la y.ln y.lc, .slice y.ha y.hn y.hc] 41)) := Below.keeps (⟨hb8.os, hb8.tape, hb8.output, hb8.size, hb8.block⟩ : Below w6.drew.heap.size w6.drew (w7.alloc (.cells #[.int .u64 y.l.tx, .int .i64 y.l.lv, .int .i64 y.l.md, .slice y.la y.ln y.lc, .slice y.ha y.hn y.hc] 41))) _
          refine callE (i := 7) rfl (by kernel_rfl) (fun K hK => ?_)
          go_simp
          refine hK.out _ _ (fun _ => hb8d) ?_
          clear hK K
          (try simp only [Act.put, List.setIfInBounds_toArray, List.set_cons_zero, List.set_cons_succ])
          have HOne : Hid (OwnY layK (w7.alloc (.cells #[.int .u64 y.l.tx, .int .i64 y.l.lv, .int .i64 y.l.md, .slice y.la y.ln y.lc, .slice y.ha y.hn y.hc] 41)) w7.heap.size (.slice (some ⟨w7.heap.size, 0, none⟩) 1 1) [y]) := ownY_one (L := layK) w7 w7.heap.size #[.int .u64 y.l.tx, .int .i64 y.l.lv, .int .i64 y.l.md, .slice y.la y.ln y.lc, .slice y.ha y.hn y.hc] y (Nat.le_refl _) rfl
          have HH8 := hide ((HI6.out.wo.keep hb8))
          have HYf8 := hide (HYf.out.keep (new_below w7 (.cells #[.int .u64 y.l.tx, .int .i64 y.l.lv, .int .i64 y.l.md, .slice y.la y.ln y.lc, .slice y.ha y.hn y.hc] 41)))
          have hbl := HI6.out.bl
          have hs8 := hb8.size
          have hlf : (ws.filter (fun m => m.l.tx != x.l.tx)).length ≤ 160 := Nat.le_trans (List.length_filter_le _ _) hb2
          obtain ⟨w8, hw8⟩ : ∃ w8, w8 = w7.alloc (.cells #[.int .u64 y.l.tx, .int .i64 y.l.lv, .int .i64 y.l.md, .slice y.la y.ln y.lc, .slice y.ha y.hn y.hc] 41) := ⟨_, rfl⟩
          rw [← hw8] at HOne HH8 HYf8 hb8 hb8d hs8
          rw [← hw8]
          clear hw8
          refine callE (i := 8) rfl (by kernel_rfl) (fun K hK => ?_)
          refine step_joinY layK _ (by rfl) (.tmp 49) (.tmp 52) (by rfl) base (.slice ja jn jc) (ws.filter (fun m => m.l.tx != x.l.tx)) (by rfl) HH8.out (some ⟨w7.heap.size, 0, none⟩) 1 1 [y] (by rfl) HOne.out.is.src (by simp only [List.length_singleton]; omega) (by omega) ?_
          intro v9 w9 hown9 hg9 hat9
          obtain ⟨a9, n9, c9, rfl⟩ := hown9.any3
          have HO9 := hide hown9
          have HK9 : Hid (Keeps (fun k => (Value.slice ja jn jc).ownBlock = some k) w6 w9) := kpThen (Below.keeps hb8 _) (fun k hk => .inl hk) (grown_kp hg9)
          have HAt9 : Hid (AtB w6 (.slice ja jn jc) (.slice a9 n9 c9)) := atB_then (.inl rfl) hat9 hs8
          have HY9 : Hid (Foot (fun k => Xt p hv6 (.slice a9 n9 c9) k ∨ G k) w9 (fun V => y.ok V)) := HYf8.out.step (Keeps.wider (grown_kp hg9) (fun k hk => (HI6.out.wo.lt k hk).2)) (fun k hk => by
            rcases hk with hk | hk
            · rcases xt_step (w := w8) (hv := hv6) (wv := .slice ja jn jc) (.inl rfl) hat9 k hk with h1 | h1
              · exact .inl (HI6.out.xl k h1).2
              · exact .inr h1
            · exact .inl (HI6.out.gl k hk))
          have hS9 : Keeps (fun k => (Value.slice ja jn jc).ownBlock = some k) w6.drew w9 := kpThen hb8d (fun k hk => .inl hk) (grown_kp hg9)
          refine hK.out _ _ (fun _ => hS9) ?_
          clear hown9 hg9 hat9
          clear hK K
          (try simp only [Act.put, List.setIfInBounds_toArray, List.set_cons_zero, List.set_cons_succ])
          refine callE (i := 9) rfl (by kernel_rfl) (fun K hK => ?_)
          go_simp
          refine hK.out _ _ (fun _ => hS9) ?_
          clear hK K
          (try simp only [Act.put, List.setIfInBounds_toArray, List.set_cons_zero, List.set_cons_succ])
          refine callE (i := 10) rfl (by kernel_rfl) (fun K hK => ?_)
          go_simp
          refine hK.out _ _ (fun _ => hS9) ?_
          clear hK K
          (try simp only [Act.put, List.setIfInBounds_toArray, List.set_cons_zero, List.set_cons_succ])
          have t9 := (HV.out _ hS9).1
          have f9 : w9.frozen? ⟨p, 2, none⟩ = false := (World.frozen?_of_block (a := ⟨p, 2, none⟩) (hS9.block p HI6.out.lt HI6.out.wp)).trans (HI6.out.fz 2)
          refine callE (i := 11) rfl (by kernel_rfl) (fun K hK => ?_)
          go_simp
          refine hK.out _ _ (fun h => by cases h) ?_
          clear hK K
          (try simp only [Act.put, List.setIfInBounds_toArray, List.set_cons_zero, List.set_cons_succ])
          refine doneE (by kernel_rfl) ?_ _
          have HPt : Hid (TPost G base w6 p hv6 (.slice ja jn jc) hs (ws.filter (fun m => m.l.tx != x.l.tx) ++ [y]) (w9.setCell ⟨p, 2, none⟩ (.slice a9 n9 c9))) := by
            refine HI6.out.relW HK9.out HO9.out HAt9.out (fun m hm => ?_)
            rcases List.mem_append.1 hm with hm | hm
            · exact (HI6.out.kf m (List.mem_append_right _ hm)).step (Keeps.wider HK9.out (fun k hk => .inl (.inr (.inr hk)))) (fun k hk => by
                rcases hk with hk | hk
                · rcases xt_step (w := w6) (.inl rfl) HAt9.out k hk with h1 | h1
                  · exact .inl (.inl h1)
                  · exact .inr h1
                · exact .inl (.inr hk))
            · rw [List.mem_singleton.1 hm]
              exact HY9.out
          obtain ⟨wT, hwT⟩ : ∃ W, W = w9.setCell ⟨p, 2, none⟩ (.slice a9 n9 c9) := ⟨_, rfl⟩
          rw [← hwT] at HPt
          rw [← hwT]
          clear hwT t9 f9 hS9 hb8d hb8 HV HOne HH8 HYf8
          obtain ⟨hvT, wvT, hIt, hKt, hAt, hBt⟩ := (TPost.then HK06.out HAt6.out HBt6.out HPt.out)
          have HIt := hide hIt
          have HKt := hide hKt
          have HAt := hide hAt
          have HBt := hide hBt
          have HXt : Hid (∀ V, Below wT.heap.size wT V → V.cell? ⟨w.heap.size, 0, none⟩ = some (.int .u64 x.l.tx) ∧ V.cell? ⟨w.heap.size, 1, none⟩ = some (.int .i64 x.l.lv) ∧ V.cell? ⟨w.heap.size, 2, none⟩ = some (.int .i64 x.l.md) ∧ V.cell? ⟨w.heap.size, 3, none⟩ = some (.slice x.la x.ln x.lc) ∧ V.cell? ⟨w.heap.size, 4, none⟩ = some (.slice x.ha x.hn x.hc)) := by
            intro V hV
            obtain ⟨-, -, -, k9, -, -⟩ := HPt.out
            have h6 : w.heap.size < w6.heap.size := by omega
            have hnx : ¬ Xt p hv6 (.slice ja jn jc) w.heap.size := HNt.out
            exact ((HA6.out.same (k9.block w.heap.size h6 hnx)).same (hV.block w.heap.size (Nat.lt_of_lt_of_le h6 k9.size))).zero
          obtain ⟨wsT, hwsT⟩ : ∃ l, l = ws.filter (fun m => m.l.tx != x.l.tx) ++ [y] := ⟨_, rfl⟩
          have HWl : Hid (wsT.length ≤ 161) := by show _ ≤ _; rw [hwsT, List.length_append, List.length_singleton]; omega
          have HNo : Hid ((wsT.map (fun m => m.l.tx)).Nodup) := by show List.Nodup _; rw [hwsT]; exact nodup_snoc HN0.out (by rw [HYl.out])
          have HUt : Hid (∀ m ∈ hs ++ wsT, U64 m.l.tx) := by
            intro m hm
            rw [hwsT] at hm
            rcases List.mem_append.1 hm with hm | hm
            · exact HUs.out m (List.mem_append_left _ hm)
            · rcases List.mem_append.1 hm with hm | hm
              · exact HUs.out m (List.mem_append_right _ (List.mem_filter.1 hm).1)
              · rw [List.mem_singleton.1 hm, HYl.out]; exact HU.out
          have HRt : Hid (r = if cycleW (edgesL (hs.map ML.l) (wsT.map ML.l)) x.l.tx = [] then (⟨hs.map ML.l, wsT.map ML.l⟩, false, 0) else (⟨hs.map ML.l, (wsT.map ML.l).filter (fun w => w.tx != x.l.tx)⟩, false, 131)) := by
            show r = _
            have e : wsT.map ML.l = (ws.map ML.l).filter (fun w => w.tx != x.l.tx) ++ [x.l] := by rw [hwsT, List.map_append, filterM, List.map_singleton, HYl.out]
            rw [e, ← HR.out]
            exact ask_new HNn.out HBd.out HCc.out HPw.out HWne.out
          have HIt : Hid (IsT G base wT p hvT wvT hs wsT) := by rw [hwsT]; exact HIt.out
          clear hIt hKt hAt hBt hwsT HPt HY9 HK9 HO9
          go_upto_region 11 with fail
          obtain ⟨ga, gn, gc, ia, iin, ic, eh, ew, hTt⟩ := HIt.out.read
          have HEd := hide (pedges_any wT.drew p ga gn gc ia iin ic hs wsT (hTt.keep (Below.refl _ wT).drew) (by have := hTt.h.1; omega) (by have := hTt.wt.1; have := HWl.out; omega) HNo.out)
          have HEu := hide (edges_U64 HUt.out)
          have HEl : Hid ((edgesL (hs.map ML.l) (wsT.map ML.l)).length ≤ 100000) := by
            show _ ≤ _
            have h1 := edN_len hs wsT HNo.out wsT.length (Nat.le_refl _)
            rw [edK_all] at h1
            have h2 : wsT.length * (hs.length + wsT.length) ≤ 161 * 561 := Nat.mul_le_mul HWl.out (by have := HWl.out; omega)
            omega
          clear hTt eh ew
          by_cases hcy : cycleW (edgesL (hs.map ML.l) (wsT.map ML.l)) x.l.tx = []
          · have HCn := hide hcy
            have HR2 := hide (show r = (⟨hs.map ML.l, wsT.map ML.l⟩, false, 0) from HRt.out.trans (if_pos hcy))
            clear hcy
            refine startE (fun _ => false) (by kernel_rfl) ?_
            refine' takeE (i := 0) (v := _) rfl (by kernel_rfl) (by kernel_rfl) (by kernel_rfl) (by kernel_rfl) (fun _ _ _ h => h) (by rfl) (Below.refl _ _) ?_ ?_; rotate_left
            · (intro V hSV; obtain ⟨x0, x1, x2, x3, x4⟩ := HXt.out V (below_undrew hSV); go_simp; all_goals (with_reducible rfl))
            (try simp only [Act.put, List.setIfInBounds_toArray, List.set_cons_zero, List.set_cons_succ])
            refine' takeE (i := 2) (v := _) rfl (by kernel_rfl) (by kernel_rfl) (by kernel_rfl) (by kernel_rfl) (fun _ _ _ h => h) (by rfl) (Below.refl _ _) ?_ ?_; rotate_left
            · (intro V hSV; obtain ⟨x0, x1, x2, x3, x4⟩ := HXt.out V (below_undrew hSV); go_simp; all_goals (with_reducible rfl))
            (try simp only [Act.put, List.setIfInBounds_toArray, List.set_cons_zero, List.set_cons_succ])
            refine' takeE (i := 3) (v := _) rfl (by kernel_rfl) (by kernel_rfl) (by kernel_rfl) (by kernel_rfl) (fun _ _ _ h => h) (by rfl) (Below.refl _ _) ?_ ?_; rotate_left
            · (intro V hSV; obtain ⟨x0, x1, x2, x3, x4⟩ := HXt.out V (below_undrew hSV); go_simp; all_goals (with_reducible rfl))
            (try simp only [Act.put, List.setIfInBounds_toArray, List.set_cons_zero, List.set_cons_succ])
            refine callE (i := 1) rfl (by kernel_rfl) (fun K hK => ?_)
            go_simp
            refine HEd.out.mono ?_
            rintro e w7 ⟨v7, rfl, ho7, hb7⟩
            obtain ⟨ea, en, ec, rfl⟩ := ho7.any3
            have hen := ho7.len.1
            have HCy := hide (pcycleN_any ea en ec _ x.l.tx w7 ⟨ho7.is, HEu.out⟩ (by have := HEl.out; omega) HU.out)
            refine hK.out _ _ (fun _ => hb7) ?_
            clear hK K ho7 hen
            (try simp only [Act.put, List.setIfInBounds_toArray, List.set_cons_zero, List.set_cons_succ])
            refine callE (i := 4) rfl (by kernel_rfl) (fun K hK => ?_)
            go_simp
            refine HCy.out.mono ?_
            rintro e w8 ⟨v8, rfl, ho8, hb8, -⟩
            obtain ⟨ca, cn, cc, rfl⟩ := ho8.any3
            have hcn := ho8.len.1
            have hb78 := hb7.trans (hb8.mono hb7.size)
            have HB8 := hide (below_undrew hb78)
            have hcz : cn = 0 := by rw [← hcn, HCn.out]; rfl
            subst hcz
            refine hK.out _ _ (fun _ => hb78) ?_
            clear hK K ho8 hcn
            (try simp only [Act.put, List.setIfInBounds_toArray, List.set_cons_zero, List.set_cons_succ])
            refine callE (i := 5) rfl (by kernel_rfl) (fun K hK => ?_)
            go_simp
            refine hK.out _ _ (fun _ => hb78) ?_
            clear hK K
            (try simp only [Act.put, List.setIfInBounds_toArray, List.set_cons_zero, List.set_cons_succ])
            refine callE (i := 6) rfl (by kernel_rfl) (fun K hK => ?_)
            go_simp
            refine hK.out _ _ (fun _ => hb78) ?_
            clear hK K
            (try simp only [Act.put, List.setIfInBounds_toArray, List.set_cons_zero, List.set_cons_succ])
            refine doneE (by kernel_rfl) ?_ _
            clear hb7 hb8 hb78

            go_wp2
            go_ret2
            exact ⟨by rw [HR2.out]; rfl, hs, wsT, by rw [HR2.out], by rw [HR2.out], TPost.then HKt.out HAt.out HBt.out (tpost_keep HIt.out HB8.out)⟩
          · have HCn := hide hcy
            have HR2 := hide (show r = (⟨hs.map ML.l, (wsT.map ML.l).filter (fun w => w.tx != x.l.tx)⟩, false, 131) from HRt.out.trans (if_neg hcy))
            clear hcy
            refine startE (fun _ => false) (by kernel_rfl) ?_
            refine' takeE (i := 0) (v := _) rfl (by kernel_rfl) (by kernel_rfl) (by kernel_rfl) (by kernel_rfl) (fun _ _ _ h => h) (by rfl) (Below.refl _ _) ?_ ?_; rotate_left
            · (intro V hSV; obtain ⟨x0, x1, x2, x3, x4⟩ := HXt.out V (below_undrew hSV); go_simp; all_goals (with_reducible rfl))
            (try simp only [Act.put, List.setIfInBounds_toArray, List.set_cons_zero, List.set_cons_succ])
            refine' takeE (i := 2) (v := _) rfl (by kernel_rfl) (by kernel_rfl) (by kernel_rfl) (by kernel_rfl) (fun _ _ _ h => h) (by rfl) (Below.refl _ _) ?_ ?_; rotate_left
            · (intro V hSV; obtain ⟨x0, x1, x2, x3, x4⟩ := HXt.out V (below_undrew hSV); go_simp; all_goals (with_reducible rfl))
            (try simp only [Act.put, List.setIfInBounds_toArray, List.set_cons_zero, List.set_cons_succ])
            refine' takeE (i := 3) (v := _) rfl (by kernel_rfl) (by kernel_rfl) (by kernel_rfl) (by kernel_rfl) (fun _ _ _ h => h) (by rfl) (Below.refl _ _) ?_ ?_; rotate_left
            · (intro V hSV; obtain ⟨x0, x1, x2, x3, x4⟩ := HXt.out V (below_undrew hSV); go_simp; all_goals (with_reducible rfl))
            (try simp only [Act.put, List.setIfInBounds_toArray, List.set_cons_zero, List.set_cons_succ])
            refine callE (i := 1) rfl (by kernel_rfl) (fun K hK => ?_)
            go_simp
            refine HEd.out.mono ?_
            rintro e w7 ⟨v7, rfl, ho7, hb7⟩
            obtain ⟨ea, en, ec, rfl⟩ := ho7.any3
            have hen := ho7.len.1
            have HCy := hide (pcycleN_any ea en ec _ x.l.tx w7 ⟨ho7.is, HEu.out⟩ (by have := HEl.out; omega) HU.out)
            refine hK.out _ _ (fun _ => hb7) ?_
            clear hK K ho7 hen
            (try simp only [Act.put, List.setIfInBounds_toArray, List.set_cons_zero, List.set_cons_succ])
            refine callE (i := 4) rfl (by kernel_rfl) (fun K hK => ?_)
            go_simp
            refine HCy.out.mono ?_
            rintro e w8 ⟨v8, rfl, ho8, hb8, -⟩
            obtain ⟨ca, cn, cc, rfl⟩ := ho8.any3
            have hcn := ho8.len.1
            have hb78 := hb7.trans (hb8.mono hb7.size)
            have HB8 := hide (below_undrew hb78)
            have hcz : 0 < cn := by
              rw [← hcn]
              exact List.length_pos_iff.2 HCn.out
            have hcm : (cn : Int) ≤ 9223372036854775807 := by have := ho8.len.2; unfold maxLen at this; omega
            have hczI : (0 : Int) < (cn : Int) := by omega
            refine hK.out _ _ (fun _ => hb78) ?_
            clear hK K ho8 hcn
            (try simp only [Act.put, List.setIfInBounds_toArray, List.set_cons_zero, List.set_cons_succ])
            refine callE (i := 5) rfl (by kernel_rfl) (fun K hK => ?_)
            go_simp
            refine hK.out _ _ (fun _ => hb78) ?_
            clear hK K
            (try simp only [Act.put, List.setIfInBounds_toArray, List.set_cons_zero, List.set_cons_succ])
            refine callE (i := 6) rfl (by kernel_rfl) (fun K hK => ?_)
            go_simp
            refine hK.out _ _ (fun _ => hb78) ?_
            clear hK K
            (try simp only [Act.put, List.setIfInBounds_toArray, List.set_cons_zero, List.set_cons_succ])
            refine doneE (by kernel_rfl) ?_ _
            clear hb7 hb8 hb78

            obtain ⟨x0, x1, x2, x3, x4⟩ := HXt.out w8 HB8.out
            have HLv := hide (pleave_any (HIt.out.keep HB8.out) x.l.tx)
            go_wp2_with (first
              | (go_at_call 119; go_must (refine HLv.out.mono ?_); rintro e w9 ⟨rfl, hp9⟩; have HP9 := hide hp9; clear hp9))
            go_ret2
            exact ⟨by rw [HR2.out]; rfl, hs, wsT.filter (fun m => m.l.tx != x.l.tx), by rw [HR2.out], by rw [HR2.out]; exact filterM _ _, TPost.then HKt.out HAt.out HBt.out (TPost.ahead HB8.out HP9.out)⟩
        · have hkb : ((k : Int) == (wn : Int)) = false := by simp; omega
          have hkl : k < (⟨hs.map ML.l, ws.map ML.l⟩ : Tab).wait.length := by show k < (ws.map ML.l).length; rw [List.length_map]; have := HK1.out; have := HL2.out; omega
          have HRt : Hid (r = if cycleW (edgesL (hs.map ML.l) (ws.map ML.l)) x.l.tx = [] then (⟨hs.map ML.l, ws.map ML.l⟩, false, 0) else (⟨hs.map ML.l, (ws.map ML.l).filter (fun w => w.tx != x.l.tx)⟩, false, 131)) := HR.out.symm.trans (ask_old HNn.out HBd.out HCc.out HPk.out hkl HWne.out)
          have HIt := hide (HI.out.keep HB15.out)
          have HKt := hide (Below.keeps (HB.out.trans (HB15.out.mono (by omega))) (Xt p (.slice ha hn hc) (.slice wa wn wc)))
          have HAt : Hid (AtB w (.slice ha hn hc) (.slice ha hn hc)) := .inl rfl
          have HBt : Hid (AtB w (.slice wa wn wc) (.slice wa wn wc)) := .inl rfl
          have HXt := hide (fun V (hV : Below w5.heap.size w5 V) => HX.out V (HB15.out.trans (hV.mono HB15.out.size)))
          have HWl : Hid (ws.length ≤ 161) := by show _ ≤ _; omega
          have HNo := HN0
          have HUt := HUs
          clear hkl hkw x0 x1 x2 x3 x4
          go_upto_region 11 with fail
          obtain ⟨ga, gn, gc, ia, iin, ic, eh, ew, hTt⟩ := HIt.out.read
          have HEd := hide (pedges_any w5.drew p ga gn gc ia iin ic hs ws (hTt.keep (Below.refl _ w5).drew) (by have := hTt.h.1; omega) (by have := hTt.wt.1; have := HWl.out; omega) HNo.out)
          have HEu := hide (edges_U64 HUt.out)
          have HEl : Hid ((edgesL (hs.map ML.l) (ws.map ML.l)).length ≤ 100000) := by
            show _ ≤ _
            have h1 := edN_len hs ws HNo.out ws.length (Nat.le_refl _)
            rw [edK_all] at h1
            have h2 : ws.length * (hs.length + ws.length) ≤ 161 * 561 := Nat.mul_le_mul HWl.out (by have := HWl.out; omega)
            omega
          clear hTt eh ew
          by_cases hcy : cycleW (edgesL (hs.map ML.l) (ws.map ML.l)) x.l.tx = []
          · have HCn := hide hcy
            have HR2 := hide (show r = (⟨hs.map ML.l, ws.map ML.l⟩, false, 0) from HRt.out.trans (if_pos hcy))
            clear hcy
            refine startE (fun _ => false) (by kernel_rfl) ?_
            refine' takeE (i := 0) (v := _) rfl (by kernel_rfl) (by kernel_rfl) (by kernel_rfl) (by kernel_rfl) (fun _ _ _ h => h) (by rfl) (Below.refl _ _) ?_ ?_; rotate_left
            · (intro V hSV; obtain ⟨x0, x1, x2, x3, x4⟩ := HXt.out V (below_undrew hSV); go_simp; all_goals (with_reducible rfl))
            (try simp only [Act.put, List.setIfInBounds_toArray, List.set_cons_zero, List.set_cons_succ])
            refine' takeE (i := 2) (v := _) rfl (by kernel_rfl) (by kernel_rfl) (by kernel_rfl) (by kernel_rfl) (fun _ _ _ h => h) (by rfl) (Below.refl _ _) ?_ ?_; rotate_left
            · (intro V hSV; obtain ⟨x0, x1, x2, x3, x4⟩ := HXt.out V (below_undrew hSV); go_simp; all_goals (with_reducible rfl))
            (try simp only [Act.put, List.setIfInBounds_toArray, List.set_cons_zero, List.set_cons_succ])
            refine' takeE (i := 3) (v := _) rfl (by kernel_rfl) (by kernel_rfl) (by kernel_rfl) (by kernel_rfl) (fun _ _ _ h => h) (by rfl) (Below.refl _ _) ?_ ?_; rotate_left
            · (intro V hSV; obtain ⟨x0, x1, x2, x3, x4⟩ := HXt.out V (below_undrew hSV); go_simp; all_goals (with_reducible rfl))
            (try simp only [Act.put, List.setIfInBounds_toArray, List.set_cons_zero, List.set_cons_succ])
            refine callE (i := 1) rfl (by kernel_rfl) (fun K hK => ?_)
            go_simp
            refine HEd.out.mono ?_
            rintro e w7 ⟨v7, rfl, ho7, hb7⟩
            obtain ⟨ea, en, ec, rfl⟩ := ho7.any3
            have hen := ho7.len.1
            have HCy := hide (pcycleN_any ea en ec _ x.l.tx w7 ⟨ho7.is, HEu.out⟩ (by have := HEl.out; omega) HU.out)
            refine hK.out _ _ (fun _ => hb7) ?_
            clear hK K ho7 hen
            (try simp only [Act.put, List.setIfInBounds_toArray, List.set_cons_zero, List.set_cons_succ])
            refine callE (i := 4) rfl (by kernel_rfl) (fun K hK => ?_)
            go_simp
            refine HCy.out.mono ?_
            rintro e w8 ⟨v8, rfl, ho8, hb8, -⟩
            obtain ⟨ca, cn, cc, rfl⟩ := ho8.any3
            have hcn := ho8.len.1
            have hb78 := hb7.trans (hb8.mono hb7.size)
            have HB8 := hide (below_undrew hb78)
            have hcz : cn = 0 := by rw [← hcn, HCn.out]; rfl
            subst hcz
            refine hK.out _ _ (fun _ => hb78) ?_
            clear hK K ho8 hcn
            (try simp only [Act.put, List.setIfInBounds_toArray, List.set_cons_zero, List.set_cons_succ])
            refine callE (i := 5) rfl (by kernel_rfl) (fun K hK => ?_)
            go_simp
            refine hK.out _ _ (fun _ => hb78) ?_
            clear hK K
            (try simp only [Act.put, List.setIfInBounds_toArray, List.set_cons_zero, List.set_cons_succ])
            refine callE (i := 6) rfl (by kernel_rfl) (fun K hK => ?_)
            go_simp
            refine hK.out _ _ (fun _ => hb78) ?_
            clear hK K
            (try simp only [Act.put, List.setIfInBounds_toArray, List.set_cons_zero, List.set_cons_succ])
            refine doneE (by kernel_rfl) ?_ _
            clear hb7 hb8 hb78

            go_wp2
            go_ret2
            exact ⟨by rw [HR2.out]; rfl, hs, ws, by rw [HR2.out], by rw [HR2.out], TPost.then HKt.out HAt.out HBt.out (tpost_keep HIt.out HB8.out)⟩
          · have HCn := hide hcy
            have HR2 := hide (show r = (⟨hs.map ML.l, (ws.map ML.l).filter (fun w => w.tx != x.l.tx)⟩, false, 131) from HRt.out.trans (if_neg hcy))
            clear hcy
            refine startE (fun _ => false) (by kernel_rfl) ?_
            refine' takeE (i := 0) (v := _) rfl (by kernel_rfl) (by kernel_rfl) (by kernel_rfl) (by kernel_rfl) (fun _ _ _ h => h) (by rfl) (Below.refl _ _) ?_ ?_; rotate_left
            · (intro V hSV; obtain ⟨x0, x1, x2, x3, x4⟩ := HXt.out V (below_undrew hSV); go_simp; all_goals (with_reducible rfl))
            (try simp only [Act.put, List.setIfInBounds_toArray, List.set_cons_zero, List.set_cons_succ])
            refine' takeE (i := 2) (v := _) rfl (by kernel_rfl) (by kernel_rfl) (by kernel_rfl) (by kernel_rfl) (fun _ _ _ h => h) (by rfl) (Below.refl _ _) ?_ ?_; rotate_left
            · (intro V hSV; obtain ⟨x0, x1, x2, x3, x4⟩ := HXt.out V (below_undrew hSV); go_simp; all_goals (with_reducible rfl))
            (try simp only [Act.put, List.setIfInBounds_toArray, List.set_cons_zero, List.set_cons_succ])
            refine' takeE (i := 3) (v := _) rfl (by kernel_rfl) (by kernel_rfl) (by kernel_rfl) (by kernel_rfl) (fun _ _ _ h => h) (by rfl) (Below.refl _ _) ?_ ?_; rotate_left
            · (intro V hSV; obtain ⟨x0, x1, x2, x3, x4⟩ := HXt.out V (below_undrew hSV); go_simp; all_goals (with_reducible rfl))
            (try simp only [Act.put, List.setIfInBounds_toArray, List.set_cons_zero, List.set_cons_succ])
            refine callE (i := 1) rfl (by kernel_rfl) (fun K hK => ?_)
            go_simp
            refine HEd.out.mono ?_
            rintro e w7 ⟨v7, rfl, ho7, hb7⟩
            obtain ⟨ea, en, ec, rfl⟩ := ho7.any3
            have hen := ho7.len.1
            have HCy := hide (pcycleN_any ea en ec _ x.l.tx w7 ⟨ho7.is, HEu.out⟩ (by have := HEl.out; omega) HU.out)
            refine hK.out _ _ (fun _ => hb7) ?_
            clear hK K ho7 hen
            (try simp only [Act.put, List.setIfInBounds_toArray, List.set_cons_zero, List.set_cons_succ])
            refine callE (i := 4) rfl (by kernel_rfl) (fun K hK => ?_)
            go_simp
            refine HCy.out.mono ?_
            rintro e w8 ⟨v8, rfl, ho8, hb8, -⟩
            obtain ⟨ca, cn, cc, rfl⟩ := ho8.any3
            have hcn := ho8.len.1
            have hb78 := hb7.trans (hb8.mono hb7.size)
            have HB8 := hide (below_undrew hb78)
            have hcz : 0 < cn := by
              rw [← hcn]
              exact List.length_pos_iff.2 HCn.out
            have hcm : (cn : Int) ≤ 9223372036854775807 := by have := ho8.len.2; unfold maxLen at this; omega
            have hczI : (0 : Int) < (cn : Int) := by omega
            refine hK.out _ _ (fun _ => hb78) ?_
            clear hK K ho8 hcn
            (try simp only [Act.put, List.setIfInBounds_toArray, List.set_cons_zero, List.set_cons_succ])
            refine callE (i := 5) rfl (by kernel_rfl) (fun K hK => ?_)
            go_simp
            refine hK.out _ _ (fun _ => hb78) ?_
            clear hK K
            (try simp only [Act.put, List.setIfInBounds_toArray, List.set_cons_zero, List.set_cons_succ])
            refine callE (i := 6) rfl (by kernel_rfl) (fun K hK => ?_)
            go_simp
            refine hK.out _ _ (fun _ => hb78) ?_
            clear hK K
            (try simp only [Act.put, List.setIfInBounds_toArray, List.set_cons_zero, List.set_cons_succ])
            refine doneE (by kernel_rfl) ?_ _
            clear hb7 hb8 hb78

            obtain ⟨x0, x1, x2, x3, x4⟩ := HXt.out w8 HB8.out
            have HLv := hide (pleave_any (HIt.out.keep HB8.out) x.l.tx)
            go_wp2_with (first
              | (go_at_call 119; go_must (refine HLv.out.mono ?_); rintro e w9 ⟨rfl, hp9⟩; have HP9 := hide hp9; clear hp9))
            go_ret2
            exact ⟨by rw [HR2.out]; rfl, hs, ws.filter (fun m => m.l.tx != x.l.tx), by rw [HR2.out], by rw [HR2.out]; exact filterM _ _, TPost.then HKt.out HAt.out HBt.out (TPost.ahead HB8.out HP9.out)⟩


end Go.Proofs.YtcgiicmmfleinaaGreatDoor
