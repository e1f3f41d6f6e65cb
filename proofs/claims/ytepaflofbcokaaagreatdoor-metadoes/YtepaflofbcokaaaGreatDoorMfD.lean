/- The program's machine: copyOf: a result that shares no memory with what was there. The program's machine: which tables may be: isPlace, the closures, ContainsFunc over columns and tables. The program's machine: which tables may be: colsMayBe, indexesMayBe, mayBe, named. The program's machine: which tables may be: indexesMayBe, mayBe, named. -/
import Derived.Test.YtepaflofbcokaaaGreatDoorMfC
import Derived.Test.YtepaflofbcokaaaGreatDoorMfB
import Derived.Test.YtepaflofbcokaaaGreatDoorSgA
namespace Go.Proofs.YtepaflofbcokaaaGreatDoor
open Go.RowKit NumMath Go.ChangeShapes Go.WideShapes Go.Deep
set_option linter.unusedVariables false
set_option maxRecDepth 100000

theorem Box7.same {V W : World} {b : Nat} {m : MRes} (h : Box7 V b m) (e : W.heap[b]? = V.heap[b]?) : Box7 W b m :=
  ⟨(World.cell?_of_block (a := ⟨b, 0, none⟩) e).trans h.c0, (World.cell?_of_block (a := ⟨b, 1, none⟩) e).trans h.c1, (World.cell?_of_block (a := ⟨b, 2, none⟩) e).trans h.c2, (World.cell?_of_block (a := ⟨b, 3, none⟩) e).trans h.c3, (World.cell?_of_block (a := ⟨b, 4, none⟩) e).trans h.c4, (World.cell?_of_block (a := ⟨b, 5, none⟩) e).trans h.c5, (World.cell?_of_block (a := ⟨b, 6, none⟩) e).trans h.c6⟩

theorem box7_new (w : World) (m : MRes) (ty : TypeId) : Box7 (w.alloc (.cells #[.int .i64 m.er, .int .u64 m.tx, .int .u64 m.ts, .bool m.fl, .slice m.sa m.sn m.sc, .slice none 0 0, .slice m.ta m.tn m.tc] ty)) w.heap.size m := by
  have hr := rangeY_new w w.heap.size #[.int .i64 m.er, .int .u64 m.tx, .int .u64 m.ts, .bool m.fl, .slice m.sa m.sn m.sc, .slice none 0 0, .slice m.ta m.tn m.tc] ty rfl
  have q : ∀ (j : Nat) (v : Value), #[Value.int .i64 m.er, .int .u64 m.tx, .int .u64 m.ts, .bool m.fl, .slice m.sa m.sn m.sc, .slice none 0 0, .slice m.ta m.tn m.tc].toList[j]? = some v → (w.alloc (.cells #[.int .i64 m.er, .int .u64 m.tx, .int .u64 m.ts, .bool m.fl, .slice m.sa m.sn m.sc, .slice none 0 0, .slice m.ta m.tn m.tc] ty)).cell? ⟨w.heap.size, j, none⟩ = some v := fun j v hv => by
    have := hr j v hv
    rwa [Nat.zero_add] at this
  exact ⟨q 0 _ rfl, q 1 _ rfl, q 2 _ rfl, q 3 _ rfl, q 4 _ rfl, q 5 _ rfl, q 6 _ rfl⟩

theorem Box7.setS {V : World} {b : Nat} {m : MRes} (h : Box7 V b m) (a : Option Addr) (n c : Nat) (ss : List Sta) : Box7 (V.setCell ⟨b, 4, none⟩ (.slice a n c)) b { m with sa := a, sn := n, sc := c, ss := ss } :=
  ⟨(cell_offY (by decide)).trans h.c0, (cell_offY (by decide)).trans h.c1, (cell_offY (by decide)).trans h.c2, (cell_offY (by decide)).trans h.c3, World.cell?_setCell_same' _ _ _ (by rw [h.c4]; rfl), (cell_offY (by decide)).trans h.c5, (cell_offY (by decide)).trans h.c6⟩

theorem Box7.setT {V : World} {b : Nat} {m : MRes} (h : Box7 V b m) (a : Option Addr) (n c : Nat) (ts : List MTb) : Box7 (V.setCell ⟨b, 6, none⟩ (.slice a n c)) b { m with ta := a, tn := n, tc := c, tbs := ts } :=
  ⟨(cell_offY (by decide)).trans h.c0, (cell_offY (by decide)).trans h.c1, (cell_offY (by decide)).trans h.c2, (cell_offY (by decide)).trans h.c3, (cell_offY (by decide)).trans h.c4, (cell_offY (by decide)).trans h.c5, World.cell?_setCell_same' _ _ _ (by rw [h.c6]; rfl)⟩

open Classical in
theorem foot_all {α : Type} {X : Nat → Prop} {w : World} {P : α → World → Prop} : ∀ {l : List α}, (∀ x ∈ l, Foot X w (P x)) → Foot X w (fun V => ∀ x ∈ l, P x V)
  | [], _ => foot_pure (fun V => by simp)
  | x :: r, h => ((h x (List.mem_cons_self ..)).and (foot_all (l := r) (fun y hy => h y (List.mem_cons_of_mem _ hy)))).imp (fun V hV y hy => by
    rcases List.mem_cons.1 hy with h1 | h1
    · rw [h1]; exact hV.1
    · exact hV.2 y h1)

/-- a copy of a result: its lists lie in new blocks -/
def CopyR (w : World) (x : MRes) (e : Ending) (w' : World) : Prop :=
  ∃ y : MRes, e = .returned y.v ∧ y.r = x.r ∧ Foot (fun k => k < w.heap.size) w' (fun V => y.ok V) ∧ Below w.heap.size w w'

theorem few_mem {x : MRes} (h : x.r.Few) {w : World} (hk : x.ok w) : x.sn ≤ 1000000 ∧ x.tn ≤ 1000000 ∧ ∀ m ∈ x.tbs, m.cs.n ≤ 1000000 ∧ m.ix.n ≤ 1000000 := by
  have h1 := h.ss
  have h2 := h.tbs
  have e1 : x.r.ss.length = x.sn := hk.s.1
  have e2 : x.r.tbs.length = x.tn := by show (x.tbs.map MTb.t).length = _; rw [List.length_map]; exact hk.t.1
  refine ⟨by omega, by omega, fun m hm => ?_⟩
  have h3 := h.tl m.t (List.mem_map.2 ⟨m, hm, rfl⟩)
  have e3 : m.t.cs.length = m.cs.n := (hk.k m hm).cs.1
  have e4 : m.t.ix.length = m.ix.n := (hk.k m hm).ix.1
  omega

set_option maxHeartbeats 4000000 in
theorem pcopyR_any (x : MRes) (w : World) (h : x.ok w) (hf : x.r.Few) : Calls Tryz.prog 26 #[x.v] w fun e w' => CopyR w x e w' := by
  change Calls Tryz.prog 26 #[.agg #[.int .i64 x.er, .int .u64 x.tx, .int .u64 x.ts, .bool x.fl, .slice x.sa x.sn x.sc, .slice none 0 0, .slice x.ta x.tn x.tc]] w _
  obtain ⟨l1, l2, l3⟩ := few_mem hf h
  obtain ⟨W0, hW0⟩ : ∃ W0, W0 = w.alloc (.cells #[.int .i64 x.er, .int .u64 x.tx, .int .u64 x.ts, .bool x.fl, .slice x.sa x.sn x.sc, .slice none 0 0, .slice x.ta x.tn x.tc] 55) := ⟨_, rfl⟩
  obtain ⟨W1, hW1⟩ : ∃ W1, W1 = W0.alloc (.cells #[.int .i64 0, .int .u64 0, .int .u64 0, .bool false, .slice none 0 0, .slice none 0 0, .slice none 0 0] 55) := ⟨_, rfl⟩
  have hb0 : Below w.heap.size w W0 := by rw [hW0]; exact new_below _ _
  have hb01 : Below W0.heap.size W0 W1 := by rw [hW1]; exact new_below _ _
  have hs0 : W0.heap.size = w.heap.size + 1 := by rw [hW0]; simp
  have hs1 : W1.heap.size = w.heap.size + 2 := by rw [hW1, World.size_alloc, hs0]
  have hX0 : Box7 W0 w.heap.size x := by rw [hW0]; exact box7_new w x _
  have hf0 : ∀ j, W0.frozen? ⟨w.heap.size, j, none⟩ = false := by rw [hW0]; exact fzY_new _ _ _
  have HX1 := hide (hX0.same (hb01.block w.heap.size (by omega)))
  have Hf1 : Hid (∀ j, W1.frozen? ⟨w.heap.size, j, none⟩ = false) := fun j => (World.frozen?_of_block (a := ⟨w.heap.size, j, none⟩) (hb01.block w.heap.size (by omega))).trans (hf0 j)
  have hZ1 : Zero7 W1 W0.heap.size := by rw [hW1]; exact zero7_new W0 _
  rw [hs0] at hZ1
  have HZ1 := hide hZ1
  have HS1 := hide hs1
  have HB1 := hide (hb0.trans (hb01.mono hb0.size))
  have HC1 := hide (cloneSt_any x.sa x.sn x.sc x.ss W1 (h.s.keep HB1.out) l1)
  have HC2 := hide (fun V (hV : Below w.heap.size w V) => pcopiesT_any x.ta x.tn x.tc x.tbs V (h.t.keep hV) l2 (fun m hm => (h.k m hm).keep hV) l3)
  obtain ⟨x0, x1, x2, x3, x4, x5, x6⟩ := HX1.out
  have f4 := Hf1.out 4
  rw [hW0] at hW1
  clear h hf hb0 hb01 hs0 hs1 hX0 hf0 hZ1 hW0
  go_enter Tryz.func26, Tryz.ntmps26
  go_upto_region 1 with fail
  rw [← hW1]
  clear hW1
  go_upto_region 2 with (first
    | (go_at_call 74; go_must (refine HC1.out.mono ?_); rintro e w2 ⟨v2, rfl, ho2, hb2⟩; obtain ⟨a2, n2, c2, rfl⟩ := ho2.any3; have hbk := hb2.block w.heap.size (by have := HS1.out; omega); have x4' := (World.cell?_of_block (a := ⟨w.heap.size, 4, none⟩) hbk).trans HX1.out.c4; have f4' := (World.frozen?_of_block (a := ⟨w.heap.size, 4, none⟩) hbk).trans (Hf1.out 4); have HO2 := hide ho2; have HB2 := hide hb2; clear ho2 hb2 hbk))
  have hl2 : w.heap.size + 2 ≤ w2.heap.size := by have := HB2.out.size; have := HS1.out; omega
  have HX2 := hide ((HX1.out.same (HB2.out.block w.heap.size (by have := HS1.out; omega))).setS a2 n2 c2 x.ss)
  have Hf2 : Hid (∀ j, (w2.setCell ⟨w.heap.size, 4, none⟩ (.slice a2 n2 c2)).frozen? ⟨w.heap.size, j, none⟩ = false) := fun j => by
    rw [World.frozen?_setCell]
    exact (World.frozen?_of_block (a := ⟨w.heap.size, j, none⟩) (HB2.out.block w.heap.size (by have := HS1.out; omega))).trans (Hf1.out j)
  have HZ2 := hide ((HZ1.out.same (HB2.out.block (w.heap.size + 1) (by have := HS1.out; omega))).set (p := w.heap.size) (i := 4) (v := .slice a2 n2 c2) (by omega))
  have hk3 := keepsY_cell (w := w2) (g := w.heap.size) (i := 4) (.slice a2 n2 c2)
  have HB3 := hide (kp_below (kpThen (kpBelow (Below.keeps HB1.out (fun k => w.heap.size ≤ k)) HB2.out) (fun k (e : k = w.heap.size) => .inl (by omega)) hk3))
  have HF2 : Hid (Foot (fun k => k < w.heap.size + 2) (w2.setCell ⟨w.heap.size, 4, none⟩ (.slice a2 n2 c2)) (fun V => IsY laySt V a2 n2 c2 x.ss)) := (foot_ownY HO2.out (fun k (hk : k < w.heap.size + 2) => by rw [HS1.out]; exact hk)).step (Keeps.wider hk3 (fun k hk => by rw [hk]; omega)) (fun k hk => .inl hk)
  obtain ⟨W3, hW3⟩ : ∃ W3, W3 = w2.setCell ⟨w.heap.size, 4, none⟩ (.slice a2 n2 c2) := ⟨_, rfl⟩
  have hs3 : W3.heap.size = w2.heap.size := by rw [hW3]; simp [World.setCell]
  rw [← hW3] at HX2 Hf2 HZ2 HB3 HF2
  rw [← hW3]
  clear hW3 hk3 x0 x1 x2 x3 x4 x5 x6 f4 x4' f4'
  obtain ⟨x0, x1, x2, x3, x4, x5, x6⟩ := HX2.out
  have HC3 := hide (HC2.out W3 HB3.out)
  go_upto_region 3 with (first
    | (go_at_call 73; go_must (refine HC3.out.mono ?_); rintro e w4 ⟨a4, n4, c4, ys, rfl, ho4, hm4, hf4, hb4⟩; have hbk := hb4.block w.heap.size (by omega); have x6' := (World.cell?_of_block (a := ⟨w.heap.size, 6, none⟩) hbk).trans HX2.out.c6; have f6' := (World.frozen?_of_block (a := ⟨w.heap.size, 6, none⟩) hbk).trans (Hf2.out 6); have HO4 := hide ho4; have HB4 := hide hb4; have HM4 := hide hm4; have HF4 := hide hf4; clear ho4 hb4 hbk hm4 hf4))
  have HX4 := hide ((HX2.out.same (HB4.out.block w.heap.size (by omega))).setT a4 n4 c4 ys)
  have HZ4 := hide ((HZ2.out.same (HB4.out.block (w.heap.size + 1) (by omega))).set (p := w.heap.size) (i := 6) (v := .slice a4 n4 c4) (by omega))
  have hk5 := keepsY_cell (w := w4) (g := w.heap.size) (i := 6) (.slice a4 n4 c4)
  have HB5 := hide (kp_below (kpThen (kpBelow (Below.keeps HB3.out (fun k => w.heap.size ≤ k)) HB4.out) (fun k (e : k = w.heap.size) => .inl (by omega)) hk5))
  have hk5' : Keeps (fun k => k < w.heap.size + 2) w4 (w4.setCell ⟨w.heap.size, 6, none⟩ (.slice a4 n4 c4)) := Keeps.wider hk5 (fun k hk => by rw [hk]; omega)
  have HF5 : Hid (Foot (fun k => k < w.heap.size + 2) (w4.setCell ⟨w.heap.size, 6, none⟩ (.slice a4 n4 c4)) (fun V => IsY laySt V a2 n2 c2 x.ss)) := (HF2.out.keep HB4.out).step hk5' (fun k hk => .inl hk)
  have HT5 : Hid (Foot (fun k => k < w.heap.size + 2) (w4.setCell ⟨w.heap.size, 6, none⟩ (.slice a4 n4 c4)) (fun V => IsY layTb V a4 n4 c4 ys)) := (foot_ownY HO4.out (fun k (hk : k < w.heap.size + 2) => by omega)).step hk5' (fun k hk => .inl hk)
  have HM5 : Hid (∀ y ∈ ys, Foot (fun k => k < w.heap.size + 2) (w4.setCell ⟨w.heap.size, 6, none⟩ (.slice a4 n4 c4)) (fun V => y.ok V)) := fun y hy => (((HF4.out y hy).more (Y := fun k => k < w.heap.size + 2) (fun k hk => .inl (by omega))).step hk5' (fun k hk => .inl hk))
  obtain ⟨W5, hW5⟩ : ∃ W5, W5 = w4.setCell ⟨w.heap.size, 6, none⟩ (.slice a4 n4 c4) := ⟨_, rfl⟩
  rw [← hW5] at HX4 HZ4 HB5 HF5 HT5 HM5
  rw [← hW5]
  clear hW5 hk5 hk5' x0 x1 x2 x3 x4 x5 x6 x6' f6'
  obtain ⟨y, hy⟩ : ∃ y : MRes, y = { { x with sa := a2, sn := n2, sc := c2 } with ta := a4, tn := n4, tc := c4, tbs := ys } := ⟨_, rfl⟩
  have hX4 : Box7 W5 w.heap.size y := by rw [hy]; exact HX4.out
  have hyr : y.r = x.r := by rw [hy]; show (⟨x.er, x.tx, x.ts, x.fl, x.ss, ys.map MTb.t⟩ : Res) = ⟨x.er, x.tx, x.ts, x.fl, x.ss, x.tbs.map MTb.t⟩; rw [HM4.out]
  have hyf : Foot (fun k => k < w.heap.size + 2) W5 (fun V => y.ok V) := by
    have h1 : Foot (fun k => k < w.heap.size + 2) W5 (fun V => ∀ m ∈ ys, m.ok V) := foot_all HM5.out
    rw [hy]
    exact ((HF5.out.and HT5.out).and h1).imp (fun V hV => ⟨hV.1.1, hV.1.2, hV.2⟩)
  have HYr := hide hyr
  have HYf := hide hyf
  obtain ⟨x0, x1, x2, x3, x4, x5, x6⟩ := hX4
  obtain ⟨z0, z1, z2, z3, z4, z5, z6, zf⟩ := HZ4.out
  have g0 := zf 0
  have g1 := zf 1
  have g2 := zf 2
  have g3 := zf 3
  have g4 := zf 4
  have g5 := zf 5
  have g6 := zf 6
  clear zf hy hyr hyf
  go_wp2
  change bodyPost _ _ _ _ _ (ResAt W5 (w.heap.size + 1) y)
  have hk6 : Keeps (fun k => k = w.heap.size + 1) W5 (ResAt W5 (w.heap.size + 1) y) := keepsYs _ _ _ _
  have hend : CopyR w x (.returned y.v) (ResAt W5 (w.heap.size + 1) y) := ⟨y, rfl, HYr.out, (HYf.out.step (Keeps.wider hk6 (fun k (e : k = w.heap.size + 1) => by show k < _; omega)) (fun k hk => .inl hk)).more (fun k hk => .inl (by omega)), kp_below (kpThen (Below.keeps HB5.out _) (fun k (e : k = w.heap.size + 1) => .inl (by omega)) hk6)⟩
  obtain ⟨r0, r1, r2, r3, r4, r5, r6⟩ := resAt_box HZ4.out y
  generalize ResAt W5 (w.heap.size + 1) y = W at *
  exact bodyPost_ret (v := y.v) (by simp [results, Tryz.results26, go_sem, MRes.v, r0, r1, r2, r3, r4, r5, r6]) rfl hend

end Go.Proofs.YtepaflofbcokaaaGreatDoor

namespace Go.Proofs.YtepaflofbcokaaaGreatDoor
open Go.RowKit NumMath Go.ChangeShapes Go.WideShapes Go.Deep
set_option linter.unusedVariables false
set_option maxRecDepth 100000

theorem at_ofM {α : Type} {l : List α} {k : Nat} (h : k < l.length) : ∃ m, l[k]? = some m := ⟨_, List.getElem?_eq_getElem h⟩

theorem all_moreQ2 {α : Type} {p : α → Bool} {hs : List α} {k : Nat} {m : α} (h : hs[k]? = some m) : (hs.take (k + 1)).all p = ((hs.take k).all p && p m) := by
  rw [List.take_add_one, h, List.all_append]
  simp

/-- a column's cells in a list -/
theorem at3c_list {w : World} {g off k : Nat} {hs : List Colm} {m : Colm} (hC : CellsY layCo w g off hs) (hm : hs[k]? = some m) : w.cell? ⟨g, off + k * 3, none⟩ = some (.string (strB m.n)) ∧ w.cell? ⟨g, off + k * 3 + 1, none⟩ = some (.int .i64 m.k) ∧ w.cell? ⟨g, off + k * 3 + 2, none⟩ = some (.bool m.nn) :=
  ⟨hC k m hm 0 _ rfl, hC k m hm 1 _ rfl, hC k m hm 2 _ rfl⟩

/-- what IndexFunc answers: the first for which p -/
def IdxQ {α : Type} (p : α → Bool) (hs : List α) (n : Nat) (e : Ending) : Prop :=
  (e = .returned (.int .i64 (-1)) ∧ hs.all (fun m => !p m) = true) ∨
  ∃ k : Nat, k < n ∧ e = .returned (.int .i64 k) ∧ (hs.take k).all (fun m => !p m) = true ∧ ∃ m, hs[k]? = some m ∧ p m = true

theorem idxQ_any {α : Type} {p : α → Bool} {hs : List α} {n : Nat} {e : Ending} (h : IdxQ p hs n e) : ∃ i : Int, e = .returned (.int .i64 i) ∧ decide (0 ≤ i) = hs.any p := by
  rcases h with ⟨rfl, h⟩ | ⟨k, hk, rfl, -, m, hm, hp⟩
  · refine ⟨-1, rfl, ?_⟩
    have : hs.any p = false := by
      rw [List.any_eq_false]
      intro x hx
      have := List.all_eq_true.1 h x hx
      simpa using this
    rw [this]; rfl
  · refine ⟨k, rfl, ?_⟩
    rw [List.any_eq_true.2 ⟨m, List.mem_of_getElem? hm, hp⟩]
    simp

set_option maxHeartbeats 2000000 in
theorem indexCol_any (a : Option Addr) (n c : Nat) (hs : List Colm) (p : Colm → Bool) (B : Nat) (w : World) (h : IsY layCo w a n c hs) (hcl : ∀ W, Below w.heap.size w W → ∀ m ∈ hs, Calls Tryz.prog 154 #[.agg #[.string (strB m.n), .int .i64 m.k, .bool m.nn], .pointer (some ⟨B, 0, none⟩)] W fun e w' => e = .returned (.bool (p m)) ∧ Below W.heap.size W w') :
    Calls Tryz.prog 166 #[.slice a n c, .func (.func 154) #[] #[.pointer (some ⟨B, 0, none⟩)]] w fun e w' => IdxQ p hs n e ∧ Below w.heap.size w w' := by
  have H := hide h
  have HCl := hide hcl
  have hm : (n : Int) ≤ 9223372036854775807 := by have := h.2.1; have := h.2.2.1; unfold maxLen at this; omega
  have HL := hide h.1
  clear h hcl
  go_enter Tryz.func166, Tryz.ntmps166
  go_wp2
  go_loopg [8] n (fun gk i wr => ∃ k : Nat, gk = n - k ∧ i = .int .i64 k ∧ k ≤ n ∧ (hs.take k).all (fun m => !p m) = true ∧ Below w.heap.size w wr)
  case atStart => exact ⟨0, rfl, rfl, Nat.zero_le _, rfl, Below.refl _ _⟩
  case round =>
    obtain ⟨k, rfl, rfl, hk, hA, hB⟩ := hrel
    have HB := hide hB
    have HA := hide hA
    clear hA
    by_cases hlt : k < n
    · have hlt' : (k : Int) < (n : Int) := by omega
      obtain ⟨m, hmk⟩ := at_ofM (l := hs) (k := k) (by have := HL.out; omega)
      obtain ⟨g, off, rfl, hg, hC⟩ := H.out.at hlt
      obtain ⟨d0, d1, d2⟩ := at3c_list (hC.same (hB.block g hg)) hmk
      have HC := hide (HCl.out wr hB m (List.mem_of_getElem? hmk))
      have HMk := hide hmk
      have HMo := hide (all_moreQ2 (p := fun m => !p m) hmk)
      obtain ⟨z, hz⟩ : ∃ z, p m = z := ⟨_, rfl⟩
      rw [hz] at HC HMo
      rw [HA.out] at HMo
      have HZ := hide hz
      clear hC hmk hB hz
      cases z with
      | true =>
        go_wp2_with (first
          | (go_at_call 154; go_must (refine HC.out.mono ?_); rintro e w2 ⟨rfl, hb2⟩; have HB2 := hide hb2; clear hb2))
        go_ret
        exact ⟨.inr ⟨k, hlt, rfl, HA.out, m, HMk.out, HZ.out⟩, HB.out.trans (HB2.out.mono HB.out.size)⟩
      | false =>
        go_wp2_with (first
          | (go_at_call 154; go_must (refine HC.out.mono ?_); rintro e w2 ⟨rfl, hb2⟩; have HB2 := hide hb2; clear hb2))
        go_roundg (n - (k + 1))
        case measure => omega
        case rel => exact ⟨k + 1, rfl, by go_num, by omega, by rw [HMo.out]; rfl, HB.out.trans (HB2.out.mono HB.out.size)⟩
    · obtain rfl : k = n := by omega
      have ek : hs.take k = hs := List.take_of_length_le (by have := HL.out; omega)
      rw [ek] at HA
      clear hB
      go_wp2
      go_ret
      exact ⟨.inl ⟨rfl, HA.out⟩, HB.out⟩

theorem containsCol_any (a : Option Addr) (n c : Nat) (hs : List Colm) (p : Colm → Bool) (B : Nat) (w : World) (h : IsY layCo w a n c hs) (hcl : ∀ W, Below w.heap.size w W → ∀ m ∈ hs, Calls Tryz.prog 154 #[.agg #[.string (strB m.n), .int .i64 m.k, .bool m.nn], .pointer (some ⟨B, 0, none⟩)] W fun e w' => e = .returned (.bool (p m)) ∧ Below W.heap.size W w') :
    Calls Tryz.prog 153 #[.slice a n c, .func (.func 154) #[] #[.pointer (some ⟨B, 0, none⟩)]] w fun e w' => e = .returned (.bool (hs.any p)) ∧ Below w.heap.size w w' := by
  have HI := hide (indexCol_any a n c hs p B w h hcl)
  clear h hcl
  go_enter Tryz.func153, Tryz.ntmps153
  go_wp2_with (first
    | (go_at_call 166; go_must (refine HI.out.mono ?_); rintro e w2 ⟨hi, hb⟩; obtain ⟨i, rfl, hi2⟩ := idxQ_any hi; have HX := hide hi2; have HB := hide hb; clear hi hi2 hb))
  go_ret
  exact ⟨by rw [← HX.out]; rfl, HB.out⟩

set_option maxHeartbeats 2000000 in
theorem indexTab_any (a : Option Addr) (n c : Nat) (hs : List MTb) (p : MTb → Bool) (B : Nat) (w : World) (h : IsY layTb w a n c hs) (hcl : ∀ W, Below w.heap.size w W → ∀ m ∈ hs, Calls Tryz.prog 134 #[.agg #[.int .i64 m.id, .string (strB m.nm), .slice m.cs.a m.cs.n m.cs.c, .int .i64 m.ky, .slice m.ix.a m.ix.n m.ix.c], .pointer (some ⟨B, 0, none⟩)] W fun e w' => e = .returned (.bool (p m)) ∧ Below W.heap.size W w') :
    Calls Tryz.prog 156 #[.slice a n c, .func (.func 134) #[] #[.pointer (some ⟨B, 0, none⟩)]] w fun e w' => IdxQ p hs n e ∧ Below w.heap.size w w' := by
  have H := hide h
  have HCl := hide hcl
  have hm : (n : Int) ≤ 9223372036854775807 := by have := h.2.1; have := h.2.2.1; unfold maxLen at this; omega
  have HL := hide h.1
  clear h hcl
  go_enter Tryz.func156, Tryz.ntmps156
  go_wp2
  go_loopg [8] n (fun gk i wr => ∃ k : Nat, gk = n - k ∧ i = .int .i64 k ∧ k ≤ n ∧ (hs.take k).all (fun m => !p m) = true ∧ Below w.heap.size w wr)
  case atStart => exact ⟨0, rfl, rfl, Nat.zero_le _, rfl, Below.refl _ _⟩
  case round =>
    obtain ⟨k, rfl, rfl, hk, hA, hB⟩ := hrel
    have HB := hide hB
    have HA := hide hA
    clear hA
    by_cases hlt : k < n
    · have hlt' : (k : Int) < (n : Int) := by omega
      obtain ⟨m, hmk⟩ := at_ofM (l := hs) (k := k) (by have := HL.out; omega)
      obtain ⟨g, off, rfl, hg, hC⟩ := H.out.at hlt
      obtain ⟨d0, d1, d2, d3, d4⟩ := at5t_list (hC.same (hB.block g hg)) hmk
      have HC := hide (HCl.out wr hB m (List.mem_of_getElem? hmk))
      have HMk := hide hmk
      have HMo := hide (all_moreQ2 (p := fun m => !p m) hmk)
      obtain ⟨z, hz⟩ : ∃ z, p m = z := ⟨_, rfl⟩
      rw [hz] at HC HMo
      rw [HA.out] at HMo
      have HZ := hide hz
      clear hC hmk hB hz
      cases z with
      | true =>
        go_wp2_with (first
          | (go_at_call 134; go_must (refine HC.out.mono ?_); rintro e w2 ⟨rfl, hb2⟩; have HB2 := hide hb2; clear hb2))
        go_ret
        exact ⟨.inr ⟨k, hlt, rfl, HA.out, m, HMk.out, HZ.out⟩, HB.out.trans (HB2.out.mono HB.out.size)⟩
      | false =>
        go_wp2_with (first
          | (go_at_call 134; go_must (refine HC.out.mono ?_); rintro e w2 ⟨rfl, hb2⟩; have HB2 := hide hb2; clear hb2))
        go_roundg (n - (k + 1))
        case measure => omega
        case rel => exact ⟨k + 1, rfl, by go_num, by omega, by rw [HMo.out]; rfl, HB.out.trans (HB2.out.mono HB.out.size)⟩
    · obtain rfl : k = n := by omega
      have ek : hs.take k = hs := List.take_of_length_le (by have := HL.out; omega)
      rw [ek] at HA
      clear hB
      go_wp2
      go_ret
      exact ⟨.inl ⟨rfl, HA.out⟩, HB.out⟩

theorem containsTab_any (a : Option Addr) (n c : Nat) (hs : List MTb) (p : MTb → Bool) (B : Nat) (w : World) (h : IsY layTb w a n c hs) (hcl : ∀ W, Below w.heap.size w W → ∀ m ∈ hs, Calls Tryz.prog 134 #[.agg #[.int .i64 m.id, .string (strB m.nm), .slice m.cs.a m.cs.n m.cs.c, .int .i64 m.ky, .slice m.ix.a m.ix.n m.ix.c], .pointer (some ⟨B, 0, none⟩)] W fun e w' => e = .returned (.bool (p m)) ∧ Below W.heap.size W w') :
    Calls Tryz.prog 133 #[.slice a n c, .func (.func 134) #[] #[.pointer (some ⟨B, 0, none⟩)]] w fun e w' => e = .returned (.bool (hs.any p)) ∧ Below w.heap.size w w' := by
  have HI := hide (indexTab_any a n c hs p B w h hcl)
  clear h hcl
  go_enter Tryz.func133, Tryz.ntmps133
  go_wp2_with (first
    | (go_at_call 156; go_must (refine HI.out.mono ?_); rintro e w2 ⟨hi, hb⟩; obtain ⟨i, rfl, hi2⟩ := idxQ_any hi; have HX := hide hi2; have HB := hide hb; clear hi hi2 hb))
  go_ret
  exact ⟨by rw [← HX.out]; rfl, HB.out⟩

theorem isPlace_any (k : Int) (ca : Option Addr) (cn cc : Nat) (cs : List Colm) (w : World) (hc : cs.length = cn) (hm : (cn : Int) ≤ 9223372036854775807) : Calls Tryz.prog 131 #[.int .i64 k, .slice ca cn cc] w fun e w' => e = .returned (.bool (placeB k cs)) ∧ w' = w := by
  obtain ⟨zz, hz⟩ : ∃ zz, placeB k cs = zz := ⟨_, rfl⟩
  rw [hz]
  unfold placeB at hz
  rw [hc] at hz
  have HZ := hide hz
  clear hz hc
  by_cases h0 : 0 ≤ k
  · have e0 : decide (0 ≤ k) = true := decide_eq_true h0
    by_cases h1 : k < (cn : Int)
    · have e1 : decide (k < (cn : Int)) = true := decide_eq_true h1
      go_enter Tryz.func131, Tryz.ntmps131
      go_wp2
      go_ret
      exact ⟨by rw [← HZ.out, e0, e1]; rfl, rfl⟩
    · have e1 : decide (k < (cn : Int)) = false := decide_eq_false h1
      go_enter Tryz.func131, Tryz.ntmps131
      go_wp2
      go_ret
      exact ⟨by rw [← HZ.out, e0, e1]; rfl, rfl⟩
  · have e0 : decide (0 ≤ k) = false := decide_eq_false h0
    go_enter Tryz.func131, Tryz.ntmps131
    go_wp2
    go_ret
    exact ⟨by rw [← HZ.out, e0]; rfl, rfl⟩

/-- the closure of colsMayBe: whether its column bears c's name, which lies in box B -/
theorem colC_any (m : Colm) (nm : List Int) (B : Nat) (w : World) (hB : w.cell? ⟨B, 0, none⟩ = some (.string (strB nm))) (hl : B < w.heap.size) :
    Calls Tryz.prog 154 #[.agg #[.string (strB m.n), .int .i64 m.k, .bool m.nn], .pointer (some ⟨B, 0, none⟩)] w fun e w' => e = .returned (.bool (eqN m.n nm)) ∧ Below w.heap.size w w' := by
  have hn := new_below w (.cells #[.string (strB m.n), .int .i64 m.k, .bool m.nn] 72)
  have x0 := (hn.cell (p := ⟨B, 0, none⟩) hl).trans hB
  have HN := hide hn
  have hne : ¬ B = w.heap.size := by omega
  clear hB hn
  go_enter Tryz.func154, Tryz.ntmps154
  go_wp2
  go_ret
  exact ⟨rfl, HN.out⟩

/-- the closure of named: whether its table bears the name, which lies in box B -/
theorem nameC_any (m : MTb) (nm : List Int) (B : Nat) (w : World) (hB : w.cell? ⟨B, 0, none⟩ = some (.string (strB nm))) (hl : B < w.heap.size) :
    Calls Tryz.prog 134 #[.agg #[.int .i64 m.id, .string (strB m.nm), .slice m.cs.a m.cs.n m.cs.c, .int .i64 m.ky, .slice m.ix.a m.ix.n m.ix.c], .pointer (some ⟨B, 0, none⟩)] w fun e w' => e = .returned (.bool (eqN m.nm nm)) ∧ Below w.heap.size w w' := by
  have hn := new_below w (.cells #[.int .i64 m.id, .string (strB m.nm), .slice m.cs.a m.cs.n m.cs.c, .int .i64 m.ky, .slice m.ix.a m.ix.n m.ix.c] 48)
  have x0 := (hn.cell (p := ⟨B, 0, none⟩) hl).trans hB
  have HN := hide hn
  have hne : ¬ B = w.heap.size := by omega
  clear hB hn
  go_enter Tryz.func134, Tryz.ntmps134
  go_wp2
  go_ret
  exact ⟨rfl, HN.out⟩

end Go.Proofs.YtepaflofbcokaaaGreatDoor

namespace Go.Proofs.YtepaflofbcokaaaGreatDoor
open Go.RowKit NumMath Go.ChangeShapes Go.WideShapes Go.Deep
set_option linter.unusedVariables false
set_option maxRecDepth 100000

def colF (l : List Colm) (i : Nat) : Bool := match l[i]? with
  | some c => !(noN c.n || (l.take i).any (fun x => eqN x.n c.n) || (c.k != 1 && c.k != 2))
  | none => true

theorem colsB_eq (l : List Colm) : colsB l = (!l.isEmpty && decide (l.length ≤ 12) && (List.range l.length).all (colF l)) := rfl

def ixF (l : List Int) (cs : List Colm) (i : Nat) : Bool := match l[i]? with
  | some k => !(!placeB k cs || (l.take i).any (fun x => x == k))
  | none => true

theorem ixsB_eq (l : List Int) (cs : List Colm) : ixsB l cs = (decide (l.length ≤ 4) && (List.range l.length).all (ixF l cs)) := rfl

theorem range_more {f : Nat → Bool} {k : Nat} : (List.range (k + 1)).all f = ((List.range k).all f && f k) := by
  rw [List.range_succ, List.all_append]
  simp

theorem range_bad {f : Nat → Bool} {k n : Nat} (hk : k < n) (h : f k = false) : (List.range n).all f = false := by
  rw [List.all_eq_false]
  exact ⟨k, List.mem_range.2 hk, by rw [h]; simp⟩

theorem colF_at {l : List Colm} {k : Nat} {c : Colm} (h : l[k]? = some c) : colF l k = !(noN c.n || (l.take k).any (fun x => eqN x.n c.n) || (c.k != 1 && c.k != 2)) := by
  unfold colF; rw [h]

theorem ixF_at {l : List Int} {cs : List Colm} {i : Nat} {k : Int} (h : l[i]? = some k) : ixF l cs i = !(!placeB k cs || (l.take i).any (fun x => x == k)) := by
  unfold ixF; rw [h]

set_option maxHeartbeats 4000000 in
theorem colsMayBe_any (ca : Option Addr) (n c : Nat) (l : List Colm) (w : World) (h : IsY layCo w ca n c l) : Calls Tryz.prog 130 #[.slice ca n c] w fun e w' => e = .returned (.bool (colsB l)) ∧ Below w.heap.size w w' := by
  obtain ⟨zz, hz⟩ : ∃ zz, colsB l = zz := ⟨_, rfl⟩
  rw [hz]
  rw [colsB_eq] at hz
  have hl := h.1
  have hm : (n : Int) ≤ 9223372036854775807 := by have := h.2.1; have := h.2.2.1; unfold maxLen at this; omega
  have H := hide h
  have HL := hide hl
  clear h
  by_cases h0 : n = 0
  · subst h0
    have hx : l = [] := List.length_eq_zero_iff.1 hl
    subst hx
    have HZ := hide hz
    clear hz hl
    go_enter Tryz.func130, Tryz.ntmps130
    go_wp2
    go_ret
    exact ⟨by rw [← HZ.out]; rfl, Below.refl _ _⟩
  have h0i : ((n : Int) == 0) = false := by simp; omega
  have he : l.isEmpty = false := by cases l with
    | nil => simp at hl; omega
    | cons => rfl
  by_cases h12 : (12 : Int) < (n : Int)
  · have h12n : 12 < n := by omega
    have HZ := hide (show zz = false by rw [← hz, he, hl, decide_eq_false (by omega)]; rfl)
    clear hz hl he
    go_enter Tryz.func130, Tryz.ntmps130
    go_wp2
    go_ret
    exact ⟨by rw [HZ.out]; rfl, Below.refl _ _⟩
  have h12n : ¬ 12 < n := by omega
  have HZ := hide (show zz = (List.range n).all (colF l) by rw [← hz, he, hl, decide_eq_true (by omega)]; simp)
  clear hz hl he
  go_enter Tryz.func130, Tryz.ntmps130
  go_wp2
  go_loopg [16] n (fun gk i wr => ∃ k : Nat, gk = n - k ∧ i = .int .i64 k ∧ k ≤ n ∧ (List.range k).all (colF l) = true ∧ Below w.heap.size w wr)
  case atStart => exact ⟨0, rfl, rfl, Nat.zero_le _, rfl, Below.refl _ _⟩
  case round =>
    obtain ⟨k, rfl, rfl, hk, hA, hB⟩ := hrel
    have HB := hide hB
    have HA := hide hA
    have hsw := hB.size
    clear hA
    by_cases hlt : k < n
    · have hlt' : (k : Int) < (n : Int) := by omega
      obtain ⟨m, hmk⟩ := at_ofM (l := l) (k := k) (by have := HL.out; omega)
      have hbN := new_below wr (.cells #[.string (strB m.n), .int .i64 m.k, .bool m.nn] 72)
      obtain ⟨b, hcut, hY⟩ := isY_cut layCo ((H.out.keep hB).keep hbN) k (Nat.le_of_lt hlt)
      have hcut' : ∀ W, (Instr.sliceAt 45 (.slice ca n c) none (some (.int .i64 (k : Int))) none).run Tryz.prog W = .ok (.slice b k c) W := hcut
      obtain ⟨g, off, rfl, hg, hC⟩ := H.out.at hlt
      obtain ⟨d0, d1, d2⟩ := at3c_list (hC.same (hB.block g hg)) hmk
      have HCf := hide (containsCol_any b k c (l.take k) (fun x => eqN x.n m.n) wr.heap.size (wr.alloc (.cells #[.string (strB m.n), .int .i64 m.k, .bool m.nn] 72)) hY (fun W hW x _ => colC_any x m.n wr.heap.size W ((hW.cell (p := ⟨wr.heap.size, 0, none⟩) (by simp)).trans (by simp)) (Nat.lt_of_lt_of_le (by simp) hW.size)))
      have HF := hide (colF_at hmk)
      have HBN := hide hbN
      have hbox : ∀ V, Below (wr.alloc (.cells #[.string (strB m.n), .int .i64 m.k, .bool m.nn] 72)).heap.size (wr.alloc (.cells #[.string (strB m.n), .int .i64 m.k, .bool m.nn] 72)) V → V.cell? ⟨wr.heap.size, 0, none⟩ = some (.string (strB m.n)) ∧ V.cell? ⟨wr.heap.size, 1, none⟩ = some (.int .i64 m.k) := fun V hV => ⟨(hV.cell (p := ⟨wr.heap.size, 0, none⟩) (by simp)).trans (by simp), (hV.cell (p := ⟨wr.heap.size, 1, none⟩) (by simp)).trans (by simp)⟩
      have HBox := hide hbox
      obtain ⟨zt, hzt⟩ : ∃ z, (l.take k).any (fun x => eqN x.n m.n) = z := ⟨_, rfl⟩
      rw [hzt] at HCf HF
      obtain ⟨ze, hze⟩ : ∃ z, noN m.n = z := ⟨_, rfl⟩
      rw [hze] at HF
      have hze' : (strB m.n).toList.isEmpty = ze := hze
      clear hC hmk hB hbN hY hcut hzt hbox hze
      cases ze with
      | true =>
        have hzn : (strB m.n).toList = [] := List.isEmpty_iff.1 hze'
        have HFb := hide (show zz = false by rw [HZ.out]; exact range_bad hlt (by rw [HF.out]; rfl))
        go_wp2_with (first
          | (go_at_call 153; go_must (refine HCf.out.mono ?_); rintro e w2 ⟨rfl, hb2⟩; obtain ⟨y0, y1⟩ := HBox.out _ hb2; have HB2 := hide hb2; clear hb2))
        go_ret
        exact ⟨by rw [HFb.out]; rfl, HB.out.trans ((HBN.out.trans (HB2.out.mono HBN.out.size)).mono hsw)⟩
      | false =>
        have hzn : ¬ (strB m.n).toList = [] := fun e => by rw [e] at hze'; cases hze'
        cases zt with
        | true =>
          have HFb := hide (show zz = false by rw [HZ.out]; exact range_bad hlt (by rw [HF.out]; rfl))
          go_wp2_with (first
            | (go_at_call 153; go_must (refine HCf.out.mono ?_); rintro e w2 ⟨rfl, hb2⟩; obtain ⟨y0, y1⟩ := HBox.out _ hb2; have HB2 := hide hb2; clear hb2))
          go_ret
          exact ⟨by rw [HFb.out]; rfl, HB.out.trans ((HBN.out.trans (HB2.out.mono HBN.out.size)).mono hsw)⟩
        | false =>
          by_cases hk1 : m.k = 1
          · have e1 : (m.k != 1) = false := by simp [hk1]
            have HMo := hide (show (List.range (k + 1)).all (colF l) = true by rw [range_more, HA.out, HF.out, e1]; rfl)
            clear hk1
            go_wp2_with (first
              | (go_at_call 153; go_must (refine HCf.out.mono ?_); rintro e w2 ⟨rfl, hb2⟩; obtain ⟨y0, y1⟩ := HBox.out _ hb2; have HB2 := hide hb2; clear hb2))
            go_roundg (n - (k + 1))
            case measure => omega
            case rel => exact ⟨k + 1, rfl, by go_num, by omega, HMo.out, HB.out.trans ((HBN.out.trans (HB2.out.mono HBN.out.size)).mono hsw)⟩
          · have e1 : (m.k != 1) = true := by simp [hk1]
            by_cases hk2 : m.k = 2
            · have e2 : (m.k != 2) = false := by simp [hk2]
              have HMo := hide (show (List.range (k + 1)).all (colF l) = true by rw [range_more, HA.out, HF.out, e1, e2]; rfl)
              clear hk1 hk2
              go_wp2_with (first
                | (go_at_call 153; go_must (refine HCf.out.mono ?_); rintro e w2 ⟨rfl, hb2⟩; obtain ⟨y0, y1⟩ := HBox.out _ hb2; have HB2 := hide hb2; clear hb2))
              go_roundg (n - (k + 1))
              case measure => omega
              case rel => exact ⟨k + 1, rfl, by go_num, by omega, HMo.out, HB.out.trans ((HBN.out.trans (HB2.out.mono HBN.out.size)).mono hsw)⟩
            · have e2 : (m.k != 2) = true := by simp [hk2]
              have HFb := hide (show zz = false by rw [HZ.out]; exact range_bad hlt (by rw [HF.out, e1, e2]; rfl))
              clear hk1 hk2
              go_wp2_with (first
                | (go_at_call 153; go_must (refine HCf.out.mono ?_); rintro e w2 ⟨rfl, hb2⟩; obtain ⟨y0, y1⟩ := HBox.out _ hb2; have HB2 := hide hb2; clear hb2))
              go_ret
              exact ⟨by rw [HFb.out]; rfl, HB.out.trans ((HBN.out.trans (HB2.out.mono HBN.out.size)).mono hsw)⟩
    · obtain rfl : k = n := by omega
      clear hB
      go_wp2
      go_ret
      exact ⟨by rw [HZ.out, HA.out]; rfl, HB.out⟩

end Go.Proofs.YtepaflofbcokaaaGreatDoor

namespace Go.Proofs.YtepaflofbcokaaaGreatDoor
open Go.RowKit NumMath Go.ChangeShapes Go.WideShapes Go.Deep
set_option linter.unusedVariables false
set_option maxRecDepth 100000

set_option maxHeartbeats 2000000 in
theorem indexIx_any (a : Option Addr) (n c : Nat) (hs : List Int) (v : Int) (w : World) (h : IsY layIx w a n c hs) :
    Calls Tryz.prog 167 #[.slice a n c, .int .i64 v] w fun e w' => IdxQ (fun x => x == v) hs n e ∧ w' = w := by
  have H := hide h
  have hm : (n : Int) ≤ 9223372036854775807 := by have := h.2.1; have := h.2.2.1; unfold maxLen at this; omega
  have HL := hide h.1
  clear h
  go_enter Tryz.func167, Tryz.ntmps167
  go_wp2
  go_loopg [8] n (fun gk i wr => ∃ k : Nat, gk = n - k ∧ i = .int .i64 k ∧ k ≤ n ∧ (hs.take k).all (fun x => !(x == v)) = true ∧ wr = w)
  case atStart => exact ⟨0, rfl, rfl, Nat.zero_le _, rfl, rfl⟩
  case round =>
    obtain ⟨k, rfl, rfl, hk, hA, hw⟩ := hrel
    subst hw
    have HA := hide hA
    clear hA
    by_cases hlt : k < n
    · have hlt' : (k : Int) < (n : Int) := by omega
      obtain ⟨m, hmk⟩ := at_ofM (l := hs) (k := k) (by have := HL.out; omega)
      obtain ⟨g, off, rfl, hg, hC⟩ := H.out.at hlt
      have d0 : wr.cell? ⟨g, off + k, none⟩ = some (.int .i64 m) := by simpa [layIx] using hC k m hmk 0 _ rfl
      have HMk := hide hmk
      have HMo := hide (all_moreQ2 (p := fun x => !(x == v)) hmk)
      rw [HA.out] at HMo
      clear hC hmk
      by_cases hz : m = v
      · have hz1 : (v == m) = true := by simp [hz]
        have HZ := hide hz
        clear hz
        go_wp2
        go_ret
        exact ⟨.inr ⟨k, hlt, rfl, HA.out, m, HMk.out, by simp [HZ.out]⟩, rfl⟩
      · have hz1 : (v == m) = false := by simp; exact fun e => hz e.symm
        have hz2 : (m == v) = false := by simp [hz]
        have HMo2 := hide (show (hs.take (k + 1)).all (fun x => !(x == v)) = true by rw [HMo.out, hz2]; rfl)
        clear hz hz2
        go_wp2
        go_roundg (n - (k + 1))
        case measure => omega
        case rel => exact ⟨k + 1, rfl, by go_num, by omega, HMo2.out, rfl⟩
    · obtain rfl : k = n := by omega
      have ek : hs.take k = hs := List.take_of_length_le (by have := HL.out; omega)
      rw [ek] at HA
      go_wp2
      go_ret
      exact ⟨.inl ⟨rfl, HA.out⟩, rfl⟩

theorem containsIx_any (a : Option Addr) (n c : Nat) (hs : List Int) (v : Int) (w : World) (h : IsY layIx w a n c hs) :
    Calls Tryz.prog 155 #[.slice a n c, .int .i64 v] w fun e w' => e = .returned (.bool (hs.any (fun x => x == v))) ∧ w' = w := by
  have HI := hide (indexIx_any a n c hs v w h)
  clear h
  go_enter Tryz.func155, Tryz.ntmps155
  go_wp2_with (first
    | (go_at_call 167; go_must (refine HI.out.mono ?_); rintro e w2 ⟨hi, hw⟩; have hw := hw.symm; subst hw; obtain ⟨i, rfl, hi2⟩ := idxQ_any hi; have HX := hide hi2; clear hi hi2))
  go_ret
  exact ⟨by rw [← HX.out]; rfl, rfl⟩

set_option maxHeartbeats 4000000 in
theorem indexesMayBe_any (ia : Option Addr) (n c : Nat) (l : List Int) (ca : Option Addr) (cn cc : Nat) (cs : List Colm) (w : World) (h : IsY layIx w ia n c l) (hc : cs.length = cn) (hcm : (cn : Int) ≤ 9223372036854775807) :
    Calls Tryz.prog 132 #[.slice ia n c, .slice ca cn cc] w fun e w' => e = .returned (.bool (ixsB l cs)) ∧ w' = w := by
  obtain ⟨zz, hz⟩ : ∃ zz, ixsB l cs = zz := ⟨_, rfl⟩
  rw [hz]
  rw [ixsB_eq] at hz
  have hl := h.1
  have hm : (n : Int) ≤ 9223372036854775807 := by have := h.2.1; have := h.2.2.1; unfold maxLen at this; omega
  have H := hide h
  have HL := hide hl
  have HPl := hide (fun k => isPlace_any k ca cn cc cs w hc hcm)
  clear h hc
  by_cases h4 : (4 : Int) < (n : Int)
  · have h4n : 4 < n := by omega
    have HZ := hide (show zz = false by rw [← hz, hl, decide_eq_false (by omega)]; rfl)
    clear hz hl
    go_enter Tryz.func132, Tryz.ntmps132
    go_wp2
    go_ret
    exact ⟨by rw [HZ.out]; rfl, rfl⟩
  have h4n : ¬ 4 < n := by omega
  have HZ := hide (show zz = (List.range n).all (ixF l cs) by rw [← hz, hl, decide_eq_true (by omega)]; simp)
  clear hz hl
  go_enter Tryz.func132, Tryz.ntmps132
  go_wp2
  go_loopg [12] n (fun gk i wr => ∃ k : Nat, gk = n - k ∧ i = .int .i64 k ∧ k ≤ n ∧ (List.range k).all (ixF l cs) = true ∧ wr = w)
  case atStart => exact ⟨0, rfl, rfl, Nat.zero_le _, rfl, rfl⟩
  case round =>
    obtain ⟨k, rfl, rfl, hk, hA, hw⟩ := hrel
    subst hw
    have HA := hide hA
    clear hA
    by_cases hlt : k < n
    · have hlt' : (k : Int) < (n : Int) := by omega
      obtain ⟨m, hmk⟩ := at_ofM (l := l) (k := k) (by have := HL.out; omega)
      obtain ⟨b, hcut, hY⟩ := isY_cut layIx H.out k (Nat.le_of_lt hlt)
      have hcut' : ∀ W, (Instr.sliceAt 46 (.slice ia n c) none (some (.int .i64 (k : Int))) none).run Tryz.prog W = .ok (.slice b k c) W := hcut
      obtain ⟨g, off, rfl, hg, hC⟩ := H.out.at hlt
      have d0 : wr.cell? ⟨g, off + k, none⟩ = some (.int .i64 m) := by simpa [layIx] using hC k m hmk 0 _ rfl
      have HCf := hide (containsIx_any b k c (l.take k) m wr hY)
      have HPk := hide (HPl.out m)
      have HF := hide (ixF_at (cs := cs) hmk)
      obtain ⟨zt, hzt⟩ : ∃ z, (l.take k).any (fun x => x == m) = z := ⟨_, rfl⟩
      rw [hzt] at HCf HF
      obtain ⟨zp, hzp⟩ : ∃ z, placeB m cs = z := ⟨_, rfl⟩
      rw [hzp] at HPk HF
      clear hC hmk hY hcut hzt hzp
      cases zp with
      | false =>
        have HFb := hide (show zz = false by rw [HZ.out]; exact range_bad hlt (by rw [HF.out]; rfl))
        go_wp2_with (first
          | (go_at_call 131; go_must (refine HPk.out.mono ?_); rintro e w2 ⟨rfl, hw⟩; have hw := hw.symm; subst hw))
        go_ret
        exact ⟨by rw [HFb.out]; rfl, rfl⟩
      | true =>
        cases zt with
        | true =>
          have HFb := hide (show zz = false by rw [HZ.out]; exact range_bad hlt (by rw [HF.out]; rfl))
          go_wp2_with (first
            | (go_at_call 155; refine HCf.out.mono ?_; rintro e w2 ⟨rfl, hw⟩; have hw := hw.symm; subst hw)
            | (go_at_call 131; go_must (refine HPk.out.mono ?_); rintro e w2 ⟨rfl, hw⟩; have hw := hw.symm; subst hw))
          go_ret
          exact ⟨by rw [HFb.out]; rfl, rfl⟩
        | false =>
          have HMo := hide (show (List.range (k + 1)).all (ixF l cs) = true by rw [range_more, HA.out, HF.out]; rfl)
          go_wp2_with (first
            | (go_at_call 155; refine HCf.out.mono ?_; rintro e w2 ⟨rfl, hw⟩; have hw := hw.symm; subst hw)
            | (go_at_call 131; go_must (refine HPk.out.mono ?_); rintro e w2 ⟨rfl, hw⟩; have hw := hw.symm; subst hw))
          go_roundg (n - (k + 1))
          case measure => omega
          case rel => exact ⟨k + 1, rfl, by go_num, by omega, HMo.out, rfl⟩
    · obtain rfl : k = n := by omega
      go_wp2
      go_ret
      exact ⟨by rw [HZ.out, HA.out]; rfl, rfl⟩

set_option maxHeartbeats 2000000 in
theorem mayBe_anyT (t : MTb) (w : World) (h : t.ok w) : Calls Tryz.prog 105 #[.agg #[.int .i64 t.id, .string (strB t.nm), .slice t.cs.a t.cs.n t.cs.c, .int .i64 t.ky, .slice t.ix.a t.ix.n t.ix.c]] w fun e w' => e = .returned (.bool (mayB t.t)) ∧ Below w.heap.size w w' := by
  obtain ⟨zz, hz⟩ : ∃ zz, mayB t.t = zz := ⟨_, rfl⟩
  rw [hz]
  have hz : (!noN t.nm && colsB t.cs.xs && placeB t.ky t.cs.xs && ixsB t.ix.xs t.cs.xs) = zz := hz
  have HZ := hide hz
  obtain ⟨W1, hW1⟩ : ∃ W1, W1 = w.alloc (.cells #[.int .i64 t.id, .string (strB t.nm), .slice t.cs.a t.cs.n t.cs.c, .int .i64 t.ky, .slice t.ix.a t.ix.n t.ix.c] 48) := ⟨_, rfl⟩
  have hb1 : Below w.heap.size w W1 := by rw [hW1]; exact new_below _ _
  have hT1 : At5t W1 w.heap.size 0 t := by rw [hW1]; exact at5t_new w t
  have hs1 : w.heap.size < W1.heap.size := by rw [hW1]; simp
  have hcm : (t.cs.n : Int) ≤ 9223372036854775807 := by have := h.cs.2.1; have := h.cs.2.2.1; unfold maxLen at this; omega
  have HC := hide (colsMayBe_any t.cs.a t.cs.n t.cs.c t.cs.xs W1 (h.cs.keep hb1))
  have HP := hide (fun V => isPlace_any t.ky t.cs.a t.cs.n t.cs.c t.cs.xs V h.cs.1 hcm)
  have HI := hide (fun V (hV : Below W1.heap.size W1 V) => indexesMayBe_any t.ix.a t.ix.n t.ix.c t.ix.xs t.cs.a t.cs.n t.cs.c t.cs.xs V ((h.ix.keep hb1).keep hV) h.cs.1 hcm)
  have HTx := hide (fun V (hV : Below W1.heap.size W1 V) => (hT1.same (hV.block w.heap.size hs1)).zero)
  have HB1 := hide hb1
  obtain ⟨t0, t1, t2, t3, t4⟩ := hT1.zero
  obtain ⟨ze, hze⟩ : ∃ z, noN t.nm = z := ⟨_, rfl⟩
  have hze' : (strB t.nm).toList.isEmpty = ze := hze
  obtain ⟨zc, hzc⟩ : ∃ z, colsB t.cs.xs = z := ⟨_, rfl⟩
  obtain ⟨zp, hzp⟩ : ∃ z, placeB t.ky t.cs.xs = z := ⟨_, rfl⟩
  rw [hzc] at HC
  rw [hzp] at HP
  rw [hze, hzc, hzp] at HZ
  clear h hb1 hT1 hs1 hz hze hzc hzp
  cases ze with
  | true =>
    have hzn : (strB t.nm).toList = [] := List.isEmpty_iff.1 hze'
    go_enter Tryz.func105, Tryz.ntmps105
    go_upto_region 1 with fail
    rw [← hW1]
    clear hW1
    go_wp2
    go_ret
    exact ⟨by rw [← HZ.out]; rfl, HB1.out⟩
  | false =>
    have hzn : ¬ (strB t.nm).toList = [] := fun e => by rw [e] at hze'; cases hze'
    cases zc with
    | false =>
      go_enter Tryz.func105, Tryz.ntmps105
      go_upto_region 1 with fail
      rw [← hW1]
      clear hW1
      go_wp2_with (first
        | (go_at_call 130; go_must (refine HC.out.mono ?_); rintro e w2 ⟨rfl, hb2⟩; obtain ⟨x0, x1, x2, x3, x4⟩ := HTx.out w2 hb2; have HB2 := hide hb2; clear hb2))
      go_ret
      exact ⟨by rw [← HZ.out]; rfl, HB1.out.trans (HB2.out.mono HB1.out.size)⟩
    | true =>
      cases zp with
      | false =>
        go_enter Tryz.func105, Tryz.ntmps105
        go_upto_region 1 with fail
        rw [← hW1]
        clear hW1
        go_wp2_with (first
          | (go_at_call 130; go_must (refine HC.out.mono ?_); rintro e w2 ⟨rfl, hb2⟩; obtain ⟨x0, x1, x2, x3, x4⟩ := HTx.out w2 hb2; have HB2 := hide hb2; clear hb2)
          | (go_at_call 131; go_must (refine (HP.out w2).mono ?_); rintro e w3 ⟨rfl, hw⟩; have hw := hw.symm; subst hw))
        go_ret
        exact ⟨by rw [← HZ.out]; rfl, HB1.out.trans (HB2.out.mono HB1.out.size)⟩
      | true =>
        go_enter Tryz.func105, Tryz.ntmps105
        go_upto_region 1 with fail
        rw [← hW1]
        clear hW1
        go_wp2_with (first
          | (go_at_call 130; go_must (refine HC.out.mono ?_); rintro e w2 ⟨rfl, hb2⟩; obtain ⟨x0, x1, x2, x3, x4⟩ := HTx.out w2 hb2; have HB2 := hide hb2; clear hb2)
          | (go_at_call 131; go_must (refine (HP.out w2).mono ?_); rintro e w3 ⟨rfl, hw⟩; have hw := hw.symm; subst hw)
          | (go_at_call 132; go_must (refine (HI.out w2 HB2.out).mono ?_); rintro e w3 ⟨rfl, hw⟩; have hw := hw.symm; subst hw))
        go_ret
        exact ⟨by rw [← HZ.out]; rfl, HB1.out.trans (HB2.out.mono HB1.out.size)⟩

variable {F : Nat → Prop} {base : Nat} {a : Mm} {z : Nat} {S : Mac}

/-- the list of tables, as a slice -/
theorem IsMm.slT {w : World} (h : IsMm F base w a z S) : ∃ sa sn sc, a.tv = .slice sa sn sc ∧ S.tbs.length = sn ∧ w.cell? ⟨a.p, 3, none⟩ = some (.slice sa sn sc) ∧ (sn : Int) ≤ 9223372036854775807 ∧ IsY layTb w sa sn sc a.ms := by
  obtain ⟨sa, sn, sc, e⟩ := h.tt.any3
  have ho := h.tt
  rw [e] at ho
  have hl := ho.len
  refine ⟨sa, sn, sc, e, by rw [← h.tm, List.length_map]; exact hl.1, by rw [← e]; exact h.c3, ?_, ho.is⟩
  have := hl.2.1; have := hl.2.2; unfold maxLen at this; omega

theorem named_any {w : World} (h : IsMm F base w a z S) (nm : List Int) : Calls Tryz.prog 106 #[.pointer (some ⟨a.p, 0, none⟩), .string (strB nm)] w fun e w' => e = .returned (.bool (namedB S.tbs nm)) ∧ Below w.heap.size w w' := by
  have hb := new_below w (.cells #[.string (strB nm)] 9)
  obtain ⟨sa, sn, sc, ev, -, c3, -, hY⟩ := (h.keep hb).slT
  have HC := hide (containsTab_any sa sn sc a.ms (fun m => eqN m.nm nm) w.heap.size (w.alloc (.cells #[.string (strB nm)] 9)) hY (fun W hW m _ => nameC_any m nm w.heap.size W ((hW.cell (p := ⟨w.heap.size, 0, none⟩) (by simp)).trans (by simp)) (Nat.lt_of_lt_of_le (by simp) hW.size)))
  have he : a.ms.any (fun m => eqN m.nm nm) = namedB S.tbs nm := by
    unfold namedB
    rw [← h.tm, List.any_map]
    rfl
  rw [he] at HC
  have HB := hide hb
  have hn : ¬ w.heap.size = a.p := by have := h.lt; omega
  clear h hb hY he
  go_enter Tryz.func106, Tryz.ntmps106
  go_wp2_with (first
    | (go_at_call 133; go_must (refine HC.out.mono ?_); rintro e w2 ⟨rfl, hb2⟩; have HB2 := hide hb2; clear hb2))
  go_ret
  exact ⟨rfl, HB.out.trans (HB2.out.mono HB.out.size)⟩

end Go.Proofs.YtepaflofbcokaaaGreatDoor
