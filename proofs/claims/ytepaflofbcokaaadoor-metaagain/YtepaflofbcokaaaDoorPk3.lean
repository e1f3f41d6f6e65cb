/- copyOf: a lock whose keys share no memory with what was there. -/
import Derived.Test.YtepaflofbcokaaaDoorPk2
import Derived.Test.YtepaflofbcokaaaDoorFtA
import Derived.Test.YtepaflofbcokaaaDoorTxE
namespace Go.Proofs.YtepaflofbcokaaaDoor
open Go.RowKit NumMath Go.ChangeShapes Go.WideShapes Go.Deep
set_option linter.unusedVariables false
set_option maxRecDepth 100000

def mz3 : ML := ⟨lck0, none, 0, 0, none, 0, 0⟩

theorem kp_below {w w' : World} (h : Keeps (fun k => w.heap.size ≤ k) w w') : Below w.heap.size w w' := ⟨h.os, h.tape, h.output, h.size, fun k hk => h.block k hk (by omega)⟩

theorem rangeK {w : World} {g : Nat} {m : ML} (h : At5 w g 0 m) : w.rangeAt g 0 (layK.cells m) := by
  obtain ⟨h0, h1, h2, h3, h4⟩ := h.zero
  intro j v hj
  rw [Nat.zero_add]
  match j, hj with
  | 0, hj => cases hj; exact h0
  | 1, hj => cases hj; exact h1
  | 2, hj => cases hj; exact h2
  | 3, hj => cases hj; exact h3
  | 4, hj => cases hj; exact h4
  | _ + 5, hj => cases hj

/-- a copy of x: its keys lie in new blocks -/
def CopyPost (w : World) (x : ML) (e : Ending) (w' : World) : Prop :=
  ∃ y : ML, e = .returned (.agg #[.int .u64 y.l.tx, .int .i64 y.l.lv, .int .i64 y.l.md, .slice y.la y.ln y.lc, .slice y.ha y.hn y.hc]) ∧ y.l = x.l ∧ Foot (fun k => k < w.heap.size) w' (fun V => y.ok V) ∧ Below w.heap.size w w'

set_option maxHeartbeats 4000000 in
theorem pcopyOf_any (x : ML) (w : World) (h : x.ok w) (hl : x.ln ≤ 1000000) (hh : x.hn ≤ 1000000) : Calls Tryd.prog 42 #[.agg #[.int .u64 x.l.tx, .int .i64 x.l.lv, .int .i64 x.l.md, .slice x.la x.ln x.lc, .slice x.ha x.hn x.hc]] w fun e w' => CopyPost w x e w' := by
  obtain ⟨W0, hW0⟩ : ∃ W0, W0 = (w.alloc (.cells #[.int .u64 x.l.tx, .int .i64 x.l.lv, .int .i64 x.l.md, .slice x.la x.ln x.lc, .slice x.ha x.hn x.hc] 32)).alloc (.cells #[.int .u64 0, .int .i64 0, .int .i64 0, .slice none 0 0, .slice none 0 0] 32) := ⟨_, rfl⟩
  have hs0 : W0.heap.size = w.heap.size + 2 := by rw [hW0]; simp
  have hb0 : Below w.heap.size w W0 := by rw [hW0]; exact belY (belY (Below.refl _ _) _) _
  have HX0 : Hid (At5 W0 w.heap.size 0 x) := by show At5 _ _ _ _; rw [hW0]; exact (at5_new w x).same ((new_below _ _).block _ (by simp))
  have HY0 : Hid (At5 W0 (w.heap.size + 1) 0 mz3) := by show At5 _ _ _ _; rw [hW0]; exact at5_of (rangeY_new (w.alloc (.cells #[.int .u64 x.l.tx, .int .i64 x.l.lv, .int .i64 x.l.md, .slice x.la x.ln x.lc, .slice x.ha x.hn x.hc] 32)) (w.heap.size + 1) #[.int .u64 0, .int .i64 0, .int .i64 0, .slice none 0 0, .slice none 0 0] 32 (by simp))
  have HF0 : Hid (∀ j, W0.frozen? ⟨w.heap.size, j, none⟩ = false ∧ W0.frozen? ⟨w.heap.size + 1, j, none⟩ = false) := by
    intro j
    rw [hW0]
    constructor
    · have := (new_below (w.alloc (.cells #[.int .u64 x.l.tx, .int .i64 x.l.lv, .int .i64 x.l.md, .slice x.la x.ln x.lc, .slice x.ha x.hn x.hc] 32)) (.cells #[.int .u64 0, .int .i64 0, .int .i64 0, .slice none 0 0, .slice none 0 0] 32)).frozen (p := ⟨w.heap.size, j, none⟩) (by simp)
      rw [this]
      exact fzY_new _ _ _ _
    · have := fzY_new (w.alloc (.cells #[.int .u64 x.l.tx, .int .i64 x.l.lv, .int .i64 x.l.md, .slice x.la x.ln x.lc, .slice x.ha x.hn x.hc] 32)) #[.int .u64 0, .int .i64 0, .int .i64 0, .slice none 0 0, .slice none 0 0] 32 j
      simp only [World.size_alloc] at this
      exact this
  have HC1 := hide (fun V (hV : Below w.heap.size w V) => clone_src x.la x.ln x.lc x.l.lo V (h.lo.keep hV).src (by omega))
  have HC2 := hide (fun V (hV : Below w.heap.size w V) => clone_src x.ha x.hn x.hc x.l.hi V (h.hi.keep hV).src (by omega))
  have HV1 := hide h.lo.2.2.2.1
  have HV2 := hide h.hi.2.2.2.1
  have HB0 := hide hb0
  have HS0 := hide hs0
  have HW0 := hide hW0
  clear h hb0 hs0
  go_enter Tryd.func42, Tryd.ntmps42
  go_wp2_with fail
  rw [← hW0]
  clear hW0
  refine startE (fun i => decide (7 ≤ i)) (by kernel_rfl) ?_
  refine' takeE (i := 0) (v := _) rfl (by kernel_rfl) (by kernel_rfl) (by kernel_rfl) (by kernel_rfl) (fun _ _ _ h => h) (by rfl) (Below.refl _ _) ?_ ?_; rotate_left
  · (intro V hSV; obtain ⟨x0, x1, x2, x3, x4⟩ := HX0.out.same ((below_undrew hSV).block _ (by have := HS0.out; omega)); go_simp; all_goals (with_reducible rfl))
  (try simp only [Act.put, List.setIfInBounds_toArray, List.set_cons_zero, List.set_cons_succ])
  refine' takeE (i := 1) (v := _) rfl (by kernel_rfl) (by kernel_rfl) (by kernel_rfl) (by kernel_rfl) (fun _ _ _ h => h) (by rfl) (Below.refl _ _) ?_ ?_; rotate_left
  · (intro V hSV; obtain ⟨x0, x1, x2, x3, x4⟩ := HX0.out.same ((below_undrew hSV).block _ (by have := HS0.out; omega)); go_simp; all_goals (with_reducible rfl))
  (try simp only [Act.put, List.setIfInBounds_toArray, List.set_cons_zero, List.set_cons_succ])
  refine' takeE (i := 3) (v := _) rfl (by kernel_rfl) (by kernel_rfl) (by kernel_rfl) (by kernel_rfl) (fun _ _ _ h => h) (by rfl) (Below.refl _ _) ?_ ?_; rotate_left
  · (intro V hSV; obtain ⟨x0, x1, x2, x3, x4⟩ := HX0.out.same ((below_undrew hSV).block _ (by have := HS0.out; omega)); go_simp; all_goals (with_reducible rfl))
  (try simp only [Act.put, List.setIfInBounds_toArray, List.set_cons_zero, List.set_cons_succ])
  refine' takeE (i := 4) (v := _) rfl (by kernel_rfl) (by kernel_rfl) (by kernel_rfl) (by kernel_rfl) (fun _ _ _ h => h) (by rfl) (Below.refl _ _) ?_ ?_; rotate_left
  · (intro V hSV; obtain ⟨x0, x1, x2, x3, x4⟩ := HX0.out.same ((below_undrew hSV).block _ (by have := HS0.out; omega)); go_simp; all_goals (with_reducible rfl))
  (try simp only [Act.put, List.setIfInBounds_toArray, List.set_cons_zero, List.set_cons_succ])
  have HC1' := hide (HC1.out W0.drew (HB0.out.trans ((Below.refl W0.heap.size W0).drew.mono (by have := HS0.out; omega))))
  refine callE (i := 2) rfl (by kernel_rfl) (fun K hK => ?_)
  go_simp
  refine HC1'.out.mono ?_
  rintro e w2 ⟨v2, rfl, ho2, hb2⟩
  obtain ⟨a2, n2, c2, rfl, -⟩ := ho2.any
  have HB2 := hide (below_undrew hb2)
  have HO2 := hide ho2
  refine hK.out _ _ (fun _ => hb2) ?_
  clear hK K ho2
  (try simp only [Act.put, List.setIfInBounds_toArray, List.set_cons_zero, List.set_cons_succ])
  refine' takeE (i := 6) (v := _) rfl (by kernel_rfl) (by kernel_rfl) (by kernel_rfl) (by kernel_rfl) (fun _ _ _ h => h) (by rfl) hb2 ?_ ?_; rotate_left
  · (intro V hSV; go_simp; all_goals (with_reducible rfl))
  (try simp only [Act.put, List.setIfInBounds_toArray, List.set_cons_zero, List.set_cons_succ])
  have HC2' := hide (HC2.out w2 (HB0.out.trans (HB2.out.mono (by have := HS0.out; omega))))
  refine callE (i := 5) rfl (by kernel_rfl) (fun K hK => ?_)
  go_simp
  refine HC2'.out.mono ?_
  rintro e w3 ⟨v3, rfl, ho3, hb3⟩
  obtain ⟨a3, n3, c3, rfl, -⟩ := ho3.any
  have hb23 := hb2.trans (hb3.mono hb2.size)
  have HB3 := hide (below_undrew hb23)
  have HO3 := hide ho3
  refine hK.out _ _ (fun _ => hb23) ?_
  have HO23 := hide (HO2.out.keep hb3)
  have hs2 := HB2.out.size
  have hs3 := hb3.size
  clear hK K ho3 hb3 hb2 hb23
  (try simp only [Act.put, List.setIfInBounds_toArray, List.set_cons_zero, List.set_cons_succ])
  have hs0 := HS0.out
  have hX3 := HX0.out.same (HB3.out.block _ (by omega))
  have hY3 := HY0.out.same (HB3.out.block _ (by omega))
  have hF3 := fun j => (HB3.out.frozen (p := ⟨w.heap.size, j, none⟩) (by show w.heap.size < _; omega)).trans (HF0.out j).1
  have hG3 := fun j => (HB3.out.frozen (p := ⟨w.heap.size + 1, j, none⟩) (by show w.heap.size + 1 < _; omega)).trans (HF0.out j).2
  obtain ⟨x0, x1, x2, x3, x4⟩ := hX3.zero
  obtain ⟨y0, y1, y2, y3, y4⟩ := hY3.zero
  have f3 := hF3 3
  have f4 := hF3 4
  have g0 := hG3 0
  have g1 := hG3 1
  have g2 := hG3 2
  have g3 := hG3 3
  have g4 := hG3 4
  clear hX3 hY3 hF3 hG3 hs0
  refine callE (i := 7) rfl (by kernel_rfl) (fun K hK => ?_)
  go_simp
  refine hK.out _ _ (fun h => by cases h) ?_
  clear hK K
  (try simp only [Act.put, List.setIfInBounds_toArray, List.set_cons_zero, List.set_cons_succ])
  have x4s : (w3.setCell ⟨w.heap.size, 3, none⟩ (.slice a2 n2 c2)).cell? ⟨w.heap.size, 4, none⟩ = some (.slice x.ha x.hn x.hc) := (cell_offY (by decide)).trans x4
  have f4s : (w3.setCell ⟨w.heap.size, 3, none⟩ (.slice a2 n2 c2)).frozen? ⟨w.heap.size, 4, none⟩ = false := by rw [World.frozen?_setCell]; exact f4
  refine callE (i := 8) rfl (by kernel_rfl) (fun K hK => ?_)
  go_simp
  refine hK.out _ _ (fun h => by cases h) ?_
  clear hK K
  (try simp only [Act.put, List.setIfInBounds_toArray, List.set_cons_zero, List.set_cons_succ])
  refine callE (i := 9) rfl (by kernel_rfl) (fun K hK => ?_)
  go_simp
  refine hK.out _ _ (fun h => by cases h) ?_
  clear hK K
  (try simp only [Act.put, List.setIfInBounds_toArray, List.set_cons_zero, List.set_cons_succ])
  refine doneE (by kernel_rfl) ?_ _
  have hs0 := HS0.out
  obtain ⟨y, hy⟩ : ∃ y : ML, y = ⟨x.l, a2, n2, c2, a3, n3, c3⟩ := ⟨_, rfl⟩
  have HX3 : Hid (w3.rangeAt w.heap.size 0 (layK.cells x)) := (show w3.rangeAt w.heap.size 0 (layK.cells x) from rangeK (HX0.out.same (HB3.out.block _ (by omega))))
  have HX5 : Hid (((w3.setCell ⟨w.heap.size, 3, none⟩ (.slice a2 n2 c2)).setCell ⟨w.heap.size, 4, none⟩ (.slice a3 n3 c3)).rangeAt w.heap.size 0 (layK.cells y)) := by
    have h1 := range_set (i := 3) (v := .slice a2 n2 c2) HX3.out (by show 3 < 5; decide)
    have h2 := range_set (i := 4) (v := .slice a3 n3 c3) h1 (by show 4 < 5; decide)
    rw [hy]
    exact h2
  have HY5 : Hid (((w3.setCell ⟨w.heap.size, 3, none⟩ (.slice a2 n2 c2)).setCell ⟨w.heap.size, 4, none⟩ (.slice a3 n3 c3)).rangeAt (w.heap.size + 1) 0 (layK.cells mz3)) := by
    have h1 : w3.rangeAt (w.heap.size + 1) 0 (layK.cells mz3) := rangeK (HY0.out.same (HB3.out.block _ (by omega)))
    exact rangeY_same h1 ((Below.heap_setCell _ _ _ _ (by show w.heap.size + 1 ≠ w.heap.size; omega)).trans (Below.heap_setCell _ _ _ _ (by show w.heap.size + 1 ≠ w.heap.size; omega)))
  have HG5 : Hid (∀ j, ((w3.setCell ⟨w.heap.size, 3, none⟩ (.slice a2 n2 c2)).setCell ⟨w.heap.size, 4, none⟩ (.slice a3 n3 c3)).frozen? ⟨w.heap.size + 1, j, none⟩ = false) := by
    intro j
    rw [World.frozen?_setCell, World.frozen?_setCell]
    exact (HB3.out.frozen (p := ⟨w.heap.size + 1, j, none⟩) (by show w.heap.size + 1 < _; omega)).trans (HF0.out j).2
  have HK5 : Hid (Keeps (fun k => k = w.heap.size) w3 ((w3.setCell ⟨w.heap.size, 3, none⟩ (.slice a2 n2 c2)).setCell ⟨w.heap.size, 4, none⟩ (.slice a3 n3 c3))) := kpThen (keepsY_cell _) (fun k hk => .inl hk) (keepsY_cell _)
  obtain ⟨W5, hW5⟩ : ∃ W, W = (w3.setCell ⟨w.heap.size, 3, none⟩ (.slice a2 n2 c2)).setCell ⟨w.heap.size, 4, none⟩ (.slice a3 n3 c3) := ⟨_, rfl⟩
  rw [← hW5] at HX5 HY5 HG5 HK5
  rw [← hW5]
  have hld := HX5.out
  obtain ⟨y0, y1, y2, y3, y4⟩ := (at5_of HY5.out).zero
  have g5 := HG5.out
  have g0 := g5 0
  have g1 := g5 1
  have g2 := g5 2
  have g3 := g5 3
  have g4 := g5 4
  clear x0 x1 x2 x3 x4 x4s f4s f3 f4 hs0 hW5
  have HY := hide hy
  have e0 : x.l = y.l := by rw [hy]
  have e1 : a2 = y.la := by rw [hy]
  have e2 : n2 = y.ln := by rw [hy]
  have e3 : c2 = y.lc := by rw [hy]
  have e4 : a3 = y.ha := by rw [hy]
  have e5 : n3 = y.hn := by rw [hy]
  have e6 : c3 = y.hc := by rw [hy]
  have HE0 := hide e0
  subst e1 e2 e3 e4 e5 e6
  clear hy e0
  go_wp2_with (first
    | (refine wp_loadY layK _ _ Tryd.underlying32 rfl rfl (.tmp 1) rfl w.heap.size 0 y #[.int .u64 y.l.tx, .int .i64 y.l.lv, .int .i64 y.l.md, .slice y.la y.ln y.lc, .slice y.ha y.hn y.hc] rfl rfl hld ?_))
  have hw3 := resY HY5.out HG5.out y
  have hk6 := keepsYs W5 (w.heap.size + 1) 0 (layK.cells y)
  have r0 := hw3 0 _ rfl
  have r1 := hw3 1 _ rfl
  have r2 := hw3 2 _ rfl
  have r3 := hw3 3 _ rfl
  have r4 := hw3 4 _ rfl
  simp only [Nat.zero_add] at r0 r1 r2 r3 r4
  obtain ⟨W6, hW6⟩ : ∃ W, W = W5.setCells (w.heap.size + 1) 0 (layK.cells y) := ⟨_, rfl⟩
  rw [← hW6] at r0 r1 r2 r3 r4 hk6
  have hW6' := hW6
  simp only [layK, World.setCells, Nat.zero_add, Nat.reduceAdd] at hW6'
  rw [← hW6']
  have hs0 := HS0.out
  refine bodyPost_ret (v := .agg #[.int .u64 y.l.tx, .int .i64 y.l.lv, .int .i64 y.l.md, .slice y.la y.ln y.lc, .slice y.ha y.hn y.hc]) (by simp [results, Tryd.results42, go_sem, r0, r1, r2, r3, r4]) rfl ?_
  have hs3 := HB3.out.size
  have k5 : Keeps (fun k => k < w.heap.size + 2) w3 W5 := Keeps.wider HK5.out (fun k hk => by rw [hk]; omega)
  have k6 : Keeps (fun k => k < w.heap.size + 2) W5 W6 := Keeps.wider hk6 (fun k hk => by rw [hk]; omega)
  refine ⟨y, rfl, HE0.out.symm, ?_, kp_below ?_⟩
  · have e1 : W0.drew.heap.size = w.heap.size + 2 := hs0
    have f1 : Foot (fun k => k < w.heap.size + 2) w3 (fun V => IsBytes V y.la y.ln y.lc x.l.lo) := foot_own (HO23.out) HV1.out (fun k hk => by rw [e1]; exact hk)
    have f2 : Foot (fun k => k < w.heap.size + 2) w3 (fun V => IsBytes V y.ha y.hn y.hc x.l.hi) := foot_own (HO3.out) HV2.out (fun k hk => by have := HB2.out.size; omega)
    have f3 := (((f1.and f2).step k5 (fun k hk => .inl hk)).step k6 (fun k hk => .inl hk)).more (Y := fun k => k < w.heap.size) (fun k hk => .inl (by omega))
    refine f3.imp (fun V hV => ?_)
    rw [HE0.out] at hV
    exact ⟨hV.1, hV.2⟩
  · have h1 : Keeps (fun k => w.heap.size ≤ k) w w3 := Below.keeps (HB0.out.trans (HB3.out.mono (by omega))) _
    exact kpThen (kpThen h1 (fun k hk => .inl (by have : k = w.heap.size := hk; omega)) HK5.out) (fun k hk => .inl (by have : k = w.heap.size + 1 := hk; omega)) hk6

end Go.Proofs.YtepaflofbcokaaaDoor
