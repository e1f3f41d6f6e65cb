/- The program's machine: copyOf: a result that shares no memory with what was there. The program's machine: which tables may be: isPlace, the closures, ContainsFunc over columns and tables. The program's machine: which tables may be: colsMayBe, indexesMayBe, mayBe, named. The program's machine: which tables may be: indexesMayBe, mayBe, named. -/
import Derived.Test.YtcgiicmmfleinaaGreatDoorTwT
import Derived.Test.YtcgiicmmfleinaaGreatDoorMfB
import Derived.Test.YtcgiicmmfleinaaGreatDoorSgA
namespace Go.Proofs.YtcgiicmmfleinaaGreatDoor
open Go.RowKit NumMath Go.ChangeShapes Go.WideShapes Go.Deep
set_option linter.unusedVariables false
set_option maxRecDepth 100000

theorem Box7.same {V W : World} {b : Nat} {m : MRes} (h : Box7 V b m) (e : W.heap[b]? = V.heap[b]?) : Box7 W b m :=
  ⟨(World.cell?_of_block (a := ⟨b, 0, none⟩) e).trans h.c0, (World.cell?_of_block (a := ⟨b, 1, none⟩) e).trans h.c1, (World.cell?_of_block (a := ⟨b, 2, none⟩) e).trans h.c2, (World.cell?_of_block (a := ⟨b, 3, none⟩) e).trans h.c3, (World.cell?_of_block (a := ⟨b, 4, none⟩) e).trans h.c4, (World.cell?_of_block (a := ⟨b, 5, none⟩) e).trans h.c5, (World.cell?_of_block (a := ⟨b, 6, none⟩) e).trans h.c6⟩

theorem box7_new (w : World) (m : MRes) (ty : TypeId) : Box7 (w.alloc (.cells #[.int .i64 m.er, .int .u64 m.tx, .int .u64 m.ts, .bool m.fl, .slice m.sa m.sn m.sc, .slice none 0 0, .slice m.ta m.tn m.tc] ty)) w.heap.size m := by
  have hr := rangeY_new w w.heap.size #[.int .i64 m.er, .int .u64 m.tx, .int .u64 m.ts, .bool m.fl, .slice m.sa m.sn m.sc, .slice none 0 0, .slice m.ta m.tn m.tc] ty rfl
  have q : ∀ (j : Nat) (v : Value), #[Value.int .i64 m.er, .int .u64 m.tx, .int .u64 m.ts, .bool m.fl, .slice m.sa m.sn m.sc, .slice none 0 0, .slice m.ta m.tn m.tc].toList[j]? = some v → (w.alloc (.cells #[.int .i64 m.er, .int .u64 m.tx, .int .u64 m.ts, .bool m.fl, .slice m.sa m.sn m.sc, .slice none 0 0, .slice m.ta m.tn m.tc] ty)).cell? ⟨w.heap.size, j, none⟩ = some v := fun j v hv => by
    have := hr j v hv
    rwa [Nat.zero_add] at this
  exact ⟨q 0 _ rfl, q 1 _ rfl, q 2 _ rfl, q 3 _ rfl, q 4 _ rfl, q 5 _ rfl, q 6 _ rfl⟩

open Classical in
theorem foot_all {α : Type} {X : Nat → Prop} {w : World} {P : α → World → Prop} : ∀ {l : List α}, (∀ x ∈ l, Foot X w (P x)) → Foot X w (fun V => ∀ x ∈ l, P x V)
  | [], _ => foot_pure (fun V => by simp)
  | x :: r, h => ((h x (List.mem_cons_self ..)).and (foot_all (l := r) (fun y hy => h y (List.mem_cons_of_mem _ hy)))).imp (fun V hV y hy => by
    rcases List.mem_cons.1 hy with h1 | h1
    · rw [h1]; exact hV.1
    · exact hV.2 y h1)

/-- a copy of a result: its lists lie in new blocks -/
def CopyR (w : World) (x : MRes) (e : Ending) (w' : World) : Prop :=
  ∃ y : MRes, e = .returned y.v ∧ y.r = x.r ∧ Foot (fun k => k < w.heap.size) w' (fun V => y.ok V) ∧ Below w.heap.size w w'

theorem few_mem {x : MRes} (h : x.r.Few) {w : World} (hk : x.ok w) : x.sn ≤ 1000000 ∧ x.tn ≤ 1000000 ∧ ∀ m ∈ x.tbs, m.cs.n ≤ 1000000 ∧ m.ix.n ≤ 1000000 := by
  have h1 := h.ss
  have h2 := h.tbs
  have e1 : x.r.ss.length = x.sn := hk.s.1
  have e2 : x.r.tbs.length = x.tn := by show (x.tbs.map MTb.t).length = _; rw [List.length_map]; exact hk.t.1
  refine ⟨by omega, by omega, fun m hm => ?_⟩
  have h3 := h.tl m.t (List.mem_map.2 ⟨m, hm, rfl⟩)
  have e3 : m.t.cs.length = m.cs.n := (hk.k m hm).cs.1
  have e4 : m.t.ix.length = m.ix.n := (hk.k m hm).ix.1
  omega

set_option maxHeartbeats 8000000 in
theorem pcopyR_any (x : MRes) (w : World) (h : x.ok w) (hf : x.r.Few) : Calls Tryz.prog 74 #[x.v] w fun e w' => CopyR w x e w' := by
  change Calls Tryz.prog 74 #[.agg #[.int .i64 x.er, .int .u64 x.tx, .int .u64 x.ts, .bool x.fl, .slice x.sa x.sn x.sc, .slice none 0 0, .slice x.ta x.tn x.tc]] w _
  obtain ⟨W0, hW0⟩ : ∃ W0, W0 = (w.alloc (.cells #[.int .i64 x.er, .int .u64 x.tx, .int .u64 x.ts, .bool x.fl, .slice x.sa x.sn x.sc, .slice none 0 0, .slice x.ta x.tn x.tc] 55)).alloc (.cells #[.int .i64 0, .int .u64 0, .int .u64 0, .bool false, .slice none 0 0, .slice none 0 0, .slice none 0 0] 55) := ⟨_, rfl⟩
  have hs0 : W0.heap.size = w.heap.size + 2 := by rw [hW0]; simp
  have hb0 : Below w.heap.size w W0 := by rw [hW0]; exact belY (belY (Below.refl _ _) _) _
  have HX0 : Hid (W0.rangeAt w.heap.size 0 [.int .i64 x.er, .int .u64 x.tx, .int .u64 x.ts, .bool x.fl, .slice x.sa x.sn x.sc, .slice none 0 0, .slice x.ta x.tn x.tc]) := by
    show World.rangeAt _ _ _ _
    rw [hW0]
    exact rangeY_same (rangeY_new w w.heap.size #[.int .i64 x.er, .int .u64 x.tx, .int .u64 x.ts, .bool x.fl, .slice x.sa x.sn x.sc, .slice none 0 0, .slice x.ta x.tn x.tc] 55 rfl) ((new_below _ _).block _ (by simp))
  have HZ0 : Hid (W0.rangeAt (w.heap.size + 1) 0 [.int .i64 0, .int .u64 0, .int .u64 0, .bool false, .slice none 0 0, .slice none 0 0, .slice none 0 0]) := by
    show World.rangeAt _ _ _ _
    rw [hW0]
    exact rangeY_new (w.alloc (.cells #[.int .i64 x.er, .int .u64 x.tx, .int .u64 x.ts, .bool x.fl, .slice x.sa x.sn x.sc, .slice none 0 0, .slice x.ta x.tn x.tc] 55)) (w.heap.size + 1) #[.int .i64 0, .int .u64 0, .int .u64 0, .bool false, .slice none 0 0, .slice none 0 0, .slice none 0 0] 55 (by simp)
  have HF0 : Hid (∀ j, W0.frozen? ⟨w.heap.size, j, none⟩ = false ∧ W0.frozen? ⟨w.heap.size + 1, j, none⟩ = false) := by
    intro j
    rw [hW0]
    constructor
    · exact ((new_below (w.alloc (.cells #[.int .i64 x.er, .int .u64 x.tx, .int .u64 x.ts, .bool x.fl, .slice x.sa x.sn x.sc, .slice none 0 0, .slice x.ta x.tn x.tc] 55)) _).frozen (p := ⟨w.heap.size, j, none⟩) (by simp)).trans (fzY_new w #[.int .i64 x.er, .int .u64 x.tx, .int .u64 x.ts, .bool x.fl, .slice x.sa x.sn x.sc, .slice none 0 0, .slice x.ta x.tn x.tc] 55 j)
    · have q := fzY_new (w.alloc (.cells #[.int .i64 x.er, .int .u64 x.tx, .int .u64 x.ts, .bool x.fl, .slice x.sa x.sn x.sc, .slice none 0 0, .slice x.ta x.tn x.tc] 55)) #[.int .i64 0, .int .u64 0, .int .u64 0, .bool false, .slice none 0 0, .slice none 0 0, .slice none 0 0] 55 j
      rwa [World.size_alloc] at q
  obtain ⟨l1, l2, l3⟩ := few_mem hf h
  have HOk := hide h
  have HL3 := hide l3
  clear h hf l3
  have HB0 := hide hb0
  have HPi := hide hs0
  have HLa : Hid (w.heap.size < W0.heap.size) := by show _ < _; omega
  have HLb : Hid (w.heap.size + 1 < W0.heap.size) := by show _ < _; omega
  clear hb0 hs0
  go_enter Tryz.func74, Tryz.ntmps74
  go_upto_region 1 with fail
  rw [← hW0]
  clear hW0
  refine startE (fun i => i == 10 || i == 11 || i == 12 || i == 13 || i == 14) (by kernel_rfl) ?_
  refine' takeE (i := 0) (v := _) rfl (by kernel_rfl) (by kernel_rfl) (by kernel_rfl) (by kernel_rfl) (fun _ _ _ h => h) (by rfl) (Below.refl _ _) ?_ ?_; rotate_left
  · (intro V hSV; go_simp; all_goals (with_reducible rfl))
  (try simp only [Act.put, List.setIfInBounds_toArray, List.set_cons_zero, List.set_cons_succ])
  refine' takeE (i := 1) (v := _) rfl (by kernel_rfl) (by kernel_rfl) (by kernel_rfl) (by kernel_rfl) (fun _ _ _ h => h) (by rfl) (Below.refl _ _) ?_ ?_; rotate_left
  · (intro V hSV; have q := rangeY_same HX0.out ((undT hSV).block _ HLa.out); have x4 := q 4 _ rfl; clear q; go_simp; all_goals (with_reducible rfl))
  (try simp only [Act.put, List.setIfInBounds_toArray, List.set_cons_zero, List.set_cons_succ])
  refine' takeE (i := 3) (v := _) rfl (by kernel_rfl) (by kernel_rfl) (by kernel_rfl) (by kernel_rfl) (fun _ _ _ h => h) (by rfl) (Below.refl _ _) ?_ ?_; rotate_left
  · (intro V hSV; go_simp; all_goals (with_reducible rfl))
  (try simp only [Act.put, List.setIfInBounds_toArray, List.set_cons_zero, List.set_cons_succ])
  refine' takeE (i := 4) (v := _) rfl (by kernel_rfl) (by kernel_rfl) (by kernel_rfl) (by kernel_rfl) (fun _ _ _ h => h) (by rfl) (Below.refl _ _) ?_ ?_; rotate_left
  · (intro V hSV; have q := rangeY_same HX0.out ((undT hSV).block _ HLa.out); have x5 := q 5 _ rfl; clear q; go_simp; all_goals (with_reducible rfl))
  (try simp only [Act.put, List.setIfInBounds_toArray, List.set_cons_zero, List.set_cons_succ])
  refine' takeE (i := 6) (v := _) rfl (by kernel_rfl) (by kernel_rfl) (by kernel_rfl) (by kernel_rfl) (fun _ _ _ h => h) (by rfl) (Below.refl _ _) ?_ ?_; rotate_left
  · (intro V hSV; go_simp; all_goals (with_reducible rfl))
  (try simp only [Act.put, List.setIfInBounds_toArray, List.set_cons_zero, List.set_cons_succ])
  refine' takeE (i := 7) (v := _) rfl (by kernel_rfl) (by kernel_rfl) (by kernel_rfl) (by kernel_rfl) (fun _ _ _ h => h) (by rfl) (Below.refl _ _) ?_ ?_; rotate_left
  · (intro V hSV; have q := rangeY_same HX0.out ((undT hSV).block _ HLa.out); have x6 := q 6 _ rfl; clear q; go_simp; all_goals (with_reducible rfl))
  (try simp only [Act.put, List.setIfInBounds_toArray, List.set_cons_zero, List.set_cons_succ])
  refine callE (i := 2) rfl (by kernel_rfl) (fun K hK => ?_)
  go_simp
  refine (cloneSt_any x.sa x.sn x.sc x.ss W0.drew ((HOk.out.s.keep HB0.out).keep (Below.refl _ W0).drew) l1).mono ?_
  rintro e w1 ⟨v1, rfl, hO1, hb1⟩
  obtain ⟨a1, n1, c1, rfl⟩ := hO1.any3
  have HO1 := hide hO1
  have HB1 := hide hb1
  refine hK.out _ _ (fun _ => HB1.out) ?_
  clear hO1 hb1
  clear hK K
  (try simp only [Act.put, List.setIfInBounds_toArray, List.set_cons_zero, List.set_cons_succ])
  refine' takeE (i := 9) (v := _) rfl (by kernel_rfl) (by kernel_rfl) (by kernel_rfl) (by kernel_rfl) (fun _ _ _ h => h) (by rfl) (HB1.out) ?_ ?_; rotate_left
  · (intro V hSV; go_simp; all_goals (with_reducible rfl))
  (try simp only [Act.put, List.setIfInBounds_toArray, List.set_cons_zero, List.set_cons_succ])
  refine callE (i := 5) rfl (by kernel_rfl) (fun K hK => ?_)
  go_simp
  refine (eachCe_nil w1).mono ?_
  rintro e w2 ⟨rfl, hb2⟩
  have HB12 := hide hb2
  have HB2 := hide (HB1.out.trans (hb2.mono HB1.out.size))
  refine hK.out _ _ (fun _ => HB2.out) ?_
  clear hb2
  clear hK K
  (try simp only [Act.put, List.setIfInBounds_toArray, List.set_cons_zero, List.set_cons_succ])
  refine callE (i := 8) rfl (by kernel_rfl) (fun K hK => ?_)
  go_simp
  have hB02 : Below w.heap.size w w2 := HB0.out.trans ((undT HB2.out).mono HB0.out.size)
  refine (pcopiesT_any x.ta x.tn x.tc x.tbs w2 (HOk.out.t.keep hB02) l2 (fun m hm => (HOk.out.k m hm).keep hB02) HL3.out).mono ?_
  rintro e w3 ⟨a3, n3, c3, ys, rfl, hO3, hm3, hf3, hb3⟩
  have HO3 := hide hO3
  have HM3 := hide hm3
  have HF3 := hide hf3
  have HB23 := hide hb3
  have HB3 := hide (HB2.out.trans (hb3.mono HB2.out.size))
  refine hK.out _ _ (fun _ => HB3.out) ?_
  clear hO3 hm3 hf3 hb3 hB02
  clear hK K
  (try simp only [Act.put, List.setIfInBounds_toArray, List.set_cons_zero, List.set_cons_succ])
  have HXs0 : Hid (w3.rangeAt w.heap.size 0 [.int .i64 x.er, .int .u64 x.tx, .int .u64 x.ts, .bool x.fl, .slice x.sa x.sn x.sc, .slice none 0 0, .slice x.ta x.tn x.tc]) := rangeY_same HX0.out ((undT HB3.out).block _ HLa.out)
  have HZs0 : Hid (w3.rangeAt (w.heap.size + 1) 0 [.int .i64 0, .int .u64 0, .int .u64 0, .bool false, .slice none 0 0, .slice none 0 0, .slice none 0 0]) := rangeY_same HZ0.out ((undT HB3.out).block _ HLb.out)
  have HFs0 : Hid (∀ j, w3.frozen? ⟨w.heap.size, j, none⟩ = false ∧ w3.frozen? ⟨w.heap.size + 1, j, none⟩ = false) := fun j => ⟨((undT HB3.out).frozen (p := ⟨w.heap.size, j, none⟩) HLa.out).trans (HF0.out j).1, ((undT HB3.out).frozen (p := ⟨w.heap.size + 1, j, none⟩) HLb.out).trans (HF0.out j).2⟩
  have HKs0 : Hid (Keeps (fun k => k = w.heap.size) w3 w3) := kpSelf _ _
  refine callE (i := 10) rfl (by kernel_rfl) (fun K hK => ?_)
  have y4 := HXs0.out 4 _ rfl
  have f4 := (HFs0.out 4).1
  go_simp
  obtain ⟨V1, hV1⟩ : ∃ V1, V1 = (w3.setCell ⟨w.heap.size, 4, none⟩ (.slice a1 n1 c1)) := ⟨_, rfl⟩
  rw [← hV1]
  have HXs1 : Hid (V1.rangeAt w.heap.size 0 [.int .i64 x.er, .int .u64 x.tx, .int .u64 x.ts, .bool x.fl, .slice a1 n1 c1, .slice none 0 0, .slice x.ta x.tn x.tc]) := by
    show World.rangeAt _ _ _ _
    rw [hV1]
    exact range_set (i := 4) (v := .slice a1 n1 c1) (HXs0.out) (by show 4 < 7; omega)
  have HZs1 : Hid (V1.rangeAt (w.heap.size + 1) 0 [.int .i64 0, .int .u64 0, .int .u64 0, .bool false, .slice none 0 0, .slice none 0 0, .slice none 0 0]) := by
    show World.rangeAt _ _ _ _
    rw [hV1]
    exact rangeY_same HZs0.out ((Below.heap_setCell _ _ _ _ (by show w.heap.size + 1 ≠ w.heap.size; omega)))
  have HFs1 : Hid (∀ j, V1.frozen? ⟨w.heap.size, j, none⟩ = false ∧ V1.frozen? ⟨w.heap.size + 1, j, none⟩ = false) := by
    intro j
    rw [hV1]
    simp only [World.frozen?_setCell]
    exact HFs0.out j
  have HKs1 : Hid (Keeps (fun k => k = w.heap.size) w3 V1) := by
    show Keeps _ _ _
    rw [hV1]
    exact kpThen (HKs0.out) (fun k hk => .inl hk) (keepsY_cell _)
  refine hK.out _ _ (fun h => by cases h) ?_
  clear hK K hV1 y4 f4
  (try simp only [Act.put, List.setIfInBounds_toArray, List.set_cons_zero, List.set_cons_succ])
  refine callE (i := 11) rfl (by kernel_rfl) (fun K hK => ?_)
  go_simp
  refine hK.out _ _ (fun h => by cases h) ?_
  clear hK K
  (try simp only [Act.put, List.setIfInBounds_toArray, List.set_cons_zero, List.set_cons_succ])
  refine callE (i := 12) rfl (by kernel_rfl) (fun K hK => ?_)
  have y5 := HXs1.out 5 _ rfl
  have f5 := (HFs1.out 5).1
  go_simp
  obtain ⟨V2, hV2⟩ : ∃ V2, V2 = (V1.setCell ⟨w.heap.size, 5, none⟩ (.slice none 0 0)) := ⟨_, rfl⟩
  rw [← hV2]
  have HXs2 : Hid (V2.rangeAt w.heap.size 0 [.int .i64 x.er, .int .u64 x.tx, .int .u64 x.ts, .bool x.fl, .slice a1 n1 c1, .slice none 0 0, .slice x.ta x.tn x.tc]) := by
    show World.rangeAt _ _ _ _
    rw [hV2]
    exact range_set (i := 5) (v := .slice none 0 0) (HXs1.out) (by show 5 < 7; omega)
  have HZs2 : Hid (V2.rangeAt (w.heap.size + 1) 0 [.int .i64 0, .int .u64 0, .int .u64 0, .bool false, .slice none 0 0, .slice none 0 0, .slice none 0 0]) := by
    show World.rangeAt _ _ _ _
    rw [hV2]
    exact rangeY_same HZs1.out ((Below.heap_setCell _ _ _ _ (by show w.heap.size + 1 ≠ w.heap.size; omega)))
  have HFs2 : Hid (∀ j, V2.frozen? ⟨w.heap.size, j, none⟩ = false ∧ V2.frozen? ⟨w.heap.size + 1, j, none⟩ = false) := by
    intro j
    rw [hV2]
    simp only [World.frozen?_setCell]
    exact HFs1.out j
  have HKs2 : Hid (Keeps (fun k => k = w.heap.size) w3 V2) := by
    show Keeps _ _ _
    rw [hV2]
    exact kpThen (HKs1.out) (fun k hk => .inl hk) (keepsY_cell _)
  refine hK.out _ _ (fun h => by cases h) ?_
  clear hK K hV2 y5 f5
  (try simp only [Act.put, List.setIfInBounds_toArray, List.set_cons_zero, List.set_cons_succ])
  refine callE (i := 13) rfl (by kernel_rfl) (fun K hK => ?_)
  go_simp
  refine hK.out _ _ (fun h => by cases h) ?_
  clear hK K
  (try simp only [Act.put, List.setIfInBounds_toArray, List.set_cons_zero, List.set_cons_succ])
  refine callE (i := 14) rfl (by kernel_rfl) (fun K hK => ?_)
  have y6 := HXs2.out 6 _ rfl
  have f6 := (HFs2.out 6).1
  go_simp
  obtain ⟨V3, hV3⟩ : ∃ V3, V3 = (V2.setCell ⟨w.heap.size, 6, none⟩ (.slice a3 n3 c3)) := ⟨_, rfl⟩
  rw [← hV3]
  have HXs3 : Hid (V3.rangeAt w.heap.size 0 [.int .i64 x.er, .int .u64 x.tx, .int .u64 x.ts, .bool x.fl, .slice a1 n1 c1, .slice none 0 0, .slice a3 n3 c3]) := by
    show World.rangeAt _ _ _ _
    rw [hV3]
    exact range_set (i := 6) (v := .slice a3 n3 c3) (HXs2.out) (by show 6 < 7; omega)
  have HZs3 : Hid (V3.rangeAt (w.heap.size + 1) 0 [.int .i64 0, .int .u64 0, .int .u64 0, .bool false, .slice none 0 0, .slice none 0 0, .slice none 0 0]) := by
    show World.rangeAt _ _ _ _
    rw [hV3]
    exact rangeY_same HZs2.out ((Below.heap_setCell _ _ _ _ (by show w.heap.size + 1 ≠ w.heap.size; omega)))
  have HFs3 : Hid (∀ j, V3.frozen? ⟨w.heap.size, j, none⟩ = false ∧ V3.frozen? ⟨w.heap.size + 1, j, none⟩ = false) := by
    intro j
    rw [hV3]
    simp only [World.frozen?_setCell]
    exact HFs2.out j
  have HKs3 : Hid (Keeps (fun k => k = w.heap.size) w3 V3) := by
    show Keeps _ _ _
    rw [hV3]
    exact kpThen (HKs2.out) (fun k hk => .inl hk) (keepsY_cell _)
  refine hK.out _ _ (fun h => by cases h) ?_
  clear hK K hV3 y6 f6
  (try simp only [Act.put, List.setIfInBounds_toArray, List.set_cons_zero, List.set_cons_succ])
  refine doneE (by kernel_rfl) ?_ _
  have hld := HXs3.out
  have zz := HZs3.out
  have z0 := zz 0 _ rfl
  have z1 := zz 1 _ rfl
  have z2 := zz 2 _ rfl
  have z3 := zz 3 _ rfl
  have z4 := zz 4 _ rfl
  have z5 := zz 5 _ rfl
  have z6 := zz 6 _ rfl
  have g0 := (HFs3.out 0).2
  have g1 := (HFs3.out 1).2
  have g2 := (HFs3.out 2).2
  have g3 := (HFs3.out 3).2
  have g4 := (HFs3.out 4).2
  have g5 := (HFs3.out 5).2
  have g6 := (HFs3.out 6).2
  clear zz
  obtain ⟨m2, hm2⟩ : ∃ m2, m2 = (⟨x.er, x.tx, x.ts, x.fl, a1, n1, c1, x.ss, a3, n3, c3, ys⟩ : MRes) := ⟨_, rfl⟩
  have y0 := hld 0 _ rfl
  have y1 := hld 1 _ rfl
  have y2 := hld 2 _ rfl
  have y3 := hld 3 _ rfl
  have y4 := hld 4 _ rfl
  have y5 := hld 5 _ rfl
  have y6 := hld 6 _ rfl
  go_wp2
  change bodyPost _ _ _ _ _ (V3.setCells (w.heap.size + 1) 0 [.int .i64 x.er, .int .u64 x.tx, .int .u64 x.ts, .bool x.fl, .slice a1 n1 c1, .slice none 0 0, .slice a3 n3 c3])
  have hr := box_setT (V := V3) (b := w.heap.size + 1) (new := [.int .i64 x.er, .int .u64 x.tx, .int .u64 x.ts, .bool x.fl, .slice a1 n1 c1, .slice none 0 0, .slice a3 n3 c3]) HZs3.out (Nat.le_refl _) (fun j => (HFs3.out j).2)
  have hk9 : Keeps (fun k => k = w.heap.size + 1) V3 (V3.setCells (w.heap.size + 1) 0 [.int .i64 x.er, .int .u64 x.tx, .int .u64 x.ts, .bool x.fl, .slice a1 n1 c1, .slice none 0 0, .slice a3 n3 c3]) := keepsYs _ _ _ _
  have r0 := hr 0 _ rfl
  have r1 := hr 1 _ rfl
  have r2 := hr 2 _ rfl
  have r3 := hr 3 _ rfl
  have r4 := hr 4 _ rfl
  have r5 := hr 5 _ rfl
  have r6 := hr 6 _ rfl
  clear hr
  generalize V3.setCells (w.heap.size + 1) 0 [.int .i64 x.er, .int .u64 x.tx, .int .u64 x.ts, .bool x.fl, .slice a1 n1 c1, .slice none 0 0, .slice a3 n3 c3] = W9 at *
  refine bodyPost_ret (v := .agg #[.int .i64 x.er, .int .u64 x.tx, .int .u64 x.ts, .bool x.fl, .slice a1 n1 c1, .slice none 0 0, .slice a3 n3 c3]) (by simp [results, Tryz.results74, go_sem, r0, r1, r2, r3, r4, r5, r6]) rfl ?_
  have hs0 : w.heap.size + 2 = W0.heap.size := HPi.out.symm
  have hs00 : W0.drew.heap.size = W0.heap.size := rfl
  have k12 : Keeps (fun k => k = w.heap.size ∨ k = w.heap.size + 1) w3 W9 := kpThen (Keeps.wider HKs3.out (fun k hk => .inl hk)) (fun k hk => .inl (.inr hk)) hk9
  have b2 : Below w.heap.size w w3 := HB0.out.trans ((undT HB3.out).mono HB0.out.size)
  have b9 : Below w.heap.size w W9 := b2.trans (k12.below (B := w.heap.size) b2.size (fun k e => by omega))
  have f1 : Foot (fun k => k < w.heap.size + 2) w1 (fun V => IsY laySt V a1 n1 c1 x.ss) := foot_ownT HO1.out (fun k hk => by omega)
  have hs2 := HB2.out.size
  have f3 : Foot (fun k => k < w.heap.size + 2) w3 (fun V => IsY layTb V a3 n3 c3 ys) := foot_ownT HO3.out (fun k hk => by omega)
  have f4 : Foot (fun k => k < w.heap.size + 2) w3 (fun V => ∀ y ∈ ys, y.ok V) := foot_all (fun y hy => (HF3.out y hy).more (fun k hk => .inl (by show k < w2.heap.size; omega)))
  refine ⟨m2, by rw [hm2]; rfl, by rw [hm2]; show (⟨x.er, x.tx, x.ts, x.fl, x.ss, ys.map MTb.t⟩ : Res) = _; rw [HM3.out]; rfl, ?_, b9⟩
  refine ((((((f1.keep HB12.out).keep HB23.out).and f3).and f4).step (Keeps.wider k12 (fun k hk => by omega)) (fun k hk => .inl hk)).more (fun k hk => .inl (by show k < w.heap.size + 2; omega))).imp (fun V hV => ?_)
  rw [hm2]
  exact ⟨hV.1.1, hV.1.2, hV.2⟩

end Go.Proofs.YtcgiicmmfleinaaGreatDoor

namespace Go.Proofs.YtcgiicmmfleinaaGreatDoor
open Go.RowKit NumMath Go.ChangeShapes Go.WideShapes Go.Deep
set_option linter.unusedVariables false
set_option maxRecDepth 100000

theorem at_ofM {α : Type} {l : List α} {k : Nat} (h : k < l.length) : ∃ m, l[k]? = some m := ⟨_, List.getElem?_eq_getElem h⟩

theorem all_moreQ2 {α : Type} {p : α → Bool} {hs : List α} {k : Nat} {m : α} (h : hs[k]? = some m) : (hs.take (k + 1)).all p = ((hs.take k).all p && p m) := by
  rw [List.take_add_one, h, List.all_append]
  simp

/-- a column's cells in a list -/
theorem at3c_list {w : World} {g off k : Nat} {hs : List Colm} {m : Colm} (hC : CellsY layCo w g off hs) (hm : hs[k]? = some m) : w.cell? ⟨g, off + k * 3, none⟩ = some (.string (strB m.n)) ∧ w.cell? ⟨g, off + k * 3 + 1, none⟩ = some (.int .i64 m.k) ∧ w.cell? ⟨g, off + k * 3 + 2, none⟩ = some (.bool m.nn) :=
  ⟨hC k m hm 0 _ rfl, hC k m hm 1 _ rfl, hC k m hm 2 _ rfl⟩

/-- what IndexFunc answers: the first for which p -/
def IdxQ {α : Type} (p : α → Bool) (hs : List α) (n : Nat) (e : Ending) : Prop :=
  (e = .returned (.int .i64 (-1)) ∧ hs.all (fun m => !p m) = true) ∨
  ∃ k : Nat, k < n ∧ e = .returned (.int .i64 k) ∧ (hs.take k).all (fun m => !p m) = true ∧ ∃ m, hs[k]? = some m ∧ p m = true

theorem idxQ_any {α : Type} {p : α → Bool} {hs : List α} {n : Nat} {e : Ending} (h : IdxQ p hs n e) : ∃ i : Int, e = .returned (.int .i64 i) ∧ decide (0 ≤ i) = hs.any p := by
  rcases h with ⟨rfl, h⟩ | ⟨k, hk, rfl, -, m, hm, hp⟩
  · refine ⟨-1, rfl, ?_⟩
    have : hs.any p = false := by
      rw [List.any_eq_false]
      intro x hx
      have := List.all_eq_true.1 h x hx
      simpa using this
    rw [this]; rfl
  · refine ⟨k, rfl, ?_⟩
    rw [List.any_eq_true.2 ⟨m, List.mem_of_getElem? hm, hp⟩]
    simp

set_option maxHeartbeats 2000000 in
theorem indexCol_any (a : Option Addr) (n c : Nat) (hs : List Colm) (p : Colm → Bool) (B : Nat) (w : World) (h : IsY layCo w a n c hs) (hcl : ∀ W, Below w.heap.size w W → ∀ m ∈ hs, Calls Tryz.prog 176 #[.agg #[.string (strB m.n), .int .i64 m.k, .bool m.nn], .pointer (some ⟨B, 0, none⟩)] W fun e w' => e = .returned (.bool (p m)) ∧ Below W.heap.size W w') :
    Calls Tryz.prog 189 #[.slice a n c, .func (.func 176) #[] #[.pointer (some ⟨B, 0, none⟩)]] w fun e w' => IdxQ p hs n e ∧ Below w.heap.size w w' := by
  have H := hide h
  have HCl := hide hcl
  have hm : (n : Int) ≤ 9223372036854775807 := by have := h.2.1; have := h.2.2.1; unfold maxLen at this; omega
  have HL := hide h.1
  clear h hcl
  go_enter Tryz.func189, Tryz.ntmps189
  go_wp2
  go_loopg [8] n (fun gk i wr => ∃ k : Nat, gk = n - k ∧ i = .int .i64 k ∧ k ≤ n ∧ (hs.take k).all (fun m => !p m) = true ∧ Below w.heap.size w wr)
  case atStart => exact ⟨0, rfl, rfl, Nat.zero_le _, rfl, Below.refl _ _⟩
  case round =>
    obtain ⟨k, rfl, rfl, hk, hA, hB⟩ := hrel
    have HB := hide hB
    have HA := hide hA
    clear hA
    by_cases hlt : k < n
    · have hlt' : (k : Int) < (n : Int) := by omega
      obtain ⟨m, hmk⟩ := at_ofM (l := hs) (k := k) (by have := HL.out; omega)
      obtain ⟨g, off, rfl, hg, hC⟩ := H.out.at hlt
      obtain ⟨d0, d1, d2⟩ := at3c_list (hC.same (hB.block g hg)) hmk
      have HC := hide (HCl.out wr hB m (List.mem_of_getElem? hmk))
      have HMk := hide hmk
      have HMo := hide (all_moreQ2 (p := fun m => !p m) hmk)
      obtain ⟨z, hz⟩ : ∃ z, p m = z := ⟨_, rfl⟩
      rw [hz] at HC HMo
      rw [HA.out] at HMo
      have HZ := hide hz
      clear hC hmk hB hz
      cases z with
      | true =>
        go_wp2_with (first
          | (go_at_call 176; go_must (refine HC.out.mono ?_); rintro e w2 ⟨rfl, hb2⟩; have HB2 := hide hb2; clear hb2))
        go_ret
        exact ⟨.inr ⟨k, hlt, rfl, HA.out, m, HMk.out, HZ.out⟩, HB.out.trans (HB2.out.mono HB.out.size)⟩
      | false =>
        go_wp2_with (first
          | (go_at_call 176; go_must (refine HC.out.mono ?_); rintro e w2 ⟨rfl, hb2⟩; have HB2 := hide hb2; clear hb2))
        go_roundg (n - (k + 1))
        case measure => omega
        case rel => exact ⟨k + 1, rfl, by go_num, by omega, by rw [HMo.out]; rfl, HB.out.trans (HB2.out.mono HB.out.size)⟩
    · obtain rfl : k = n := by omega
      have ek : hs.take k = hs := List.take_of_length_le (by have := HL.out; omega)
      rw [ek] at HA
      clear hB
      go_wp2
      go_ret
      exact ⟨.inl ⟨rfl, HA.out⟩, HB.out⟩

theorem containsCol_any (a : Option Addr) (n c : Nat) (hs : List Colm) (p : Colm → Bool) (B : Nat) (w : World) (h : IsY layCo w a n c hs) (hcl : ∀ W, Below w.heap.size w W → ∀ m ∈ hs, Calls Tryz.prog 176 #[.agg #[.string (strB m.n), .int .i64 m.k, .bool m.nn], .pointer (some ⟨B, 0, none⟩)] W fun e w' => e = .returned (.bool (p m)) ∧ Below W.heap.size W w') :
    Calls Tryz.prog 175 #[.slice a n c, .func (.func 176) #[] #[.pointer (some ⟨B, 0, none⟩)]] w fun e w' => e = .returned (.bool (hs.any p)) ∧ Below w.heap.size w w' := by
  have HI := hide (indexCol_any a n c hs p B w h hcl)
  clear h hcl
  go_enter Tryz.func175, Tryz.ntmps175
  go_wp2_with (first
    | (go_at_call 189; go_must (refine HI.out.mono ?_); rintro e w2 ⟨hi, hb⟩; obtain ⟨i, rfl, hi2⟩ := idxQ_any hi; have HX := hide hi2; have HB := hide hb; clear hi hi2 hb))
  go_ret
  exact ⟨by rw [← HX.out]; rfl, HB.out⟩

set_option maxHeartbeats 2000000 in
theorem indexTab_any (a : Option Addr) (n c : Nat) (hs : List MTb) (p : MTb → Bool) (B : Nat) (w : World) (h : IsY layTb w a n c hs) (hcl : ∀ W, Below w.heap.size w W → ∀ m ∈ hs, Calls Tryz.prog 153 #[.agg #[.int .i64 m.id, .string (strB m.nm), .slice m.cs.a m.cs.n m.cs.c, .int .i64 m.ky, .slice m.ix.a m.ix.n m.ix.c], .pointer (some ⟨B, 0, none⟩)] W fun e w' => e = .returned (.bool (p m)) ∧ Below W.heap.size W w') :
    Calls Tryz.prog 178 #[.slice a n c, .func (.func 153) #[] #[.pointer (some ⟨B, 0, none⟩)]] w fun e w' => IdxQ p hs n e ∧ Below w.heap.size w w' := by
  have H := hide h
  have HCl := hide hcl
  have hm : (n : Int) ≤ 9223372036854775807 := by have := h.2.1; have := h.2.2.1; unfold maxLen at this; omega
  have HL := hide h.1
  clear h hcl
  go_enter Tryz.func178, Tryz.ntmps178
  go_wp2
  go_loopg [8] n (fun gk i wr => ∃ k : Nat, gk = n - k ∧ i = .int .i64 k ∧ k ≤ n ∧ (hs.take k).all (fun m => !p m) = true ∧ Below w.heap.size w wr)
  case atStart => exact ⟨0, rfl, rfl, Nat.zero_le _, rfl, Below.refl _ _⟩
  case round =>
    obtain ⟨k, rfl, rfl, hk, hA, hB⟩ := hrel
    have HB := hide hB
    have HA := hide hA
    clear hA
    by_cases hlt : k < n
    · have hlt' : (k : Int) < (n : Int) := by omega
      obtain ⟨m, hmk⟩ := at_ofM (l := hs) (k := k) (by have := HL.out; omega)
      obtain ⟨g, off, rfl, hg, hC⟩ := H.out.at hlt
      obtain ⟨d0, d1, d2, d3, d4⟩ := at5t_list (hC.same (hB.block g hg)) hmk
      have HC := hide (HCl.out wr hB m (List.mem_of_getElem? hmk))
      have HMk := hide hmk
      have HMo := hide (all_moreQ2 (p := fun m => !p m) hmk)
      obtain ⟨z, hz⟩ : ∃ z, p m = z := ⟨_, rfl⟩
      rw [hz] at HC HMo
      rw [HA.out] at HMo
      have HZ := hide hz
      clear hC hmk hB hz
      cases z with
      | true =>
        go_wp2_with (first
          | (go_at_call 153; go_must (refine HC.out.mono ?_); rintro e w2 ⟨rfl, hb2⟩; have HB2 := hide hb2; clear hb2))
        go_ret
        exact ⟨.inr ⟨k, hlt, rfl, HA.out, m, HMk.out, HZ.out⟩, HB.out.trans (HB2.out.mono HB.out.size)⟩
      | false =>
        go_wp2_with (first
          | (go_at_call 153; go_must (refine HC.out.mono ?_); rintro e w2 ⟨rfl, hb2⟩; have HB2 := hide hb2; clear hb2))
        go_roundg (n - (k + 1))
        case measure => omega
        case rel => exact ⟨k + 1, rfl, by go_num, by omega, by rw [HMo.out]; rfl, HB.out.trans (HB2.out.mono HB.out.size)⟩
    · obtain rfl : k = n := by omega
      have ek : hs.take k = hs := List.take_of_length_le (by have := HL.out; omega)
      rw [ek] at HA
      clear hB
      go_wp2
      go_ret
      exact ⟨.inl ⟨rfl, HA.out⟩, HB.out⟩

theorem containsTab_any (a : Option Addr) (n c : Nat) (hs : List MTb) (p : MTb → Bool) (B : Nat) (w : World) (h : IsY layTb w a n c hs) (hcl : ∀ W, Below w.heap.size w W → ∀ m ∈ hs, Calls Tryz.prog 153 #[.agg #[.int .i64 m.id, .string (strB m.nm), .slice m.cs.a m.cs.n m.cs.c, .int .i64 m.ky, .slice m.ix.a m.ix.n m.ix.c], .pointer (some ⟨B, 0, none⟩)] W fun e w' => e = .returned (.bool (p m)) ∧ Below W.heap.size W w') :
    Calls Tryz.prog 152 #[.slice a n c, .func (.func 153) #[] #[.pointer (some ⟨B, 0, none⟩)]] w fun e w' => e = .returned (.bool (hs.any p)) ∧ Below w.heap.size w w' := by
  have HI := hide (indexTab_any a n c hs p B w h hcl)
  clear h hcl
  go_enter Tryz.func152, Tryz.ntmps152
  go_wp2_with (first
    | (go_at_call 178; go_must (refine HI.out.mono ?_); rintro e w2 ⟨hi, hb⟩; obtain ⟨i, rfl, hi2⟩ := idxQ_any hi; have HX := hide hi2; have HB := hide hb; clear hi hi2 hb))
  go_ret
  exact ⟨by rw [← HX.out]; rfl, HB.out⟩

theorem isPlace_any (k : Int) (ca : Option Addr) (cn cc : Nat) (cs : List Colm) (w : World) (hc : cs.length = cn) (hm : (cn : Int) ≤ 9223372036854775807) : Calls Tryz.prog 150 #[.int .i64 k, .slice ca cn cc] w fun e w' => e = .returned (.bool (placeB k cs)) ∧ w' = w := by
  obtain ⟨zz, hz⟩ : ∃ zz, placeB k cs = zz := ⟨_, rfl⟩
  rw [hz]
  unfold placeB at hz
  rw [hc] at hz
  have HZ := hide hz
  clear hz hc
  by_cases h0 : 0 ≤ k
  · have e0 : decide (0 ≤ k) = true := decide_eq_true h0
    by_cases h1 : k < (cn : Int)
    · have e1 : decide (k < (cn : Int)) = true := decide_eq_true h1
      go_enter Tryz.func150, Tryz.ntmps150
      go_wp2
      go_ret
      exact ⟨by rw [← HZ.out, e0, e1]; rfl, rfl⟩
    · have e1 : decide (k < (cn : Int)) = false := decide_eq_false h1
      go_enter Tryz.func150, Tryz.ntmps150
      go_wp2
      go_ret
      exact ⟨by rw [← HZ.out, e0, e1]; rfl, rfl⟩
  · have e0 : decide (0 ≤ k) = false := decide_eq_false h0
    go_enter Tryz.func150, Tryz.ntmps150
    go_wp2
    go_ret
    exact ⟨by rw [← HZ.out, e0]; rfl, rfl⟩

/-- the closure of colsMayBe: whether its column bears c's name, which lies in box B -/
theorem colC_any (m : Colm) (nm : List Int) (B : Nat) (w : World) (hB : w.cell? ⟨B, 0, none⟩ = some (.string (strB nm))) (hl : B < w.heap.size) :
    Calls Tryz.prog 176 #[.agg #[.string (strB m.n), .int .i64 m.k, .bool m.nn], .pointer (some ⟨B, 0, none⟩)] w fun e w' => e = .returned (.bool (eqN m.n nm)) ∧ Below w.heap.size w w' := by
  have hn := new_below w (.cells #[.string (strB m.n), .int .i64 m.k, .bool m.nn] 73)
  have x0 := (hn.cell (p := ⟨B, 0, none⟩) hl).trans hB
  have HN := hide hn
  have hne : ¬ B = w.heap.size := by omega
  clear hB hn
  go_enter Tryz.func176, Tryz.ntmps176
  go_wp2
  go_ret
  exact ⟨rfl, HN.out⟩

/-- the closure of named: whether its table bears the name, which lies in box B -/
theorem nameC_any (m : MTb) (nm : List Int) (B : Nat) (w : World) (hB : w.cell? ⟨B, 0, none⟩ = some (.string (strB nm))) (hl : B < w.heap.size) :
    Calls Tryz.prog 153 #[.agg #[.int .i64 m.id, .string (strB m.nm), .slice m.cs.a m.cs.n m.cs.c, .int .i64 m.ky, .slice m.ix.a m.ix.n m.ix.c], .pointer (some ⟨B, 0, none⟩)] w fun e w' => e = .returned (.bool (eqN m.nm nm)) ∧ Below w.heap.size w w' := by
  have hn := new_below w (.cells #[.int .i64 m.id, .string (strB m.nm), .slice m.cs.a m.cs.n m.cs.c, .int .i64 m.ky, .slice m.ix.a m.ix.n m.ix.c] 48)
  have x0 := (hn.cell (p := ⟨B, 0, none⟩) hl).trans hB
  have HN := hide hn
  have hne : ¬ B = w.heap.size := by omega
  clear hB hn
  go_enter Tryz.func153, Tryz.ntmps153
  go_wp2
  go_ret
  exact ⟨rfl, HN.out⟩

end Go.Proofs.YtcgiicmmfleinaaGreatDoor

namespace Go.Proofs.YtcgiicmmfleinaaGreatDoor
open Go.RowKit NumMath Go.ChangeShapes Go.WideShapes Go.Deep
set_option linter.unusedVariables false
set_option maxRecDepth 100000

def colF (l : List Colm) (i : Nat) : Bool := match l[i]? with
  | some c => !(noN c.n || (l.take i).any (fun x => eqN x.n c.n) || (c.k != 1 && c.k != 2))
  | none => true

theorem colsB_eq (l : List Colm) : colsB l = (!l.isEmpty && decide (l.length ≤ 12) && (List.range l.length).all (colF l)) := rfl

def ixF (l : List Int) (cs : List Colm) (i : Nat) : Bool := match l[i]? with
  | some k => !(!placeB k cs || (l.take i).any (fun x => x == k))
  | none => true

theorem ixsB_eq (l : List Int) (cs : List Colm) : ixsB l cs = (decide (l.length ≤ 4) && (List.range l.length).all (ixF l cs)) := rfl

theorem range_more {f : Nat → Bool} {k : Nat} : (List.range (k + 1)).all f = ((List.range k).all f && f k) := by
  rw [List.range_succ, List.all_append]
  simp

theorem range_bad {f : Nat → Bool} {k n : Nat} (hk : k < n) (h : f k = false) : (List.range n).all f = false := by
  rw [List.all_eq_false]
  exact ⟨k, List.mem_range.2 hk, by rw [h]; simp⟩

theorem colF_at {l : List Colm} {k : Nat} {c : Colm} (h : l[k]? = some c) : colF l k = !(noN c.n || (l.take k).any (fun x => eqN x.n c.n) || (c.k != 1 && c.k != 2)) := by
  unfold colF; rw [h]

theorem ixF_at {l : List Int} {cs : List Colm} {i : Nat} {k : Int} (h : l[i]? = some k) : ixF l cs i = !(!placeB k cs || (l.take i).any (fun x => x == k)) := by
  unfold ixF; rw [h]

set_option maxHeartbeats 4000000 in
theorem colsMayBe_any (ca : Option Addr) (n c : Nat) (l : List Colm) (w : World) (h : IsY layCo w ca n c l) : Calls Tryz.prog 149 #[.slice ca n c] w fun e w' => e = .returned (.bool (colsB l)) ∧ Below w.heap.size w w' := by
  obtain ⟨zz, hz⟩ : ∃ zz, colsB l = zz := ⟨_, rfl⟩
  rw [hz]
  rw [colsB_eq] at hz
  have hl := h.1
  have hm : (n : Int) ≤ 9223372036854775807 := by have := h.2.1; have := h.2.2.1; unfold maxLen at this; omega
  have H := hide h
  have HL := hide hl
  clear h
  by_cases h0 : n = 0
  · subst h0
    have hx : l = [] := List.length_eq_zero_iff.1 hl
    subst hx
    have HZ := hide hz
    clear hz hl
    go_enter Tryz.func149, Tryz.ntmps149
    go_wp2
    go_ret
    exact ⟨by rw [← HZ.out]; rfl, Below.refl _ _⟩
  have h0i : ((n : Int) == 0) = false := by simp; omega
  have he : l.isEmpty = false := by cases l with
    | nil => simp at hl; omega
    | cons => rfl
  by_cases h12 : (12 : Int) < (n : Int)
  · have h12n : 12 < n := by omega
    have HZ := hide (show zz = false by rw [← hz, he, hl, decide_eq_false (by omega)]; rfl)
    clear hz hl he
    go_enter Tryz.func149, Tryz.ntmps149
    go_wp2
    go_ret
    exact ⟨by rw [HZ.out]; rfl, Below.refl _ _⟩
  have h12n : ¬ 12 < n := by omega
  have HZ := hide (show zz = (List.range n).all (colF l) by rw [← hz, he, hl, decide_eq_true (by omega)]; simp)
  clear hz hl he
  go_enter Tryz.func149, Tryz.ntmps149
  go_wp2
  go_loopg [16] n (fun gk i wr => ∃ k : Nat, gk = n - k ∧ i = .int .i64 k ∧ k ≤ n ∧ (List.range k).all (colF l) = true ∧ Below w.heap.size w wr)
  case atStart => exact ⟨0, rfl, rfl, Nat.zero_le _, rfl, Below.refl _ _⟩
  case round =>
    obtain ⟨k, rfl, rfl, hk, hA, hB⟩ := hrel
    have HB := hide hB
    have HA := hide hA
    have hsw := hB.size
    clear hA
    by_cases hlt : k < n
    · have hlt' : (k : Int) < (n : Int) := by omega
      obtain ⟨m, hmk⟩ := at_ofM (l := l) (k := k) (by have := HL.out; omega)
      have hbN := new_below wr (.cells #[.string (strB m.n), .int .i64 m.k, .bool m.nn] 73)
      obtain ⟨b, hcut, hY⟩ := isY_cut layCo ((H.out.keep hB).keep hbN) k (Nat.le_of_lt hlt)
      have hcut' : ∀ W, (Instr.sliceAt 45 (.slice ca n c) none (some (.int .i64 (k : Int))) none).run Tryz.prog W = .ok (.slice b k c) W := hcut
      obtain ⟨g, off, rfl, hg, hC⟩ := H.out.at hlt
      obtain ⟨d0, d1, d2⟩ := at3c_list (hC.same (hB.block g hg)) hmk
      have HCf := hide (containsCol_any b k c (l.take k) (fun x => eqN x.n m.n) wr.heap.size (wr.alloc (.cells #[.string (strB m.n), .int .i64 m.k, .bool m.nn] 73)) hY (fun W hW x _ => colC_any x m.n wr.heap.size W ((hW.cell (p := ⟨wr.heap.size, 0, none⟩) (by simp)).trans (by simp)) (Nat.lt_of_lt_of_le (by simp) hW.size)))
      have HF := hide (colF_at hmk)
      have HBN := hide hbN
      have hbox : ∀ V, Below (wr.alloc (.cells #[.string (strB m.n), .int .i64 m.k, .bool m.nn] 73)).heap.size (wr.alloc (.cells #[.string (strB m.n), .int .i64 m.k, .bool m.nn] 73)) V → V.cell? ⟨wr.heap.size, 0, none⟩ = some (.string (strB m.n)) ∧ V.cell? ⟨wr.heap.size, 1, none⟩ = some (.int .i64 m.k) := fun V hV => ⟨(hV.cell (p := ⟨wr.heap.size, 0, none⟩) (by simp)).trans (by simp), (hV.cell (p := ⟨wr.heap.size, 1, none⟩) (by simp)).trans (by simp)⟩
      have HBox := hide hbox
      obtain ⟨zt, hzt⟩ : ∃ z, (l.take k).any (fun x => eqN x.n m.n) = z := ⟨_, rfl⟩
      rw [hzt] at HCf HF
      obtain ⟨ze, hze⟩ : ∃ z, noN m.n = z := ⟨_, rfl⟩
      rw [hze] at HF
      have hze' : (strB m.n).toList.isEmpty = ze := hze
      clear hC hmk hB hbN hY hcut hzt hbox hze
      cases ze with
      | true =>
        have hzn : (strB m.n).toList = [] := List.isEmpty_iff.1 hze'
        have HFb := hide (show zz = false by rw [HZ.out]; exact range_bad hlt (by rw [HF.out]; rfl))
        go_wp2_with (first
          | (go_at_call 175; go_must (refine HCf.out.mono ?_); rintro e w2 ⟨rfl, hb2⟩; obtain ⟨y0, y1⟩ := HBox.out _ hb2; have HB2 := hide hb2; clear hb2))
        go_ret
        exact ⟨by rw [HFb.out]; rfl, HB.out.trans ((HBN.out.trans (HB2.out.mono HBN.out.size)).mono hsw)⟩
      | false =>
        have hzn : ¬ (strB m.n).toList = [] := fun e => by rw [e] at hze'; cases hze'
        cases zt with
        | true =>
          have HFb := hide (show zz = false by rw [HZ.out]; exact range_bad hlt (by rw [HF.out]; rfl))
          go_wp2_with (first
            | (go_at_call 175; go_must (refine HCf.out.mono ?_); rintro e w2 ⟨rfl, hb2⟩; obtain ⟨y0, y1⟩ := HBox.out _ hb2; have HB2 := hide hb2; clear hb2))
          go_ret
          exact ⟨by rw [HFb.out]; rfl, HB.out.trans ((HBN.out.trans (HB2.out.mono HBN.out.size)).mono hsw)⟩
        | false =>
          by_cases hk1 : m.k = 1
          · have e1 : (m.k != 1) = false := by simp [hk1]
            have HMo := hide (show (List.range (k + 1)).all (colF l) = true by rw [range_more, HA.out, HF.out, e1]; rfl)
            clear hk1
            go_wp2_with (first
              | (go_at_call 175; go_must (refine HCf.out.mono ?_); rintro e w2 ⟨rfl, hb2⟩; obtain ⟨y0, y1⟩ := HBox.out _ hb2; have HB2 := hide hb2; clear hb2))
            go_roundg (n - (k + 1))
            case measure => omega
            case rel => exact ⟨k + 1, rfl, by go_num, by omega, HMo.out, HB.out.trans ((HBN.out.trans (HB2.out.mono HBN.out.size)).mono hsw)⟩
          · have e1 : (m.k != 1) = true := by simp [hk1]
            by_cases hk2 : m.k = 2
            · have e2 : (m.k != 2) = false := by simp [hk2]
              have HMo := hide (show (List.range (k + 1)).all (colF l) = true by rw [range_more, HA.out, HF.out, e1, e2]; rfl)
              clear hk1 hk2
              go_wp2_with (first
                | (go_at_call 175; go_must (refine HCf.out.mono ?_); rintro e w2 ⟨rfl, hb2⟩; obtain ⟨y0, y1⟩ := HBox.out _ hb2; have HB2 := hide hb2; clear hb2))
              go_roundg (n - (k + 1))
              case measure => omega
              case rel => exact ⟨k + 1, rfl, by go_num, by omega, HMo.out, HB.out.trans ((HBN.out.trans (HB2.out.mono HBN.out.size)).mono hsw)⟩
            · have e2 : (m.k != 2) = true := by simp [hk2]
              have HFb := hide (show zz = false by rw [HZ.out]; exact range_bad hlt (by rw [HF.out, e1, e2]; rfl))
              clear hk1 hk2
              go_wp2_with (first
                | (go_at_call 175; go_must (refine HCf.out.mono ?_); rintro e w2 ⟨rfl, hb2⟩; obtain ⟨y0, y1⟩ := HBox.out _ hb2; have HB2 := hide hb2; clear hb2))
              go_ret
              exact ⟨by rw [HFb.out]; rfl, HB.out.trans ((HBN.out.trans (HB2.out.mono HBN.out.size)).mono hsw)⟩
    · obtain rfl : k = n := by omega
      clear hB
      go_wp2
      go_ret
      exact ⟨by rw [HZ.out, HA.out]; rfl, HB.out⟩

end Go.Proofs.YtcgiicmmfleinaaGreatDoor

namespace Go.Proofs.YtcgiicmmfleinaaGreatDoor
open Go.RowKit NumMath Go.ChangeShapes Go.WideShapes Go.Deep
set_option linter.unusedVariables false
set_option maxRecDepth 100000

set_option maxHeartbeats 2000000 in
theorem indexIx_any (a : Option Addr) (n c : Nat) (hs : List Int) (v : Int) (w : World) (h : IsY layIx w a n c hs) :
    Calls Tryz.prog 190 #[.slice a n c, .int .i64 v] w fun e w' => IdxQ (fun x => x == v) hs n e ∧ w' = w := by
  have H := hide h
  have hm : (n : Int) ≤ 9223372036854775807 := by have := h.2.1; have := h.2.2.1; unfold maxLen at this; omega
  have HL := hide h.1
  clear h
  go_enter Tryz.func190, Tryz.ntmps190
  go_wp2
  go_loopg [8] n (fun gk i wr => ∃ k : Nat, gk = n - k ∧ i = .int .i64 k ∧ k ≤ n ∧ (hs.take k).all (fun x => !(x == v)) = true ∧ wr = w)
  case atStart => exact ⟨0, rfl, rfl, Nat.zero_le _, rfl, rfl⟩
  case round =>
    obtain ⟨k, rfl, rfl, hk, hA, hw⟩ := hrel
    subst hw
    have HA := hide hA
    clear hA
    by_cases hlt : k < n
    · have hlt' : (k : Int) < (n : Int) := by omega
      obtain ⟨m, hmk⟩ := at_ofM (l := hs) (k := k) (by have := HL.out; omega)
      obtain ⟨g, off, rfl, hg, hC⟩ := H.out.at hlt
      have d0 : wr.cell? ⟨g, off + k, none⟩ = some (.int .i64 m) := by simpa [layIx] using hC k m hmk 0 _ rfl
      have HMk := hide hmk
      have HMo := hide (all_moreQ2 (p := fun x => !(x == v)) hmk)
      rw [HA.out] at HMo
      clear hC hmk
      by_cases hz : m = v
      · have hz1 : (v == m) = true := by simp [hz]
        have HZ := hide hz
        clear hz
        go_wp2
        go_ret
        exact ⟨.inr ⟨k, hlt, rfl, HA.out, m, HMk.out, by simp [HZ.out]⟩, rfl⟩
      · have hz1 : (v == m) = false := by simp; exact fun e => hz e.symm
        have hz2 : (m == v) = false := by simp [hz]
        have HMo2 := hide (show (hs.take (k + 1)).all (fun x => !(x == v)) = true by rw [HMo.out, hz2]; rfl)
        clear hz hz2
        go_wp2
        go_roundg (n - (k + 1))
        case measure => omega
        case rel => exact ⟨k + 1, rfl, by go_num, by omega, HMo2.out, rfl⟩
    · obtain rfl : k = n := by omega
      have ek : hs.take k = hs := List.take_of_length_le (by have := HL.out; omega)
      rw [ek] at HA
      go_wp2
      go_ret
      exact ⟨.inl ⟨rfl, HA.out⟩, rfl⟩

theorem containsIx_any (a : Option Addr) (n c : Nat) (hs : List Int) (v : Int) (w : World) (h : IsY layIx w a n c hs) :
    Calls Tryz.prog 177 #[.slice a n c, .int .i64 v] w fun e w' => e = .returned (.bool (hs.any (fun x => x == v))) ∧ w' = w := by
  have HI := hide (indexIx_any a n c hs v w h)
  clear h
  go_enter Tryz.func177, Tryz.ntmps177
  go_wp2_with (first
    | (go_at_call 190; go_must (refine HI.out.mono ?_); rintro e w2 ⟨hi, hw⟩; have hw := hw.symm; subst hw; obtain ⟨i, rfl, hi2⟩ := idxQ_any hi; have HX := hide hi2; clear hi hi2))
  go_ret
  exact ⟨by rw [← HX.out]; rfl, rfl⟩

set_option maxHeartbeats 4000000 in
theorem indexesMayBe_any (ia : Option Addr) (n c : Nat) (l : List Int) (ca : Option Addr) (cn cc : Nat) (cs : List Colm) (w : World) (h : IsY layIx w ia n c l) (hc : cs.length = cn) (hcm : (cn : Int) ≤ 9223372036854775807) :
    Calls Tryz.prog 151 #[.slice ia n c, .slice ca cn cc] w fun e w' => e = .returned (.bool (ixsB l cs)) ∧ w' = w := by
  obtain ⟨zz, hz⟩ : ∃ zz, ixsB l cs = zz := ⟨_, rfl⟩
  rw [hz]
  rw [ixsB_eq] at hz
  have hl := h.1
  have hm : (n : Int) ≤ 9223372036854775807 := by have := h.2.1; have := h.2.2.1; unfold maxLen at this; omega
  have H := hide h
  have HL := hide hl
  have HPl := hide (fun k => isPlace_any k ca cn cc cs w hc hcm)
  clear h hc
  by_cases h4 : (4 : Int) < (n : Int)
  · have h4n : 4 < n := by omega
    have HZ := hide (show zz = false by rw [← hz, hl, decide_eq_false (by omega)]; rfl)
    clear hz hl
    go_enter Tryz.func151, Tryz.ntmps151
    go_wp2
    go_ret
    exact ⟨by rw [HZ.out]; rfl, rfl⟩
  have h4n : ¬ 4 < n := by omega
  have HZ := hide (show zz = (List.range n).all (ixF l cs) by rw [← hz, hl, decide_eq_true (by omega)]; simp)
  clear hz hl
  go_enter Tryz.func151, Tryz.ntmps151
  go_wp2
  go_loopg [12] n (fun gk i wr => ∃ k : Nat, gk = n - k ∧ i = .int .i64 k ∧ k ≤ n ∧ (List.range k).all (ixF l cs) = true ∧ wr = w)
  case atStart => exact ⟨0, rfl, rfl, Nat.zero_le _, rfl, rfl⟩
  case round =>
    obtain ⟨k, rfl, rfl, hk, hA, hw⟩ := hrel
    subst hw
    have HA := hide hA
    clear hA
    by_cases hlt : k < n
    · have hlt' : (k : Int) < (n : Int) := by omega
      obtain ⟨m, hmk⟩ := at_ofM (l := l) (k := k) (by have := HL.out; omega)
      obtain ⟨b, hcut, hY⟩ := isY_cut layIx H.out k (Nat.le_of_lt hlt)
      have hcut' : ∀ W, (Instr.sliceAt 46 (.slice ia n c) none (some (.int .i64 (k : Int))) none).run Tryz.prog W = .ok (.slice b k c) W := hcut
      obtain ⟨g, off, rfl, hg, hC⟩ := H.out.at hlt
      have d0 : wr.cell? ⟨g, off + k, none⟩ = some (.int .i64 m) := by simpa [layIx] using hC k m hmk 0 _ rfl
      have HCf := hide (containsIx_any b k c (l.take k) m wr hY)
      have HPk := hide (HPl.out m)
      have HF := hide (ixF_at (cs := cs) hmk)
      obtain ⟨zt, hzt⟩ : ∃ z, (l.take k).any (fun x => x == m) = z := ⟨_, rfl⟩
      rw [hzt] at HCf HF
      obtain ⟨zp, hzp⟩ : ∃ z, placeB m cs = z := ⟨_, rfl⟩
      rw [hzp] at HPk HF
      clear hC hmk hY hcut hzt hzp
      cases zp with
      | false =>
        have HFb := hide (show zz = false by rw [HZ.out]; exact range_bad hlt (by rw [HF.out]; rfl))
        go_wp2_with (first
          | (go_at_call 150; go_must (refine HPk.out.mono ?_); rintro e w2 ⟨rfl, hw⟩; have hw := hw.symm; subst hw))
        go_ret
        exact ⟨by rw [HFb.out]; rfl, rfl⟩
      | true =>
        cases zt with
        | true =>
          have HFb := hide (show zz = false by rw [HZ.out]; exact range_bad hlt (by rw [HF.out]; rfl))
          go_wp2_with (first
            | (go_at_call 177; refine HCf.out.mono ?_; rintro e w2 ⟨rfl, hw⟩; have hw := hw.symm; subst hw)
            | (go_at_call 150; go_must (refine HPk.out.mono ?_); rintro e w2 ⟨rfl, hw⟩; have hw := hw.symm; subst hw))
          go_ret
          exact ⟨by rw [HFb.out]; rfl, rfl⟩
        | false =>
          have HMo := hide (show (List.range (k + 1)).all (ixF l cs) = true by rw [range_more, HA.out, HF.out]; rfl)
          go_wp2_with (first
            | (go_at_call 177; refine HCf.out.mono ?_; rintro e w2 ⟨rfl, hw⟩; have hw := hw.symm; subst hw)
            | (go_at_call 150; go_must (refine HPk.out.mono ?_); rintro e w2 ⟨rfl, hw⟩; have hw := hw.symm; subst hw))
          go_roundg (n - (k + 1))
          case measure => omega
          case rel => exact ⟨k + 1, rfl, by go_num, by omega, HMo.out, rfl⟩
    · obtain rfl : k = n := by omega
      go_wp2
      go_ret
      exact ⟨by rw [HZ.out, HA.out]; rfl, rfl⟩

set_option maxHeartbeats 2000000 in
theorem mayBe_anyT (t : MTb) (w : World) (h : t.ok w) : Calls Tryz.prog 120 #[.agg #[.int .i64 t.id, .string (strB t.nm), .slice t.cs.a t.cs.n t.cs.c, .int .i64 t.ky, .slice t.ix.a t.ix.n t.ix.c]] w fun e w' => e = .returned (.bool (mayB t.t)) ∧ Below w.heap.size w w' := by
  obtain ⟨zz, hz⟩ : ∃ zz, mayB t.t = zz := ⟨_, rfl⟩
  rw [hz]
  have hz : (!noN t.nm && colsB t.cs.xs && placeB t.ky t.cs.xs && ixsB t.ix.xs t.cs.xs) = zz := hz
  have HZ := hide hz
  obtain ⟨W1, hW1⟩ : ∃ W1, W1 = w.alloc (.cells #[.int .i64 t.id, .string (strB t.nm), .slice t.cs.a t.cs.n t.cs.c, .int .i64 t.ky, .slice t.ix.a t.ix.n t.ix.c] 48) := ⟨_, rfl⟩
  have hb1 : Below w.heap.size w W1 := by rw [hW1]; exact new_below _ _
  have hT1 : At5t W1 w.heap.size 0 t := by rw [hW1]; exact at5t_new w t
  have hs1 : w.heap.size < W1.heap.size := by rw [hW1]; simp
  have hcm : (t.cs.n : Int) ≤ 9223372036854775807 := by have := h.cs.2.1; have := h.cs.2.2.1; unfold maxLen at this; omega
  have HC := hide (colsMayBe_any t.cs.a t.cs.n t.cs.c t.cs.xs W1 (h.cs.keep hb1))
  have HP := hide (fun V => isPlace_any t.ky t.cs.a t.cs.n t.cs.c t.cs.xs V h.cs.1 hcm)
  have HI := hide (fun V (hV : Below W1.heap.size W1 V) => indexesMayBe_any t.ix.a t.ix.n t.ix.c t.ix.xs t.cs.a t.cs.n t.cs.c t.cs.xs V ((h.ix.keep hb1).keep hV) h.cs.1 hcm)
  have HTx := hide (fun V (hV : Below W1.heap.size W1 V) => (hT1.same (hV.block w.heap.size hs1)).zero)
  have HB1 := hide hb1
  obtain ⟨t0, t1, t2, t3, t4⟩ := hT1.zero
  obtain ⟨ze, hze⟩ : ∃ z, noN t.nm = z := ⟨_, rfl⟩
  have hze' : (strB t.nm).toList.isEmpty = ze := hze
  obtain ⟨zc, hzc⟩ : ∃ z, colsB t.cs.xs = z := ⟨_, rfl⟩
  obtain ⟨zp, hzp⟩ : ∃ z, placeB t.ky t.cs.xs = z := ⟨_, rfl⟩
  rw [hzc] at HC
  rw [hzp] at HP
  rw [hze, hzc, hzp] at HZ
  clear h hb1 hT1 hs1 hz hze hzc hzp
  cases ze with
  | true =>
    have hzn : (strB t.nm).toList = [] := List.isEmpty_iff.1 hze'
    go_enter Tryz.func120, Tryz.ntmps120
    go_upto_region 1 with fail
    rw [← hW1]
    clear hW1
    go_wp2
    go_ret
    exact ⟨by rw [← HZ.out]; rfl, HB1.out⟩
  | false =>
    have hzn : ¬ (strB t.nm).toList = [] := fun e => by rw [e] at hze'; cases hze'
    cases zc with
    | false =>
      go_enter Tryz.func120, Tryz.ntmps120
      go_upto_region 1 with fail
      rw [← hW1]
      clear hW1
      go_wp2_with (first
        | (go_at_call 149; go_must (refine HC.out.mono ?_); rintro e w2 ⟨rfl, hb2⟩; obtain ⟨x0, x1, x2, x3, x4⟩ := HTx.out w2 hb2; have HB2 := hide hb2; clear hb2))
      go_ret
      exact ⟨by rw [← HZ.out]; rfl, HB1.out.trans (HB2.out.mono HB1.out.size)⟩
    | true =>
      cases zp with
      | false =>
        go_enter Tryz.func120, Tryz.ntmps120
        go_upto_region 1 with fail
        rw [← hW1]
        clear hW1
        go_wp2_with (first
          | (go_at_call 149; go_must (refine HC.out.mono ?_); rintro e w2 ⟨rfl, hb2⟩; obtain ⟨x0, x1, x2, x3, x4⟩ := HTx.out w2 hb2; have HB2 := hide hb2; clear hb2)
          | (go_at_call 150; go_must (refine (HP.out w2).mono ?_); rintro e w3 ⟨rfl, hw⟩; have hw := hw.symm; subst hw))
        go_ret
        exact ⟨by rw [← HZ.out]; rfl, HB1.out.trans (HB2.out.mono HB1.out.size)⟩
      | true =>
        go_enter Tryz.func120, Tryz.ntmps120
        go_upto_region 1 with fail
        rw [← hW1]
        clear hW1
        go_wp2_with (first
          | (go_at_call 149; go_must (refine HC.out.mono ?_); rintro e w2 ⟨rfl, hb2⟩; obtain ⟨x0, x1, x2, x3, x4⟩ := HTx.out w2 hb2; have HB2 := hide hb2; clear hb2)
          | (go_at_call 150; go_must (refine (HP.out w2).mono ?_); rintro e w3 ⟨rfl, hw⟩; have hw := hw.symm; subst hw)
          | (go_at_call 151; go_must (refine (HI.out w2 HB2.out).mono ?_); rintro e w3 ⟨rfl, hw⟩; have hw := hw.symm; subst hw))
        go_ret
        exact ⟨by rw [← HZ.out]; rfl, HB1.out.trans (HB2.out.mono HB1.out.size)⟩

variable {F : Nat → Prop} {base : Nat} {a : Mm} {z : Nat} {S : Mac}

/-- the list of tables, as a slice -/
theorem IsMm.slT {w : World} (h : IsMm F base w a z S) : ∃ sa sn sc, a.tv = .slice sa sn sc ∧ S.tbs.length = sn ∧ w.cell? ⟨a.p, 3, none⟩ = some (.slice sa sn sc) ∧ (sn : Int) ≤ 9223372036854775807 ∧ IsY layTb w sa sn sc a.ms := by
  obtain ⟨sa, sn, sc, e⟩ := h.tt.any3
  have ho := h.tt
  rw [e] at ho
  have hl := ho.len
  refine ⟨sa, sn, sc, e, by rw [← h.tm, List.length_map]; exact hl.1, by rw [← e]; exact h.c3, ?_, ho.is⟩
  have := hl.2.1; have := hl.2.2; unfold maxLen at this; omega

theorem named_any {w : World} (h : IsMm F base w a z S) (nm : List Int) : Calls Tryz.prog 121 #[.pointer (some ⟨a.p, 0, none⟩), .string (strB nm)] w fun e w' => e = .returned (.bool (namedB S.tbs nm)) ∧ Below w.heap.size w w' := by
  have hb := new_below w (.cells #[.string (strB nm)] 9)
  obtain ⟨sa, sn, sc, ev, -, c3, -, hY⟩ := (h.keep hb).slT
  have HC := hide (containsTab_any sa sn sc a.ms (fun m => eqN m.nm nm) w.heap.size (w.alloc (.cells #[.string (strB nm)] 9)) hY (fun W hW m _ => nameC_any m nm w.heap.size W ((hW.cell (p := ⟨w.heap.size, 0, none⟩) (by simp)).trans (by simp)) (Nat.lt_of_lt_of_le (by simp) hW.size)))
  have he : a.ms.any (fun m => eqN m.nm nm) = namedB S.tbs nm := by
    unfold namedB
    rw [← h.tm, List.any_map]
    rfl
  rw [he] at HC
  have HB := hide hb
  have hn : ¬ w.heap.size = a.p := by have := h.lt; omega
  clear h hb hY he
  go_enter Tryz.func121, Tryz.ntmps121
  go_wp2_with (first
    | (go_at_call 152; go_must (refine HC.out.mono ?_); rintro e w2 ⟨rfl, hb2⟩; have HB2 := hide hb2; clear hb2))
  go_ret
  exact ⟨rfl, HB.out.trans (HB2.out.mono HB.out.size)⟩

end Go.Proofs.YtcgiicmmfleinaaGreatDoor
