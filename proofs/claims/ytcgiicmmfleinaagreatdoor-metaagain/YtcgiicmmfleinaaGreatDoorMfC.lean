/- slices.Clone of states, tables, columns, places. The program: copies of tables. -/
import Derived.Test.YtcgiicmmfleinaaGreatDoorMfA
namespace Go.Proofs.YtcgiicmmfleinaaGreatDoor
open Go.RowKit NumMath Go.ChangeShapes Go.WideShapes Go.Deep
set_option linter.unusedVariables false
set_option maxRecDepth 100000

set_option maxHeartbeats 1000000 in
theorem cloneSt_any (a : Option Addr) (n c : Nat) (xs : List Sta) (w : World) (h : IsY laySt w a n c xs) (hn : n ≤ 1000000) :
    Calls Tryz.prog 110 #[.slice a n c] w fun e w' => ∃ v, e = .returned v ∧ OwnY laySt w' w.heap.size v xs ∧ Below w.heap.size w w' := by
  have H := hide h
  have hl := h.1
  cases a with
  | none =>
    have h0 : n = 0 := by
      rcases h.2.2.2 with h | ⟨g, off, e, _⟩
      · exact h
      · cases e
    subst h0
    have hx : xs = [] := List.length_eq_zero_iff.1 hl
    subst hx
    clear h hl
    have hnil : ∀ w, (binOp .eql 32 (.slice none 0 c) (.slice none 0 0)).run Tryz.prog w = .ok (.bool true) w := fun w => Lib.run_eql_slice_nil w 32 80 none 0 c 0 0 Tryz.underlying32
    go_enter Tryz.func110, Tryz.ntmps110
    go_wp2
    go_ret
    exact ⟨_, rfl, ownY_nil _ _, Below.refl _ _⟩
  | some y =>
    have hb := new_below w (.cells #[] 80)
    have HO : Hid (OwnY laySt (w.alloc (.cells #[] 80)) w.heap.size (.slice (some ⟨w.heap.size, 0, none⟩) 0 0) []) := ownY_empty (L := laySt) w w.heap.size (Nat.le_refl _)
    have HS := hide ((h.keep hb).src)
    have HBig : Hid (([] : List Sta).length + xs.length ≤ 1000000000) := by show _ ≤ _; simp; omega
    have HB := hide hb
    clear h hb hl
    have hnil : ∀ w, (binOp .eql 32 (.slice (some y) n c) (.slice none 0 0)).run Tryz.prog w = .ok (.bool false) w := fun w => Lib.run_eql_slice_nil w 32 80 (some y) n c 0 0 Tryz.underlying32
    go_enter Tryz.func110, Tryz.ntmps110
    go_wp2_with (first
      | (at_builtin; go_must (refine wp_joinY laySt _ rfl (.tmp 5) (.tmp 6) rfl w.heap.size _ [] rfl HO.out (some y) n c xs rfl HS.out HBig.out (by simp) ?_); intro v5 w5 hown5 hg5 hat5; have HO5 := hide hown5; have HB5 := hide (HO.out.grown hg5 (by simp)); obtain ⟨xa, xn, xc, rfl⟩ := hown5.any3; clear hown5 hg5 hat5))
    go_ret
    exact ⟨_, rfl, by simpa using HO5.out, HB.out.trans HB5.out⟩

set_option maxHeartbeats 1000000 in
theorem cloneTb_any (a : Option Addr) (n c : Nat) (xs : List MTb) (w : World) (h : IsY layTb w a n c xs) (hn : n ≤ 1000000) :
    Calls Tryz.prog 156 #[.slice a n c] w fun e w' => ∃ v, e = .returned v ∧ OwnY layTb w' w.heap.size v xs ∧ Below w.heap.size w w' := by
  have H := hide h
  have hl := h.1
  cases a with
  | none =>
    have h0 : n = 0 := by
      rcases h.2.2.2 with h | ⟨g, off, e, _⟩
      · exact h
      · cases e
    subst h0
    have hx : xs = [] := List.length_eq_zero_iff.1 hl
    subst hx
    clear h hl
    have hnil : ∀ w, (binOp .eql 36 (.slice none 0 c) (.slice none 0 0)).run Tryz.prog w = .ok (.bool true) w := fun w => Lib.run_eql_slice_nil w 36 48 none 0 c 0 0 Tryz.underlying36
    go_enter Tryz.func156, Tryz.ntmps156
    go_wp2
    go_ret
    exact ⟨_, rfl, ownY_nil _ _, Below.refl _ _⟩
  | some y =>
    have hb := new_below w (.cells #[] 48)
    have HO : Hid (OwnY layTb (w.alloc (.cells #[] 48)) w.heap.size (.slice (some ⟨w.heap.size, 0, none⟩) 0 0) []) := ownY_empty (L := layTb) w w.heap.size (Nat.le_refl _)
    have HS := hide ((h.keep hb).src)
    have HBig : Hid (([] : List MTb).length + xs.length ≤ 1000000000) := by show _ ≤ _; simp; omega
    have HB := hide hb
    clear h hb hl
    have hnil : ∀ w, (binOp .eql 36 (.slice (some y) n c) (.slice none 0 0)).run Tryz.prog w = .ok (.bool false) w := fun w => Lib.run_eql_slice_nil w 36 48 (some y) n c 0 0 Tryz.underlying36
    go_enter Tryz.func156, Tryz.ntmps156
    go_wp2_with (first
      | (at_builtin; go_must (refine wp_joinY layTb _ rfl (.tmp 5) (.tmp 6) rfl w.heap.size _ [] rfl HO.out (some y) n c xs rfl HS.out HBig.out (by simp) ?_); intro v5 w5 hown5 hg5 hat5; have HO5 := hide hown5; have HB5 := hide (HO.out.grown hg5 (by simp)); obtain ⟨xa, xn, xc, rfl⟩ := hown5.any3; clear hown5 hg5 hat5))
    go_ret
    exact ⟨_, rfl, by simpa using HO5.out, HB.out.trans HB5.out⟩

set_option maxHeartbeats 1000000 in
theorem cloneCo_any (a : Option Addr) (n c : Nat) (xs : List Colm) (w : World) (h : IsY layCo w a n c xs) (hn : n ≤ 1000000) :
    Calls Tryz.prog 154 #[.slice a n c] w fun e w' => ∃ v, e = .returned v ∧ OwnY layCo w' w.heap.size v xs ∧ Below w.heap.size w w' := by
  have H := hide h
  have hl := h.1
  cases a with
  | none =>
    have h0 : n = 0 := by
      rcases h.2.2.2 with h | ⟨g, off, e, _⟩
      · exact h
      · cases e
    subst h0
    have hx : xs = [] := List.length_eq_zero_iff.1 hl
    subst hx
    clear h hl
    have hnil : ∀ w, (binOp .eql 45 (.slice none 0 c) (.slice none 0 0)).run Tryz.prog w = .ok (.bool true) w := fun w => Lib.run_eql_slice_nil w 45 73 none 0 c 0 0 Tryz.underlying45
    go_enter Tryz.func154, Tryz.ntmps154
    go_wp2
    go_ret
    exact ⟨_, rfl, ownY_nil _ _, Below.refl _ _⟩
  | some y =>
    have hb := new_below w (.cells #[] 73)
    have HO : Hid (OwnY layCo (w.alloc (.cells #[] 73)) w.heap.size (.slice (some ⟨w.heap.size, 0, none⟩) 0 0) []) := ownY_empty (L := layCo) w w.heap.size (Nat.le_refl _)
    have HS := hide ((h.keep hb).src)
    have HBig : Hid (([] : List Colm).length + xs.length ≤ 1000000000) := by show _ ≤ _; simp; omega
    have HB := hide hb
    clear h hb hl
    have hnil : ∀ w, (binOp .eql 45 (.slice (some y) n c) (.slice none 0 0)).run Tryz.prog w = .ok (.bool false) w := fun w => Lib.run_eql_slice_nil w 45 73 (some y) n c 0 0 Tryz.underlying45
    go_enter Tryz.func154, Tryz.ntmps154
    go_wp2_with (first
      | (at_builtin; go_must (refine wp_joinY layCo _ rfl (.tmp 5) (.tmp 6) rfl w.heap.size _ [] rfl HO.out (some y) n c xs rfl HS.out HBig.out (by simp) ?_); intro v5 w5 hown5 hg5 hat5; have HO5 := hide hown5; have HB5 := hide (HO.out.grown hg5 (by simp)); obtain ⟨xa, xn, xc, rfl⟩ := hown5.any3; clear hown5 hg5 hat5))
    go_ret
    exact ⟨_, rfl, by simpa using HO5.out, HB.out.trans HB5.out⟩

set_option maxHeartbeats 1000000 in
theorem cloneIx_any (a : Option Addr) (n c : Nat) (xs : List Int) (w : World) (h : IsY layIx w a n c xs) (hn : n ≤ 1000000) :
    Calls Tryz.prog 155 #[.slice a n c] w fun e w' => ∃ v, e = .returned v ∧ OwnY layIx w' w.heap.size v xs ∧ Below w.heap.size w w' := by
  have H := hide h
  have hl := h.1
  cases a with
  | none =>
    have h0 : n = 0 := by
      rcases h.2.2.2 with h | ⟨g, off, e, _⟩
      · exact h
      · cases e
    subst h0
    have hx : xs = [] := List.length_eq_zero_iff.1 hl
    subst hx
    clear h hl
    have hnil : ∀ w, (binOp .eql 46 (.slice none 0 c) (.slice none 0 0)).run Tryz.prog w = .ok (.bool true) w := fun w => Lib.run_eql_slice_nil w 46 3 none 0 c 0 0 Tryz.underlying46
    go_enter Tryz.func155, Tryz.ntmps155
    go_wp2
    go_ret
    exact ⟨_, rfl, ownY_nil _ _, Below.refl _ _⟩
  | some y =>
    have hb := new_below w (.cells #[] 3)
    have HO : Hid (OwnY layIx (w.alloc (.cells #[] 3)) w.heap.size (.slice (some ⟨w.heap.size, 0, none⟩) 0 0) []) := ownY_empty (L := layIx) w w.heap.size (Nat.le_refl _)
    have HS := hide ((h.keep hb).src)
    have HBig : Hid (([] : List Int).length + xs.length ≤ 1000000000) := by show _ ≤ _; simp; omega
    have HB := hide hb
    clear h hb hl
    have hnil : ∀ w, (binOp .eql 46 (.slice (some y) n c) (.slice none 0 0)).run Tryz.prog w = .ok (.bool false) w := fun w => Lib.run_eql_slice_nil w 46 3 (some y) n c 0 0 Tryz.underlying46
    go_enter Tryz.func155, Tryz.ntmps155
    go_wp2_with (first
      | (at_builtin; go_must (refine wp_joinY layIx _ rfl (.tmp 5) (.tmp 6) rfl w.heap.size _ [] rfl HO.out (some y) n c xs rfl HS.out HBig.out (by simp) ?_); intro v5 w5 hown5 hg5 hat5; have HO5 := hide hown5; have HB5 := hide (HO.out.grown hg5 (by simp)); obtain ⟨xa, xn, xc, rfl⟩ := hown5.any3; clear hown5 hg5 hat5))
    go_ret
    exact ⟨_, rfl, by simpa using HO5.out, HB.out.trans HB5.out⟩

end Go.Proofs.YtcgiicmmfleinaaGreatDoor

namespace Go.Proofs.YtcgiicmmfleinaaGreatDoor
open Go.RowKit NumMath Go.ChangeShapes Go.WideShapes Go.Deep
set_option linter.unusedVariables false
set_option maxRecDepth 100000

/-- a table's five cells -/
structure At5t (w : World) (g o : Nat) (m : MTb) : Prop where
  c0 : w.cell? ⟨g, o, none⟩ = some (.int .i64 m.id)
  c1 : w.cell? ⟨g, o + 1, none⟩ = some (.string (strB m.nm))
  c2 : w.cell? ⟨g, o + 2, none⟩ = some (.slice m.cs.a m.cs.n m.cs.c)
  c3 : w.cell? ⟨g, o + 3, none⟩ = some (.int .i64 m.ky)
  c4 : w.cell? ⟨g, o + 4, none⟩ = some (.slice m.ix.a m.ix.n m.ix.c)

theorem at5t_of {w : World} {g o : Nat} {m : MTb} (h : w.rangeAt g o #[.int .i64 m.id, .string (strB m.nm), .slice m.cs.a m.cs.n m.cs.c, .int .i64 m.ky, .slice m.ix.a m.ix.n m.ix.c].toList) : At5t w g o m := ⟨h 0 _ rfl, h 1 _ rfl, h 2 _ rfl, h 3 _ rfl, h 4 _ rfl⟩

theorem At5t.same {w w' : World} {g o : Nat} {m : MTb} (h : At5t w g o m) (e : w'.heap[g]? = w.heap[g]?) : At5t w' g o m :=
  ⟨(World.cell?_of_block (a := ⟨g, o, none⟩) e).trans h.c0, (World.cell?_of_block (a := ⟨g, o + 1, none⟩) e).trans h.c1, (World.cell?_of_block (a := ⟨g, o + 2, none⟩) e).trans h.c2, (World.cell?_of_block (a := ⟨g, o + 3, none⟩) e).trans h.c3, (World.cell?_of_block (a := ⟨g, o + 4, none⟩) e).trans h.c4⟩

theorem at5t_new (w : World) (m : MTb) : At5t (w.alloc (.cells #[.int .i64 m.id, .string (strB m.nm), .slice m.cs.a m.cs.n m.cs.c, .int .i64 m.ky, .slice m.ix.a m.ix.n m.ix.c] 48)) w.heap.size 0 m := at5t_of (rangeY_new w w.heap.size #[.int .i64 m.id, .string (strB m.nm), .slice m.cs.a m.cs.n m.cs.c, .int .i64 m.ky, .slice m.ix.a m.ix.n m.ix.c] 48 rfl)

theorem At5t.zero {w : World} {g : Nat} {m : MTb} (h : At5t w g 0 m) : w.cell? ⟨g, 0, none⟩ = some (.int .i64 m.id) ∧ w.cell? ⟨g, 1, none⟩ = some (.string (strB m.nm)) ∧ w.cell? ⟨g, 2, none⟩ = some (.slice m.cs.a m.cs.n m.cs.c) ∧ w.cell? ⟨g, 3, none⟩ = some (.int .i64 m.ky) ∧ w.cell? ⟨g, 4, none⟩ = some (.slice m.ix.a m.ix.n m.ix.c) :=
  ⟨h.c0, by simpa using h.c1, by simpa using h.c2, by simpa using h.c3, by simpa using h.c4⟩

theorem at5t_list {w : World} {g off k : Nat} {hs : List MTb} {m : MTb} (hC : CellsY layTb w g off hs) (hm : hs[k]? = some m) : w.cell? ⟨g, off + k * 5, none⟩ = some (.int .i64 m.id) ∧ w.cell? ⟨g, off + k * 5 + 1, none⟩ = some (.string (strB m.nm)) ∧ w.cell? ⟨g, off + k * 5 + 2, none⟩ = some (.slice m.cs.a m.cs.n m.cs.c) ∧ w.cell? ⟨g, off + k * 5 + 3, none⟩ = some (.int .i64 m.ky) ∧ w.cell? ⟨g, off + k * 5 + 4, none⟩ = some (.slice m.ix.a m.ix.n m.ix.c) :=
  ⟨hC k m hm 0 _ rfl, hC k m hm 1 _ rfl, hC k m hm 2 _ rfl, hC k m hm 3 _ rfl, hC k m hm 4 _ rfl⟩

def mzT : MTb := ⟨0, [], ⟨none, 0, 0, []⟩, 0, ⟨none, 0, 0, []⟩⟩

theorem rangeT {w : World} {g : Nat} {m : MTb} (h : At5t w g 0 m) : w.rangeAt g 0 (layTb.cells m) := by
  obtain ⟨h0, h1, h2, h3, h4⟩ := h.zero
  intro j v hj
  rw [Nat.zero_add]
  match j, hj with
  | 0, hj => cases hj; exact h0
  | 1, hj => cases hj; exact h1
  | 2, hj => cases hj; exact h2
  | 3, hj => cases hj; exact h3
  | 4, hj => cases hj; exact h4
  | _ + 5, hj => cases hj

/-- a copy of x: its lists lie in new blocks -/
def CopyT (w : World) (x : MTb) (e : Ending) (w' : World) : Prop :=
  ∃ y : MTb, e = .returned (.agg #[.int .i64 y.id, .string (strB y.nm), .slice y.cs.a y.cs.n y.cs.c, .int .i64 y.ky, .slice y.ix.a y.ix.n y.ix.c]) ∧ y.t = x.t ∧ OwnY layCo w' w.heap.size (.slice y.cs.a y.cs.n y.cs.c) y.cs.xs ∧ Foot (fun k => k < w.heap.size ∨ (Value.slice y.cs.a y.cs.n y.cs.c).ownBlock = some k) w' (fun V => IsY layIx V y.ix.a y.ix.n y.ix.c y.ix.xs) ∧ Below w.heap.size w w'

set_option maxHeartbeats 4000000 in
theorem pcopyT_any (x : MTb) (w : World) (h : x.ok w) (hl : x.cs.n ≤ 1000000) (hh : x.ix.n ≤ 1000000) : Calls Tryz.prog 122 #[.agg #[.int .i64 x.id, .string (strB x.nm), .slice x.cs.a x.cs.n x.cs.c, .int .i64 x.ky, .slice x.ix.a x.ix.n x.ix.c]] w fun e w' => CopyT w x e w' := by
  obtain ⟨W0, hW0⟩ : ∃ W0, W0 = (w.alloc (.cells #[.int .i64 x.id, .string (strB x.nm), .slice x.cs.a x.cs.n x.cs.c, .int .i64 x.ky, .slice x.ix.a x.ix.n x.ix.c] 48)).alloc (.cells #[.int .i64 0, .string ⟨#[]⟩, .slice none 0 0, .int .i64 0, .slice none 0 0] 48) := ⟨_, rfl⟩
  have hs0 : W0.heap.size = w.heap.size + 2 := by rw [hW0]; simp
  have hb0 : Below w.heap.size w W0 := by rw [hW0]; exact belY (belY (Below.refl _ _) _) _
  have HX0 : Hid (At5t W0 w.heap.size 0 x) := by show At5t _ _ _ _; rw [hW0]; exact (at5t_new w x).same ((new_below _ _).block _ (by simp))
  have HY0 : Hid (At5t W0 (w.heap.size + 1) 0 mzT) := by show At5t _ _ _ _; rw [hW0]; exact at5t_of (rangeY_new (w.alloc (.cells #[.int .i64 x.id, .string (strB x.nm), .slice x.cs.a x.cs.n x.cs.c, .int .i64 x.ky, .slice x.ix.a x.ix.n x.ix.c] 48)) (w.heap.size + 1) #[.int .i64 0, .string ⟨#[]⟩, .slice none 0 0, .int .i64 0, .slice none 0 0] 48 (by simp))
  have HF0 : Hid (∀ j, W0.frozen? ⟨w.heap.size, j, none⟩ = false ∧ W0.frozen? ⟨w.heap.size + 1, j, none⟩ = false) := by
    intro j
    rw [hW0]
    constructor
    · have := (new_below (w.alloc (.cells #[.int .i64 x.id, .string (strB x.nm), .slice x.cs.a x.cs.n x.cs.c, .int .i64 x.ky, .slice x.ix.a x.ix.n x.ix.c] 48)) (.cells #[.int .i64 0, .string ⟨#[]⟩, .slice none 0 0, .int .i64 0, .slice none 0 0] 48)).frozen (p := ⟨w.heap.size, j, none⟩) (by simp)
      rw [this]
      exact fzY_new _ _ _ _
    · have := fzY_new (w.alloc (.cells #[.int .i64 x.id, .string (strB x.nm), .slice x.cs.a x.cs.n x.cs.c, .int .i64 x.ky, .slice x.ix.a x.ix.n x.ix.c] 48)) #[.int .i64 0, .string ⟨#[]⟩, .slice none 0 0, .int .i64 0, .slice none 0 0] 48 j
      simp only [World.size_alloc] at this
      exact this
  have HC1 := hide (fun V (hV : Below w.heap.size w V) => cloneCo_any x.cs.a x.cs.n x.cs.c x.cs.xs V (h.cs.keep hV) (by omega))
  have HC2 := hide (fun V (hV : Below w.heap.size w V) => cloneIx_any x.ix.a x.ix.n x.ix.c x.ix.xs V (h.ix.keep hV) (by omega))
  have HB0 := hide hb0
  have HS0 := hide hs0
  have HW0 := hide hW0
  clear h hb0 hs0
  go_enter Tryz.func122, Tryz.ntmps122
  go_wp2_with fail
  rw [← hW0]
  clear hW0
  refine startE (fun i => decide (7 ≤ i)) (by kernel_rfl) ?_
  refine' takeE (i := 0) (v := _) rfl (by kernel_rfl) (by kernel_rfl) (by kernel_rfl) (by kernel_rfl) (fun _ _ _ h => h) (by rfl) (Below.refl _ _) ?_ ?_; rotate_left
  · (intro V hSV; obtain ⟨x0, x1, x2, x3, x4⟩ := HX0.out.same ((below_undrew hSV).block _ (by have := HS0.out; omega)); go_simp; all_goals (with_reducible rfl))
  (try simp only [Act.put, List.setIfInBounds_toArray, List.set_cons_zero, List.set_cons_succ])
  refine' takeE (i := 1) (v := _) rfl (by kernel_rfl) (by kernel_rfl) (by kernel_rfl) (by kernel_rfl) (fun _ _ _ h => h) (by rfl) (Below.refl _ _) ?_ ?_; rotate_left
  · (intro V hSV; obtain ⟨x0, x1, x2, x3, x4⟩ := HX0.out.same ((below_undrew hSV).block _ (by have := HS0.out; omega)); go_simp; all_goals (with_reducible rfl))
  (try simp only [Act.put, List.setIfInBounds_toArray, List.set_cons_zero, List.set_cons_succ])
  refine' takeE (i := 3) (v := _) rfl (by kernel_rfl) (by kernel_rfl) (by kernel_rfl) (by kernel_rfl) (fun _ _ _ h => h) (by rfl) (Below.refl _ _) ?_ ?_; rotate_left
  · (intro V hSV; obtain ⟨x0, x1, x2, x3, x4⟩ := HX0.out.same ((below_undrew hSV).block _ (by have := HS0.out; omega)); go_simp; all_goals (with_reducible rfl))
  (try simp only [Act.put, List.setIfInBounds_toArray, List.set_cons_zero, List.set_cons_succ])
  refine' takeE (i := 4) (v := _) rfl (by kernel_rfl) (by kernel_rfl) (by kernel_rfl) (by kernel_rfl) (fun _ _ _ h => h) (by rfl) (Below.refl _ _) ?_ ?_; rotate_left
  · (intro V hSV; obtain ⟨x0, x1, x2, x3, x4⟩ := HX0.out.same ((below_undrew hSV).block _ (by have := HS0.out; omega)); go_simp; all_goals (with_reducible rfl))
  (try simp only [Act.put, List.setIfInBounds_toArray, List.set_cons_zero, List.set_cons_succ])
  have HC1' := hide (HC1.out W0.drew (HB0.out.trans ((Below.refl W0.heap.size W0).drew.mono (by have := HS0.out; omega))))
  refine callE (i := 2) rfl (by kernel_rfl) (fun K hK => ?_)
  go_simp
  refine HC1'.out.mono ?_
  rintro e w2 ⟨v2, rfl, ho2, hb2⟩
  obtain ⟨a2, n2, c2, rfl⟩ := ho2.any3
  have HB2 := hide (below_undrew hb2)
  have HO2 := hide ho2
  refine hK.out _ _ (fun _ => hb2) ?_
  clear hK K ho2
  (try simp only [Act.put, List.setIfInBounds_toArray, List.set_cons_zero, List.set_cons_succ])
  refine' takeE (i := 6) (v := _) rfl (by kernel_rfl) (by kernel_rfl) (by kernel_rfl) (by kernel_rfl) (fun _ _ _ h => h) (by rfl) hb2 ?_ ?_; rotate_left
  · (intro V hSV; go_simp; all_goals (with_reducible rfl))
  (try simp only [Act.put, List.setIfInBounds_toArray, List.set_cons_zero, List.set_cons_succ])
  have HC2' := hide (HC2.out w2 (HB0.out.trans (HB2.out.mono (by have := HS0.out; omega))))
  refine callE (i := 5) rfl (by kernel_rfl) (fun K hK => ?_)
  go_simp
  refine HC2'.out.mono ?_
  rintro e w3 ⟨v3, rfl, ho3, hb3⟩
  obtain ⟨a3, n3, c3, rfl⟩ := ho3.any3
  have hb23 := hb2.trans (hb3.mono hb2.size)
  have HB3 := hide (below_undrew hb23)
  have HO3 := hide ho3
  refine hK.out _ _ (fun _ => hb23) ?_
  have HO23 := hide (HO2.out.keep hb3)
  have hs2 := HB2.out.size
  have hs3 := hb3.size
  clear hK K ho3 hb3 hb2 hb23
  (try simp only [Act.put, List.setIfInBounds_toArray, List.set_cons_zero, List.set_cons_succ])
  have hs0 := HS0.out
  have hX3 := HX0.out.same (HB3.out.block _ (by omega))
  have hY3 := HY0.out.same (HB3.out.block _ (by omega))
  have hF3 := fun j => (HB3.out.frozen (p := ⟨w.heap.size, j, none⟩) (by show w.heap.size < _; omega)).trans (HF0.out j).1
  have hG3 := fun j => (HB3.out.frozen (p := ⟨w.heap.size + 1, j, none⟩) (by show w.heap.size + 1 < _; omega)).trans (HF0.out j).2
  obtain ⟨x0, x1, x2, x3, x4⟩ := hX3.zero
  obtain ⟨y0, y1, y2, y3, y4⟩ := hY3.zero
  have f3 := hF3 2
  have f4 := hF3 4
  have g0 := hG3 0
  have g1 := hG3 1
  have g2 := hG3 2
  have g3 := hG3 3
  have g4 := hG3 4
  clear hX3 hY3 hF3 hG3 hs0
  refine callE (i := 7) rfl (by kernel_rfl) (fun K hK => ?_)
  go_simp
  refine hK.out _ _ (fun h => by cases h) ?_
  clear hK K
  (try simp only [Act.put, List.setIfInBounds_toArray, List.set_cons_zero, List.set_cons_succ])
  have x4s : (w3.setCell ⟨w.heap.size, 2, none⟩ (.slice a2 n2 c2)).cell? ⟨w.heap.size, 4, none⟩ = some (.slice x.ix.a x.ix.n x.ix.c) := (cell_offY (by decide)).trans x4
  have f4s : (w3.setCell ⟨w.heap.size, 2, none⟩ (.slice a2 n2 c2)).frozen? ⟨w.heap.size, 4, none⟩ = false := by rw [World.frozen?_setCell]; exact f4
  refine callE (i := 8) rfl (by kernel_rfl) (fun K hK => ?_)
  go_simp
  refine hK.out _ _ (fun h => by cases h) ?_
  clear hK K
  (try simp only [Act.put, List.setIfInBounds_toArray, List.set_cons_zero, List.set_cons_succ])
  refine callE (i := 9) rfl (by kernel_rfl) (fun K hK => ?_)
  go_simp
  refine hK.out _ _ (fun h => by cases h) ?_
  clear hK K
  (try simp only [Act.put, List.setIfInBounds_toArray, List.set_cons_zero, List.set_cons_succ])
  refine doneE (by kernel_rfl) ?_ _
  have hs0 := HS0.out
  obtain ⟨y, hy⟩ : ∃ y : MTb, y = ⟨x.id, x.nm, ⟨a2, n2, c2, x.cs.xs⟩, x.ky, ⟨a3, n3, c3, x.ix.xs⟩⟩ := ⟨_, rfl⟩
  have HX3 : Hid (w3.rangeAt w.heap.size 0 (layTb.cells x)) := (show w3.rangeAt w.heap.size 0 (layTb.cells x) from rangeT (HX0.out.same (HB3.out.block _ (by omega))))
  have HX5 : Hid (((w3.setCell ⟨w.heap.size, 2, none⟩ (.slice a2 n2 c2)).setCell ⟨w.heap.size, 4, none⟩ (.slice a3 n3 c3)).rangeAt w.heap.size 0 (layTb.cells y)) := by
    have h1 := range_set (i := 2) (v := .slice a2 n2 c2) HX3.out (by show 2 < 5; decide)
    have h2 := range_set (i := 4) (v := .slice a3 n3 c3) h1 (by show 4 < 5; decide)
    rw [hy]
    exact h2
  have HY5 : Hid (((w3.setCell ⟨w.heap.size, 2, none⟩ (.slice a2 n2 c2)).setCell ⟨w.heap.size, 4, none⟩ (.slice a3 n3 c3)).rangeAt (w.heap.size + 1) 0 (layTb.cells mzT)) := by
    have h1 : w3.rangeAt (w.heap.size + 1) 0 (layTb.cells mzT) := rangeT (HY0.out.same (HB3.out.block _ (by omega)))
    exact rangeY_same h1 ((Below.heap_setCell _ _ _ _ (by show w.heap.size + 1 ≠ w.heap.size; omega)).trans (Below.heap_setCell _ _ _ _ (by show w.heap.size + 1 ≠ w.heap.size; omega)))
  have HG5 : Hid (∀ j, ((w3.setCell ⟨w.heap.size, 2, none⟩ (.slice a2 n2 c2)).setCell ⟨w.heap.size, 4, none⟩ (.slice a3 n3 c3)).frozen? ⟨w.heap.size + 1, j, none⟩ = false) := by
    intro j
    rw [World.frozen?_setCell, World.frozen?_setCell]
    exact (HB3.out.frozen (p := ⟨w.heap.size + 1, j, none⟩) (by show w.heap.size + 1 < _; omega)).trans (HF0.out j).2
  have HK5 : Hid (Keeps (fun k => k = w.heap.size) w3 ((w3.setCell ⟨w.heap.size, 2, none⟩ (.slice a2 n2 c2)).setCell ⟨w.heap.size, 4, none⟩ (.slice a3 n3 c3))) := kpThen (keepsY_cell _) (fun k hk => .inl hk) (keepsY_cell _)
  obtain ⟨W5, hW5⟩ : ∃ W, W = (w3.setCell ⟨w.heap.size, 2, none⟩ (.slice a2 n2 c2)).setCell ⟨w.heap.size, 4, none⟩ (.slice a3 n3 c3) := ⟨_, rfl⟩
  rw [← hW5] at HX5 HY5 HG5 HK5
  rw [← hW5]
  have hld := HX5.out
  obtain ⟨y0, y1, y2, y3, y4⟩ := (at5t_of HY5.out).zero
  have g5 := HG5.out
  have g0 := g5 0
  have g1 := g5 1
  have g2 := g5 2
  have g3 := g5 3
  have g4 := g5 4
  clear x0 x1 x2 x3 x4 x4s f4s f3 f4 hs0 hW5
  have HY := hide hy
  have e0 : x.t = y.t := by rw [hy]; rfl
  have e1 : a2 = y.cs.a := by rw [hy]
  have e2 : n2 = y.cs.n := by rw [hy]
  have e3 : c2 = y.cs.c := by rw [hy]
  have e4 : a3 = y.ix.a := by rw [hy]
  have e5 : n3 = y.ix.n := by rw [hy]
  have e6 : c3 = y.ix.c := by rw [hy]
  have e7 : x.cs.xs = y.cs.xs := by rw [hy]
  have e8 : x.ix.xs = y.ix.xs := by rw [hy]
  have HE0 := hide e0
  have HE7 := hide e7
  have HE8 := hide e8
  subst e1 e2 e3 e4 e5 e6
  clear hy e0 e7 e8
  go_wp2_with (first
    | (refine wp_loadY layTb _ _ Tryz.underlying48 rfl rfl (.tmp 1) rfl w.heap.size 0 y #[.int .i64 y.id, .string (strB y.nm), .slice y.cs.a y.cs.n y.cs.c, .int .i64 y.ky, .slice y.ix.a y.ix.n y.ix.c] rfl rfl hld ?_))
  have hw3 := resY HY5.out HG5.out y
  have hk6 := keepsYs W5 (w.heap.size + 1) 0 (layTb.cells y)
  have r0 := hw3 0 _ rfl
  have r1 := hw3 1 _ rfl
  have r2 := hw3 2 _ rfl
  have r3 := hw3 3 _ rfl
  have r4 := hw3 4 _ rfl
  simp only [Nat.zero_add] at r0 r1 r2 r3 r4
  obtain ⟨W6, hW6⟩ : ∃ W, W = W5.setCells (w.heap.size + 1) 0 (layTb.cells y) := ⟨_, rfl⟩
  rw [← hW6] at r0 r1 r2 r3 r4 hk6
  have hW6' := hW6
  simp only [layTb, World.setCells, Nat.zero_add, Nat.reduceAdd] at hW6'
  rw [← hW6']
  have hs0 := HS0.out
  refine bodyPost_ret (v := .agg #[.int .i64 y.id, .string (strB y.nm), .slice y.cs.a y.cs.n y.cs.c, .int .i64 y.ky, .slice y.ix.a y.ix.n y.ix.c]) (by simp [results, Tryz.results122, go_sem, r0, r1, r2, r3, r4]) rfl ?_
  have hs3 := HB3.out.size
  have k5 : Keeps (fun k => k < w.heap.size + 2) w3 W5 := Keeps.wider HK5.out (fun k hk => by rw [hk]; omega)
  have k6 : Keeps (fun k => k < w.heap.size + 2) W5 W6 := Keeps.wider hk6 (fun k hk => by rw [hk]; omega)
  have kb : Keeps (fun k => w.heap.size ≤ k) w W6 := kpThen (kpThen (Below.keeps (HB0.out.trans (HB3.out.mono (by omega))) _) (fun k (e : k = w.heap.size) => .inl (by omega)) HK5.out) (fun k (e : k = w.heap.size + 1) => .inl (by omega)) hk6
  have hs2 := HB2.out.size
  have hO5 : OwnY layCo W6 w.heap.size (.slice y.cs.a y.cs.n y.cs.c) y.cs.xs := by
    have h1 : OwnY layCo w3 (w.heap.size + 2) (.slice y.cs.a y.cs.n y.cs.c) x.cs.xs := HO23.out.mono (by have e1 : W0.drew.heap.size = w.heap.size + 2 := hs0; omega)
    have h2 := (h1.lies (w' := W5) (fun g hg => k5.block g (h1.lt g hg).2 (fun e => by have := (h1.lt g hg).1; omega)))
    have h3 := (h2.lies (w' := W6) (fun g hg => k6.block g (h2.lt g hg).2 (fun e => by have := (h2.lt g hg).1; omega)))
    rw [HE7.out] at h3
    exact h3.mono (by omega)
  have hcb : ∀ k, (Value.slice y.cs.a y.cs.n y.cs.c).ownBlock = some k → k < w2.heap.size := fun k hk => (HO2.out.lt k hk).2
  have f2 : Foot (fun k => k < w2.heap.size) w3 (fun V => IsY layIx V y.ix.a y.ix.n y.ix.c x.ix.xs) := foot_ownY HO3.out (fun k hk => hk)
  have f3 := ((f2.step (Keeps.wider HK5.out (fun k hk => by show k < w2.heap.size; rw [hk]; omega)) (fun k hk => .inl hk)).step (Keeps.wider hk6 (fun k hk => by show k < w2.heap.size; rw [hk]; omega)) (fun k hk => .inl hk)).more (Y := fun k => k < w.heap.size ∨ (Value.slice y.cs.a y.cs.n y.cs.c).ownBlock = some k) (fun k hk => .inl (by
    rcases hk with hk | hk
    · omega
    · exact hcb k hk))
  rw [HE8.out] at f3
  exact ⟨y, rfl, HE0.out.symm, hO5, f3, kp_below kb⟩

end Go.Proofs.YtcgiicmmfleinaaGreatDoor

namespace Go.Proofs.YtcgiicmmfleinaaGreatDoor
open Go.RowKit NumMath Go.ChangeShapes Go.WideShapes Go.Deep
set_option linter.unusedVariables false
set_option maxRecDepth 100000

theorem out_ltY {α : Type} {L : Lay α} {X : Nat → Prop} {w : World} {a : Option Addr} {n c : Nat} {xs : List α} (h : IsY L w a n c xs) (hX : ∀ j, X j → w.heap.size ≤ j) : Out X a n := by
  rcases isY_blk h with h0 | h0
  · exact .inl h0
  · exact .inr (fun y hy hx => by have := h0 y hy; have := hX _ hx; omega)

theorem copyT_foot {w w' : World} {y : MTb} (ho : OwnY layCo w' w.heap.size (.slice y.cs.a y.cs.n y.cs.c) y.cs.xs) (hi : Foot (fun k => k < w.heap.size ∨ (Value.slice y.cs.a y.cs.n y.cs.c).ownBlock = some k) w' (fun V => IsY layIx V y.ix.a y.ix.n y.ix.c y.ix.xs)) : Foot (fun k => k < w.heap.size) w' (fun V => y.ok V) :=
  ((foot_ownY ho (fun k hk => hk)).and (hi.more (Y := fun k => k < w.heap.size) (fun k hk => .inl (.inl hk)))).imp (fun V hV => ⟨hV.1, hV.2⟩)

/-- a list of copies -/
def CopsT (w : World) (xs : List MTb) (e : Ending) (w' : World) : Prop :=
  ∃ (a : Option Addr) (n c : Nat) (ys : List MTb), e = .returned (.slice a n c) ∧ OwnY layTb w' w.heap.size (.slice a n c) ys ∧ ys.map MTb.t = xs.map MTb.t ∧ (∀ y ∈ ys, Foot (fun k => k < w.heap.size) w' (fun V => y.ok V)) ∧ Below w.heap.size w w'

end Go.Proofs.YtcgiicmmfleinaaGreatDoor
