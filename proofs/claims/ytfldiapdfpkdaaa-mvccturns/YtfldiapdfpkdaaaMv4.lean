/- The reference's store: cell, walked. -/
import Derived.Test.YtfldiapdfpkdaaaMvX
import Derived.Test.YtfldiapdfpkdaaaTx
namespace Go.Proofs.Ytfldiapdfpkdaaa
open Go.RowKit NumMath Go.ChangeShapes Go.WideShapes Go.Deep
set_option linter.unusedVariables false
set_option maxRecDepth 100000

theorem ownB_new {w : World} {base : Nat} {a : Option Addr} {n c : Nat} {bs : List Int} (h : OwnB w base (.slice a n c) bs) : ∀ y, a = some y → base ≤ y.block := by
  intro y hy
  exact (World.ownsRow.lt h y.block (by rw [hy]; rfl)).1

theorem bel_undX {w W : World} (h : Below w.drew.heap.size w.drew W) : Below w.heap.size w W := (Below.refl _ w).drew.trans h

set_option maxHeartbeats 4000000 in
theorem cell_nil (F : Nat → Prop) (w0 w : World) (p : Nat) (cv : Value) (ms : List MC) (h : IsXs F w0 w p cv ms) (hf : ms.length ≤ 100000) (a : Option Addr) (n c : Nat) (key : List Int) (hk : IsBytes w a n c key) (hn : n ≤ 100000) (i : Nat) (hpl : i ≤ ms.length) (st : List Cel) (HSt : Hid (∀ a n c, (ms.take i ++ mc0 key a n c :: ms.drop i).map MC.c = st))
    (HPl : Hid (Calls Try.prog 42 #[.pointer (some ⟨p, 0, none⟩), .slice a n c] w fun e w' => e = .returned (.tuple #[.int .i64 i, .bool false]) ∧ Below w.heap.size w w')) (e : cv = .slice none 0 0) :
    Calls Try.prog 50 #[.pointer (some ⟨p, 0, none⟩), .slice a n c] w fun e w' => ∃ cv' ms', e = .returned (.int .i64 i) ∧ CellPost F w0 w p cv st w' cv' ms' := by
  have H := hide h
  have HK := hide hk
  have HKr := hide hk.2.2.2.1
  have HKb : Hid (([] : List Int).length + key.length ≤ 1099511627776) := by show _ ≤ _; rw [hk.1]; simp; omega
  have HBig : Hid (1 + (ms.drop i).length ≤ 1000000000) := by show _ ≤ _; rw [List.length_drop]; omega
  have HBg3 : Hid (∀ m0 : MC, (ms.take i).length + ([m0] ++ ms.drop i).length ≤ 1000000000) := by intro m0; rw [List.length_take, List.length_append, List.length_drop]; simp; omega
  subst e
  have hms : ms = [] := by
    rcases h.own.form with ⟨_, e0⟩ | ⟨g, cap, e, _⟩
    · exact e0
    · cases e
  subst hms
  obtain rfl : i = 0 := by simpa using hpl
  have HD0 : Hid (∀ W, Below w.heap.size w W → SrcY layC W none 0 (([] : List MC).drop 0)) := fun W _ => ⟨rfl, .inl rfl⟩
  clear h
  clear hk
  go_enter Try.func50, Try.ntmps50
  go_wp2_with (first
    | (go_at_call 42; go_must (refine HPl.out.mono ?_); rintro e w1 ⟨rfl, hb1⟩; have HB1 := hide hb1; clear hb1))
  have hs1 := HB1.out.size
  have HBf := hide (fun W (hW : Below w1.heap.size w1 W) => HB1.out.trans (hW.mono hs1))
  have HKc := hide (fun W (hW : Below w1.heap.size w1 W) => (H.out.keep (HBf.out W hW)).c)
  have HKs := hide (HK.out.keep (HBf.out w1.drew (Below.refl _ _).drew)).src
  refine startX 22 (by kernel_rfl) ?_
  refine' takeX (E := 22) (i := 0) (v := _) rfl (by kernel_rfl) (by kernel_rfl) (by kernel_rfl) (by kernel_rfl) (fun _ _ _ h => h) (by rfl) (Below.refl _ _) ?_ ?_; rotate_left
  · (intro W hSw; have y0 := HKc.out W (bel_undX hSw); go_simp; all_goals (with_reducible rfl))
  (try simp only [Act.put, List.setIfInBounds_toArray, List.set_cons_zero, List.set_cons_succ])
  refine' takeX (E := 22) (i := 1) (v := _) rfl (by kernel_rfl) (by kernel_rfl) (by kernel_rfl) (by kernel_rfl) (fun _ _ _ h => h) (by rfl) (Below.refl _ _) ?_ ?_; rotate_left
  · (intro W hSw; have y0 := HKc.out W (bel_undX hSw); go_simp; all_goals (with_reducible rfl))
  (try simp only [Act.put, List.setIfInBounds_toArray, List.set_cons_zero, List.set_cons_succ])
  refine' takeX (E := 22) (i := 2) (v := _) rfl (by kernel_rfl) (by kernel_rfl) (by kernel_rfl) (by kernel_rfl) (fun _ _ _ h => h) (by rfl) (Below.refl _ _) ?_ ?_; rotate_left
  · (intro W hSw; have y0 := HKc.out W (bel_undX hSw); go_simp; all_goals (with_reducible rfl))
  (try simp only [Act.put, List.setIfInBounds_toArray, List.set_cons_zero, List.set_cons_succ])
  refine' takeX (E := 22) (i := 3) (v := _) rfl (by kernel_rfl) (by kernel_rfl) (by kernel_rfl) (by kernel_rfl) (fun _ _ _ h => h) (by rfl) (Below.refl _ _) ?_ ?_; rotate_left
  · (intro W hSw; have y0 := HKc.out W (bel_undX hSw); go_simp; all_goals (with_reducible rfl))
  (try simp only [Act.put, List.setIfInBounds_toArray, List.set_cons_zero, List.set_cons_succ])
  refine' takeX (E := 22) (i := 4) (v := _) rfl (by kernel_rfl) (by kernel_rfl) (by kernel_rfl) (by kernel_rfl) (fun _ _ _ h => h) (by rfl) (Below.refl _ _) ?_ ?_; rotate_left
  · (intro W hSw; have y0 := HKc.out W (bel_undX hSw); go_simp; all_goals (with_reducible rfl))
  (try simp only [Act.put, List.setIfInBounds_toArray, List.set_cons_zero, List.set_cons_succ])
  refine' takeX (E := 22) (i := 5) (v := _) rfl (by kernel_rfl) (by kernel_rfl) (by kernel_rfl) (by kernel_rfl) (fun _ _ _ h => h) (by rfl) (Below.refl _ _) ?_ ?_; rotate_left
  · (intro W hSw; have y0 := HKc.out W (bel_undX hSw); go_simp; all_goals (with_reducible rfl))
  (try simp only [Act.put, List.setIfInBounds_toArray, List.set_cons_zero, List.set_cons_succ])
  refine' takeX (E := 22) (i := 6) (v := _) rfl (by kernel_rfl) (by kernel_rfl) (by kernel_rfl) (by kernel_rfl) (fun _ _ _ h => h) (by rfl) (Below.refl _ _) ?_ ?_; rotate_left
  · (intro W hSw; have y0 := HKc.out W (bel_undX hSw); go_simp; all_goals (with_reducible rfl))
  (try simp only [Act.put, List.setIfInBounds_toArray, List.set_cons_zero, List.set_cons_succ])
  refine' takeX (E := 22) (i := 7) (v := _) rfl (by kernel_rfl) (by kernel_rfl) (by kernel_rfl) (by kernel_rfl) (fun _ _ _ h => h) (by rfl) (Below.refl _ _) ?_ ?_; rotate_left
  · (intro W hSw; have y0 := HKc.out W (bel_undX hSw); go_simp; all_goals (with_reducible rfl))
  (try simp only [Act.put, List.setIfInBounds_toArray, List.set_cons_zero, List.set_cons_succ])
  refine' takeX (E := 22) (i := 8) (v := _) rfl (by kernel_rfl) (by kernel_rfl) (by kernel_rfl) (by kernel_rfl) (fun _ _ _ h => h) (by rfl) (Below.refl _ _) ?_ ?_; rotate_left
  · (intro W hSw; have y0 := HKc.out W (bel_undX hSw); go_simp; all_goals (with_reducible rfl))
  (try simp only [Act.put, List.setIfInBounds_toArray, List.set_cons_zero, List.set_cons_succ])
  refine' takeX (E := 22) (i := 12) (v := _) rfl (by kernel_rfl) (by kernel_rfl) (by kernel_rfl) (by kernel_rfl) (fun _ _ _ h => h) (by rfl) (Below.refl _ _) ?_ ?_; rotate_left
  · (intro W hSw; have y0 := HKc.out W (bel_undX hSw); go_simp; all_goals (with_reducible rfl))
  (try simp only [Act.put, List.setIfInBounds_toArray, List.set_cons_zero, List.set_cons_succ])
  refine' takeX (E := 22) (i := 13) (v := _) rfl (by kernel_rfl) (by kernel_rfl) (by kernel_rfl) (by kernel_rfl) (fun _ _ _ h => h) (by rfl) (Below.refl _ _) ?_ ?_; rotate_left
  · (intro W hSw; have y0 := HKc.out W (bel_undX hSw); go_simp; all_goals (with_reducible rfl))
  (try simp only [Act.put, List.setIfInBounds_toArray, List.set_cons_zero, List.set_cons_succ])
  refine' takeX (E := 22) (i := 14) (v := _) rfl (by kernel_rfl) (by kernel_rfl) (by kernel_rfl) (by kernel_rfl) (fun _ _ _ h => h) (by rfl) (Below.refl _ _) ?_ ?_; rotate_left
  · (intro W hSw; have y0 := HKc.out W (bel_undX hSw); go_simp; all_goals (with_reducible rfl))
  (try simp only [Act.put, List.setIfInBounds_toArray, List.set_cons_zero, List.set_cons_succ])
  refine' takeX (E := 22) (i := 15) (v := _) rfl (by kernel_rfl) (by kernel_rfl) (by kernel_rfl) (by kernel_rfl) (fun _ _ _ h => h) (by rfl) (Below.refl _ _) ?_ ?_; rotate_left
  · (intro W hSw; have y0 := HKc.out W (bel_undX hSw); go_simp; all_goals (with_reducible rfl))
  (try simp only [Act.put, List.setIfInBounds_toArray, List.set_cons_zero, List.set_cons_succ])
  refine' takeX (E := 22) (i := 16) (v := _) rfl (by kernel_rfl) (by kernel_rfl) (by kernel_rfl) (by kernel_rfl) (fun _ _ _ h => h) (by rfl) (Below.refl _ _) ?_ ?_; rotate_left
  · (intro W hSw; have y0 := HKc.out W (bel_undX hSw); go_simp; all_goals (with_reducible rfl))
  (try simp only [Act.put, List.setIfInBounds_toArray, List.set_cons_zero, List.set_cons_succ])
  refine' takeX (E := 22) (i := 17) (v := _) rfl (by kernel_rfl) (by kernel_rfl) (by kernel_rfl) (by kernel_rfl) (fun _ _ _ h => h) (by rfl) (Below.refl _ _) ?_ ?_; rotate_left
  · (intro W hSw; have y0 := HKc.out W (bel_undX hSw); go_simp; all_goals (with_reducible rfl))
  (try simp only [Act.put, List.setIfInBounds_toArray, List.set_cons_zero, List.set_cons_succ])
  refine callX (i := 9) rfl (by kernel_rfl) (fun K hK => ?_)
  refine step_joinB _ (by rfl) (.const (.slice none 0 0)) (.tmp 23) (by rfl) w1.heap.size _ [] (by rfl) (ownB_nil _ _) a n c key (by rfl) HKs.out HKb.out (by exact Nat.le_refl _) ?_
  intro v2 w2 hown2 hg2x hat2
  obtain ⟨a2, n2, c2, rfl, -⟩ := hown2.any
  have HO2 := hide hown2
  have hb12 : Below w1.drew.heap.size w1.drew w2 := below_noneY hg2x
  have HB2 := hide (HBf.out w2 (bel_undX hb12))
  refine hK.out _ _ (fun _ => hb12) ?_
  clear hK K hown2 hg2x hat2
  (try simp only [Act.put, List.setIfInBounds_toArray, List.set_cons_zero, List.set_cons_succ])
  have HOne := hide (ownY_one (L := layC) w2 w2.heap.size #[.slice a2 n2 c2, .slice none 0 0, .int .u64 0, .int .u64 0, .bool false, .slice none 0 0, .slice none 0 0] (mc0 key a2 n2 c2) (Nat.le_refl _) rfl)
  have HW2 := hide (new_below w2 (.cells #[.slice a2 n2 c2, .slice none 0 0, .int .u64 0, .int .u64 0, .bool false, .slice none 0 0, .slice none 0 0] 52))
  refine callX (i := 10) rfl (by kernel_rfl) (fun K hK => ?_)
  go_simp
  refine hK.out _ _ (fun _ => hb12) ?_
  clear hK K
  (try simp only [Act.put, List.setIfInBounds_toArray, List.set_cons_zero, List.set_cons_succ])
  refine callX (i := 11) rfl (by kernel_rfl) (fun K hK => ?_)
  go_simp
  refine hK.out _ _ (fun _ => hb12.trans (HW2.out.mono hb12.size)) ?_
  clear hK K
  (try simp only [Act.put, List.setIfInBounds_toArray, List.set_cons_zero, List.set_cons_succ])
  refine callX (i := 18) rfl (by kernel_rfl) (fun K hK => ?_)
  refine step_joinY layC _ (by rfl) (.tmp 26) (.tmp 32) (by rfl) w2.heap.size _ [mc0 key a2 n2 c2] (by rfl) HOne.out none 0 0 (([] : List MC).drop 0) (by rfl) (HD0.out _ (HB2.out.trans (HW2.out.mono HB2.out.size))) HBig.out HW2.out.size ?_
  intro v3 w3 hown3 hg3 hat3
  have hb23 := HW2.out.trans (HOne.out.grown hg3 HW2.out.size)
  have HB23 := hide hb23
  have HB3 := hide (HB2.out.trans (hb23.mono HB2.out.size))
  obtain ⟨a3, n3, c3, rfl⟩ := hown3.any3
  have HL3 := hide hown3.len.1
  have hn3 : 0 < n3 := by rw [← HL3.out]; simp
  have HS3 := hide hown3.is.src
  refine hK.out _ _ (fun _ => hb12.trans (hb23.mono hb12.size)) ?_
  clear hK K hown3 hg3 hat3
  (try simp only [Act.put, List.setIfInBounds_toArray, List.set_cons_zero, List.set_cons_succ])
  refine callX (i := 19) rfl (by kernel_rfl) (fun K hK => ?_)
  refine step_growY layC _ (by rfl) (.tmp 22) (.tmp 33) (by rfl) none 0 (([] : List MC).take 0) (by rfl) (HD0.out w3 HB3.out) (fun _ => .inl rfl) a3 n3 c3 ([mc0 key a2 n2 c2] ++ ([] : List MC).drop 0) (by rfl) HS3.out hn3 (HBg3.out _) ?_
  intro v4 w4 hown4 hg4
  obtain ⟨a4, n4, d4, rfl⟩ := hown4.any3
  have HO4 := hide hown4
  have hb34 := below_noneY hg4
  have HB4 := hide (HB3.out.trans (hb34.mono HB3.out.size))
  have HB24 := hide (HB23.out.trans (hb34.mono HB23.out.size))
  have c4 := (H.out.keep HB4.out).c
  have f4 := (H.out.keep HB4.out).fz
  have hb4 := hb12.trans (HB24.out.mono hb12.size)
  refine hK.out _ _ (fun _ => hb4) ?_
  clear hK K hown4 hg4
  (try simp only [Act.put, List.setIfInBounds_toArray, List.set_cons_zero, List.set_cons_succ])
  refine callX (i := 20) rfl (by kernel_rfl) (fun K hK => ?_)
  go_simp
  refine hK.out _ _ (fun _ => hb4) ?_
  clear hK K
  (try simp only [Act.put, List.setIfInBounds_toArray, List.set_cons_zero, List.set_cons_succ])
  refine callX (i := 21) rfl (by kernel_rfl) (fun K hK => ?_)
  go_simp
  refine hK.out _ _ (fun _ => hb4) ?_
  clear hK K
  (try simp only [Act.put, List.setIfInBounds_toArray, List.set_cons_zero, List.set_cons_succ])
  refine callX (i := 22) rfl (by kernel_rfl) (fun K hK => ?_)
  go_simp
  refine hK.out _ _ (fun h => absurd rfl h) ?_
  clear hK K
  (try simp only [Act.put, List.setIfInBounds_toArray, List.set_cons_zero, List.set_cons_succ])
  refine doneX (by kernel_rfl) ?_ _
  go_wp2
  go_ret
  have HI2 := hide (okB_of HO2.out HKr.out)
  obtain ⟨r1, r2, r3⟩ := H.out.laid 0 key HI2.out (fun y hy => Nat.le_trans hs1 (ownB_new HO2.out y hy)) HB2.out HB24.out (HO4.out.mono HB23.out.size)
  exact ⟨_, _, rfl, r1, HSt.out _ _ _, r2, r3⟩

set_option maxHeartbeats 4000000 in
theorem cell_full (F : Nat → Prop) (w0 w : World) (p : Nat) (cv : Value) (ms : List MC) (h : IsXs F w0 w p cv ms) (hf : ms.length ≤ 100000) (a : Option Addr) (n c : Nat) (key : List Int) (hk : IsBytes w a n c key) (hn : n ≤ 100000) (i : Nat) (hpl : i ≤ ms.length) (st : List Cel) (HSt : Hid (∀ a n c, (ms.take i ++ mc0 key a n c :: ms.drop i).map MC.c = st))
    (HPl : Hid (Calls Try.prog 42 #[.pointer (some ⟨p, 0, none⟩), .slice a n c] w fun e w' => e = .returned (.tuple #[.int .i64 i, .bool false]) ∧ Below w.heap.size w w')) (g nn cap : Nat) (e : cv = .slice (some ⟨g, 0, none⟩) nn cap) (hci : cap = i) :
    Calls Try.prog 50 #[.pointer (some ⟨p, 0, none⟩), .slice a n c] w fun e w' => ∃ cv' ms', e = .returned (.int .i64 i) ∧ CellPost F w0 w p cv st w' cv' ms' := by
  have H := hide h
  have HK := hide hk
  have HKr := hide hk.2.2.2.1
  have HKb : Hid (([] : List Int).length + key.length ≤ 1099511627776) := by show _ ≤ _; rw [hk.1]; simp; omega
  have HBig : Hid (1 + (ms.drop i).length ≤ 1000000000) := by show _ ≤ _; rw [List.length_drop]; omega
  have HBg3 : Hid (∀ m0 : MC, (ms.take i).length + ([m0] ++ ms.drop i).length ≤ 1000000000) := by intro m0; rw [List.length_take, List.length_append, List.length_drop]; simp; omega
  subst e
  have hg2 : g < w.heap.size := (h.own.lt g rfl).2
  have hC : CellsY layC w g 0 ms := by
    rcases h.own.form with ⟨e, _⟩ | ⟨g', cap', e, _, _, _, _, hC, _⟩
    · cases e
    · cases e; exact hC
  have hnn := h.own.len
  have hcapI : (cap : Int) ≤ 9223372036854775807 := by have := hnn.2.2; unfold maxLen at this; omega
  have hiI : (i : Int) ≤ (nn : Int) := by omega
  have hicI : (i : Int) ≤ (cap : Int) := by omega
  have HTak : Hid (∀ W, Below w.heap.size w W → SrcY layC W (some ⟨g, 0, none⟩) i (ms.take i)) := fun W hW => ⟨by rw [List.length_take]; omega, .inr ⟨g, 0, rfl, Nat.lt_of_lt_of_le hg2 hW.size, (hC.take i).same (hW.block g hg2)⟩⟩
  have hni : nn = i := by omega
  have HD0 : Hid (∀ W, Below w.heap.size w W → SrcY layC W (some ⟨g, 0, none⟩) 0 (ms.drop i)) := fun W _ => ⟨by rw [List.length_drop]; omega, .inl rfl⟩
  subst hci
  subst hni
  clear h hC
  clear hk
  go_enter Try.func50, Try.ntmps50
  go_wp2_with (first
    | (go_at_call 42; go_must (refine HPl.out.mono ?_); rintro e w1 ⟨rfl, hb1⟩; have HB1 := hide hb1; clear hb1))
  have hs1 := HB1.out.size
  have HBf := hide (fun W (hW : Below w1.heap.size w1 W) => HB1.out.trans (hW.mono hs1))
  have HKc := hide (fun W (hW : Below w1.heap.size w1 W) => (H.out.keep (HBf.out W hW)).c)
  have HKs := hide (HK.out.keep (HBf.out w1.drew (Below.refl _ _).drew)).src
  refine startX 22 (by kernel_rfl) ?_
  refine' takeX (E := 22) (i := 0) (v := _) rfl (by kernel_rfl) (by kernel_rfl) (by kernel_rfl) (by kernel_rfl) (fun _ _ _ h => h) (by rfl) (Below.refl _ _) ?_ ?_; rotate_left
  · (intro W hSw; have y0 := HKc.out W (bel_undX hSw); go_simp; all_goals (with_reducible rfl))
  (try simp only [Act.put, List.setIfInBounds_toArray, List.set_cons_zero, List.set_cons_succ])
  refine' takeX (E := 22) (i := 1) (v := _) rfl (by kernel_rfl) (by kernel_rfl) (by kernel_rfl) (by kernel_rfl) (fun _ _ _ h => h) (by rfl) (Below.refl _ _) ?_ ?_; rotate_left
  · (intro W hSw; have y0 := HKc.out W (bel_undX hSw); go_simp; all_goals (with_reducible rfl))
  (try simp only [Act.put, List.setIfInBounds_toArray, List.set_cons_zero, List.set_cons_succ])
  refine' takeX (E := 22) (i := 2) (v := _) rfl (by kernel_rfl) (by kernel_rfl) (by kernel_rfl) (by kernel_rfl) (fun _ _ _ h => h) (by rfl) (Below.refl _ _) ?_ ?_; rotate_left
  · (intro W hSw; have y0 := HKc.out W (bel_undX hSw); go_simp; all_goals (with_reducible rfl))
  (try simp only [Act.put, List.setIfInBounds_toArray, List.set_cons_zero, List.set_cons_succ])
  refine' takeX (E := 22) (i := 3) (v := _) rfl (by kernel_rfl) (by kernel_rfl) (by kernel_rfl) (by kernel_rfl) (fun _ _ _ h => h) (by rfl) (Below.refl _ _) ?_ ?_; rotate_left
  · (intro W hSw; have y0 := HKc.out W (bel_undX hSw); go_simp; all_goals (with_reducible rfl))
  (try simp only [Act.put, List.setIfInBounds_toArray, List.set_cons_zero, List.set_cons_succ])
  refine' takeX (E := 22) (i := 4) (v := _) rfl (by kernel_rfl) (by kernel_rfl) (by kernel_rfl) (by kernel_rfl) (fun _ _ _ h => h) (by rfl) (Below.refl _ _) ?_ ?_; rotate_left
  · (intro W hSw; have y0 := HKc.out W (bel_undX hSw); go_simp; all_goals (with_reducible rfl))
  (try simp only [Act.put, List.setIfInBounds_toArray, List.set_cons_zero, List.set_cons_succ])
  refine' takeX (E := 22) (i := 5) (v := _) rfl (by kernel_rfl) (by kernel_rfl) (by kernel_rfl) (by kernel_rfl) (fun _ _ _ h => h) (by rfl) (Below.refl _ _) ?_ ?_; rotate_left
  · (intro W hSw; have y0 := HKc.out W (bel_undX hSw); go_simp; all_goals (with_reducible rfl))
  (try simp only [Act.put, List.setIfInBounds_toArray, List.set_cons_zero, List.set_cons_succ])
  refine' takeX (E := 22) (i := 6) (v := _) rfl (by kernel_rfl) (by kernel_rfl) (by kernel_rfl) (by kernel_rfl) (fun _ _ _ h => h) (by rfl) (Below.refl _ _) ?_ ?_; rotate_left
  · (intro W hSw; have y0 := HKc.out W (bel_undX hSw); go_simp; all_goals (with_reducible rfl))
  (try simp only [Act.put, List.setIfInBounds_toArray, List.set_cons_zero, List.set_cons_succ])
  refine' takeX (E := 22) (i := 7) (v := _) rfl (by kernel_rfl) (by kernel_rfl) (by kernel_rfl) (by kernel_rfl) (fun _ _ _ h => h) (by rfl) (Below.refl _ _) ?_ ?_; rotate_left
  · (intro W hSw; have y0 := HKc.out W (bel_undX hSw); go_simp; all_goals (with_reducible rfl))
  (try simp only [Act.put, List.setIfInBounds_toArray, List.set_cons_zero, List.set_cons_succ])
  refine' takeX (E := 22) (i := 8) (v := _) rfl (by kernel_rfl) (by kernel_rfl) (by kernel_rfl) (by kernel_rfl) (fun _ _ _ h => h) (by rfl) (Below.refl _ _) ?_ ?_; rotate_left
  · (intro W hSw; have y0 := HKc.out W (bel_undX hSw); go_simp; all_goals (with_reducible rfl))
  (try simp only [Act.put, List.setIfInBounds_toArray, List.set_cons_zero, List.set_cons_succ])
  refine' takeX (E := 22) (i := 12) (v := _) rfl (by kernel_rfl) (by kernel_rfl) (by kernel_rfl) (by kernel_rfl) (fun _ _ _ h => h) (by rfl) (Below.refl _ _) ?_ ?_; rotate_left
  · (intro W hSw; have y0 := HKc.out W (bel_undX hSw); go_simp; all_goals (with_reducible rfl))
  (try simp only [Act.put, List.setIfInBounds_toArray, List.set_cons_zero, List.set_cons_succ])
  refine' takeX (E := 22) (i := 13) (v := _) rfl (by kernel_rfl) (by kernel_rfl) (by kernel_rfl) (by kernel_rfl) (fun _ _ _ h => h) (by rfl) (Below.refl _ _) ?_ ?_; rotate_left
  · (intro W hSw; have y0 := HKc.out W (bel_undX hSw); go_simp; all_goals (with_reducible rfl))
  (try simp only [Act.put, List.setIfInBounds_toArray, List.set_cons_zero, List.set_cons_succ])
  refine' takeX (E := 22) (i := 14) (v := _) rfl (by kernel_rfl) (by kernel_rfl) (by kernel_rfl) (by kernel_rfl) (fun _ _ _ h => h) (by rfl) (Below.refl _ _) ?_ ?_; rotate_left
  · (intro W hSw; have y0 := HKc.out W (bel_undX hSw); go_simp; all_goals (with_reducible rfl))
  (try simp only [Act.put, List.setIfInBounds_toArray, List.set_cons_zero, List.set_cons_succ])
  refine' takeX (E := 22) (i := 15) (v := _) rfl (by kernel_rfl) (by kernel_rfl) (by kernel_rfl) (by kernel_rfl) (fun _ _ _ h => h) (by rfl) (Below.refl _ _) ?_ ?_; rotate_left
  · (intro W hSw; have y0 := HKc.out W (bel_undX hSw); go_simp; all_goals (with_reducible rfl))
  (try simp only [Act.put, List.setIfInBounds_toArray, List.set_cons_zero, List.set_cons_succ])
  refine' takeX (E := 22) (i := 16) (v := _) rfl (by kernel_rfl) (by kernel_rfl) (by kernel_rfl) (by kernel_rfl) (fun _ _ _ h => h) (by rfl) (Below.refl _ _) ?_ ?_; rotate_left
  · (intro W hSw; have y0 := HKc.out W (bel_undX hSw); go_simp; all_goals (with_reducible rfl))
  (try simp only [Act.put, List.setIfInBounds_toArray, List.set_cons_zero, List.set_cons_succ])
  refine' takeX (E := 22) (i := 17) (v := _) rfl (by kernel_rfl) (by kernel_rfl) (by kernel_rfl) (by kernel_rfl) (fun _ _ _ h => h) (by rfl) (Below.refl _ _) ?_ ?_; rotate_left
  · (intro W hSw; have y0 := HKc.out W (bel_undX hSw); go_simp; all_goals (with_reducible rfl))
  (try simp only [Act.put, List.setIfInBounds_toArray, List.set_cons_zero, List.set_cons_succ])
  refine callX (i := 9) rfl (by kernel_rfl) (fun K hK => ?_)
  refine step_joinB _ (by rfl) (.const (.slice none 0 0)) (.tmp 23) (by rfl) w1.heap.size _ [] (by rfl) (ownB_nil _ _) a n c key (by rfl) HKs.out HKb.out (by exact Nat.le_refl _) ?_
  intro v2 w2 hown2 hg2x hat2
  obtain ⟨a2, n2, c2, rfl, -⟩ := hown2.any
  have HO2 := hide hown2
  have hb12 : Below w1.drew.heap.size w1.drew w2 := below_noneY hg2x
  have HB2 := hide (HBf.out w2 (bel_undX hb12))
  refine hK.out _ _ (fun _ => hb12) ?_
  clear hK K hown2 hg2x hat2
  (try simp only [Act.put, List.setIfInBounds_toArray, List.set_cons_zero, List.set_cons_succ])
  have HOne := hide (ownY_one (L := layC) w2 w2.heap.size #[.slice a2 n2 c2, .slice none 0 0, .int .u64 0, .int .u64 0, .bool false, .slice none 0 0, .slice none 0 0] (mc0 key a2 n2 c2) (Nat.le_refl _) rfl)
  have HW2 := hide (new_below w2 (.cells #[.slice a2 n2 c2, .slice none 0 0, .int .u64 0, .int .u64 0, .bool false, .slice none 0 0, .slice none 0 0] 52))
  refine callX (i := 10) rfl (by kernel_rfl) (fun K hK => ?_)
  go_simp
  refine hK.out _ _ (fun _ => hb12) ?_
  clear hK K
  (try simp only [Act.put, List.setIfInBounds_toArray, List.set_cons_zero, List.set_cons_succ])
  refine callX (i := 11) rfl (by kernel_rfl) (fun K hK => ?_)
  go_simp
  refine hK.out _ _ (fun _ => hb12.trans (HW2.out.mono hb12.size)) ?_
  clear hK K
  (try simp only [Act.put, List.setIfInBounds_toArray, List.set_cons_zero, List.set_cons_succ])
  refine callX (i := 18) rfl (by kernel_rfl) (fun K hK => ?_)
  refine step_joinY layC _ (by rfl) (.tmp 26) (.tmp 32) (by rfl) w2.heap.size _ [mc0 key a2 n2 c2] (by rfl) HOne.out (some ⟨g, 0, none⟩) 0 0 (ms.drop nn) (by rfl) (HD0.out _ (HB2.out.trans (HW2.out.mono HB2.out.size))) HBig.out HW2.out.size ?_
  intro v3 w3 hown3 hg3 hat3
  have hb23 := HW2.out.trans (HOne.out.grown hg3 HW2.out.size)
  have HB23 := hide hb23
  have HB3 := hide (HB2.out.trans (hb23.mono HB2.out.size))
  obtain ⟨a3, n3, c3, rfl⟩ := hown3.any3
  have HL3 := hide hown3.len.1
  have hn3 : 0 < n3 := by rw [← HL3.out]; simp
  have HS3 := hide hown3.is.src
  refine hK.out _ _ (fun _ => hb12.trans (hb23.mono hb12.size)) ?_
  clear hK K hown3 hg3 hat3
  (try simp only [Act.put, List.setIfInBounds_toArray, List.set_cons_zero, List.set_cons_succ])
  refine callX (i := 19) rfl (by kernel_rfl) (fun K hK => ?_)
  refine step_growY layC _ (by rfl) (.tmp 22) (.tmp 33) (by rfl) (some ⟨g, 0, none⟩) nn (ms.take nn) (by rfl) (HTak.out w3 HB3.out) (fun _ => .inr ⟨g, 0, rfl⟩) a3 n3 c3 ([mc0 key a2 n2 c2] ++ ms.drop nn) (by rfl) HS3.out hn3 (HBg3.out _) ?_
  intro v4 w4 hown4 hg4
  obtain ⟨a4, n4, d4, rfl⟩ := hown4.any3
  have HO4 := hide hown4
  have hb34 := below_noneY hg4
  have HB4 := hide (HB3.out.trans (hb34.mono HB3.out.size))
  have HB24 := hide (HB23.out.trans (hb34.mono HB23.out.size))
  have c4 := (H.out.keep HB4.out).c
  have f4 := (H.out.keep HB4.out).fz
  have hb4 := hb12.trans (HB24.out.mono hb12.size)
  refine hK.out _ _ (fun _ => hb4) ?_
  clear hK K hown4 hg4
  (try simp only [Act.put, List.setIfInBounds_toArray, List.set_cons_zero, List.set_cons_succ])
  refine callX (i := 20) rfl (by kernel_rfl) (fun K hK => ?_)
  go_simp
  refine hK.out _ _ (fun _ => hb4) ?_
  clear hK K
  (try simp only [Act.put, List.setIfInBounds_toArray, List.set_cons_zero, List.set_cons_succ])
  refine callX (i := 21) rfl (by kernel_rfl) (fun K hK => ?_)
  go_simp
  refine hK.out _ _ (fun _ => hb4) ?_
  clear hK K
  (try simp only [Act.put, List.setIfInBounds_toArray, List.set_cons_zero, List.set_cons_succ])
  refine callX (i := 22) rfl (by kernel_rfl) (fun K hK => ?_)
  go_simp
  refine hK.out _ _ (fun h => absurd rfl h) ?_
  clear hK K
  (try simp only [Act.put, List.setIfInBounds_toArray, List.set_cons_zero, List.set_cons_succ])
  refine doneX (by kernel_rfl) ?_ _
  go_wp2
  go_ret
  have HI2 := hide (okB_of HO2.out HKr.out)
  obtain ⟨r1, r2, r3⟩ := H.out.laid nn key HI2.out (fun y hy => Nat.le_trans hs1 (ownB_new HO2.out y hy)) HB2.out HB24.out (HO4.out.mono HB23.out.size)
  exact ⟨_, _, rfl, r1, HSt.out _ _ _, r2, r3⟩

set_option maxHeartbeats 4000000 in
theorem cell_room (F : Nat → Prop) (w0 w : World) (p : Nat) (cv : Value) (ms : List MC) (h : IsXs F w0 w p cv ms) (hf : ms.length ≤ 100000) (a : Option Addr) (n c : Nat) (key : List Int) (hk : IsBytes w a n c key) (hn : n ≤ 100000) (i : Nat) (hpl : i ≤ ms.length) (st : List Cel) (HSt : Hid (∀ a n c, (ms.take i ++ mc0 key a n c :: ms.drop i).map MC.c = st))
    (HPl : Hid (Calls Try.prog 42 #[.pointer (some ⟨p, 0, none⟩), .slice a n c] w fun e w' => e = .returned (.tuple #[.int .i64 i, .bool false]) ∧ Below w.heap.size w w')) (g nn cap : Nat) (e : cv = .slice (some ⟨g, 0, none⟩) nn cap) (hci : ¬ cap = i) :
    Calls Try.prog 50 #[.pointer (some ⟨p, 0, none⟩), .slice a n c] w fun e w' => ∃ cv' ms', e = .returned (.int .i64 i) ∧ CellPost F w0 w p cv st w' cv' ms' := by
  have H := hide h
  have HK := hide hk
  have HKr := hide hk.2.2.2.1
  have HKb : Hid (([] : List Int).length + key.length ≤ 1099511627776) := by show _ ≤ _; rw [hk.1]; simp; omega
  have HBig : Hid (1 + (ms.drop i).length ≤ 1000000000) := by show _ ≤ _; rw [List.length_drop]; omega
  have HBg3 : Hid (∀ m0 : MC, (ms.take i).length + ([m0] ++ ms.drop i).length ≤ 1000000000) := by intro m0; rw [List.length_take, List.length_append, List.length_drop]; simp; omega
  subst e
  have hg2 : g < w.heap.size := (h.own.lt g rfl).2
  have hC : CellsY layC w g 0 ms := by
    rcases h.own.form with ⟨e, _⟩ | ⟨g', cap', e, _, _, _, _, hC, _⟩
    · cases e
    · cases e; exact hC
  have hnn := h.own.len
  have hcapI : (cap : Int) ≤ 9223372036854775807 := by have := hnn.2.2; unfold maxLen at this; omega
  have hiI : (i : Int) ≤ (nn : Int) := by omega
  have hicI : (i : Int) ≤ (cap : Int) := by omega
  have HTak : Hid (∀ W, Below w.heap.size w W → SrcY layC W (some ⟨g, 0, none⟩) i (ms.take i)) := fun W hW => ⟨by rw [List.length_take]; omega, .inr ⟨g, 0, rfl, Nat.lt_of_lt_of_le hg2 hW.size, (hC.take i).same (hW.block g hg2)⟩⟩
  have HDrp : Hid (∀ W, Below w.heap.size w W → SrcY layC W (some ⟨g, i * 7, none⟩) (nn - i) (ms.drop i)) := fun W hW => ⟨by rw [List.length_drop]; omega, .inr ⟨g, i * 7, rfl, Nat.lt_of_lt_of_le hg2 hW.size, by
    have := (hC.drop i).same (hW.block g hg2)
    rw [Nat.zero_add] at this
    exact this⟩⟩
  clear h hC
  clear hk
  go_enter Try.func50, Try.ntmps50
  go_wp2_with (first
    | (go_at_call 42; go_must (refine HPl.out.mono ?_); rintro e w1 ⟨rfl, hb1⟩; have HB1 := hide hb1; clear hb1))
  have hs1 := HB1.out.size
  have HBf := hide (fun W (hW : Below w1.heap.size w1 W) => HB1.out.trans (hW.mono hs1))
  have HKc := hide (fun W (hW : Below w1.heap.size w1 W) => (H.out.keep (HBf.out W hW)).c)
  have HKs := hide (HK.out.keep (HBf.out w1.drew (Below.refl _ _).drew)).src
  refine startX 22 (by kernel_rfl) ?_
  refine' takeX (E := 22) (i := 0) (v := _) rfl (by kernel_rfl) (by kernel_rfl) (by kernel_rfl) (by kernel_rfl) (fun _ _ _ h => h) (by rfl) (Below.refl _ _) ?_ ?_; rotate_left
  · (intro W hSw; have y0 := HKc.out W (bel_undX hSw); go_simp; all_goals (with_reducible rfl))
  (try simp only [Act.put, List.setIfInBounds_toArray, List.set_cons_zero, List.set_cons_succ])
  refine' takeX (E := 22) (i := 1) (v := _) rfl (by kernel_rfl) (by kernel_rfl) (by kernel_rfl) (by kernel_rfl) (fun _ _ _ h => h) (by rfl) (Below.refl _ _) ?_ ?_; rotate_left
  · (intro W hSw; have y0 := HKc.out W (bel_undX hSw); go_simp; all_goals (with_reducible rfl))
  (try simp only [Act.put, List.setIfInBounds_toArray, List.set_cons_zero, List.set_cons_succ])
  refine' takeX (E := 22) (i := 2) (v := _) rfl (by kernel_rfl) (by kernel_rfl) (by kernel_rfl) (by kernel_rfl) (fun _ _ _ h => h) (by rfl) (Below.refl _ _) ?_ ?_; rotate_left
  · (intro W hSw; have y0 := HKc.out W (bel_undX hSw); go_simp; all_goals (with_reducible rfl))
  (try simp only [Act.put, List.setIfInBounds_toArray, List.set_cons_zero, List.set_cons_succ])
  refine' takeX (E := 22) (i := 3) (v := _) rfl (by kernel_rfl) (by kernel_rfl) (by kernel_rfl) (by kernel_rfl) (fun _ _ _ h => h) (by rfl) (Below.refl _ _) ?_ ?_; rotate_left
  · (intro W hSw; have y0 := HKc.out W (bel_undX hSw); go_simp; all_goals (with_reducible rfl))
  (try simp only [Act.put, List.setIfInBounds_toArray, List.set_cons_zero, List.set_cons_succ])
  refine' takeX (E := 22) (i := 4) (v := _) rfl (by kernel_rfl) (by kernel_rfl) (by kernel_rfl) (by kernel_rfl) (fun _ _ _ h => h) (by rfl) (Below.refl _ _) ?_ ?_; rotate_left
  · (intro W hSw; have y0 := HKc.out W (bel_undX hSw); go_simp; all_goals (with_reducible rfl))
  (try simp only [Act.put, List.setIfInBounds_toArray, List.set_cons_zero, List.set_cons_succ])
  refine' takeX (E := 22) (i := 5) (v := _) rfl (by kernel_rfl) (by kernel_rfl) (by kernel_rfl) (by kernel_rfl) (fun _ _ _ h => h) (by rfl) (Below.refl _ _) ?_ ?_; rotate_left
  · (intro W hSw; have y0 := HKc.out W (bel_undX hSw); go_simp; all_goals (with_reducible rfl))
  (try simp only [Act.put, List.setIfInBounds_toArray, List.set_cons_zero, List.set_cons_succ])
  refine' takeX (E := 22) (i := 6) (v := _) rfl (by kernel_rfl) (by kernel_rfl) (by kernel_rfl) (by kernel_rfl) (fun _ _ _ h => h) (by rfl) (Below.refl _ _) ?_ ?_; rotate_left
  · (intro W hSw; have y0 := HKc.out W (bel_undX hSw); go_simp; all_goals (with_reducible rfl))
  (try simp only [Act.put, List.setIfInBounds_toArray, List.set_cons_zero, List.set_cons_succ])
  refine' takeX (E := 22) (i := 7) (v := _) rfl (by kernel_rfl) (by kernel_rfl) (by kernel_rfl) (by kernel_rfl) (fun _ _ _ h => h) (by rfl) (Below.refl _ _) ?_ ?_; rotate_left
  · (intro W hSw; have y0 := HKc.out W (bel_undX hSw); go_simp; all_goals (with_reducible rfl))
  (try simp only [Act.put, List.setIfInBounds_toArray, List.set_cons_zero, List.set_cons_succ])
  refine' takeX (E := 22) (i := 8) (v := _) rfl (by kernel_rfl) (by kernel_rfl) (by kernel_rfl) (by kernel_rfl) (fun _ _ _ h => h) (by rfl) (Below.refl _ _) ?_ ?_; rotate_left
  · (intro W hSw; have y0 := HKc.out W (bel_undX hSw); go_simp; all_goals (with_reducible rfl))
  (try simp only [Act.put, List.setIfInBounds_toArray, List.set_cons_zero, List.set_cons_succ])
  refine' takeX (E := 22) (i := 12) (v := _) rfl (by kernel_rfl) (by kernel_rfl) (by kernel_rfl) (by kernel_rfl) (fun _ _ _ h => h) (by rfl) (Below.refl _ _) ?_ ?_; rotate_left
  · (intro W hSw; have y0 := HKc.out W (bel_undX hSw); go_simp; all_goals (with_reducible rfl))
  (try simp only [Act.put, List.setIfInBounds_toArray, List.set_cons_zero, List.set_cons_succ])
  refine' takeX (E := 22) (i := 13) (v := _) rfl (by kernel_rfl) (by kernel_rfl) (by kernel_rfl) (by kernel_rfl) (fun _ _ _ h => h) (by rfl) (Below.refl _ _) ?_ ?_; rotate_left
  · (intro W hSw; have y0 := HKc.out W (bel_undX hSw); go_simp; all_goals (with_reducible rfl))
  (try simp only [Act.put, List.setIfInBounds_toArray, List.set_cons_zero, List.set_cons_succ])
  refine' takeX (E := 22) (i := 14) (v := _) rfl (by kernel_rfl) (by kernel_rfl) (by kernel_rfl) (by kernel_rfl) (fun _ _ _ h => h) (by rfl) (Below.refl _ _) ?_ ?_; rotate_left
  · (intro W hSw; have y0 := HKc.out W (bel_undX hSw); go_simp; all_goals (with_reducible rfl))
  (try simp only [Act.put, List.setIfInBounds_toArray, List.set_cons_zero, List.set_cons_succ])
  refine' takeX (E := 22) (i := 15) (v := _) rfl (by kernel_rfl) (by kernel_rfl) (by kernel_rfl) (by kernel_rfl) (fun _ _ _ h => h) (by rfl) (Below.refl _ _) ?_ ?_; rotate_left
  · (intro W hSw; have y0 := HKc.out W (bel_undX hSw); go_simp; all_goals (with_reducible rfl))
  (try simp only [Act.put, List.setIfInBounds_toArray, List.set_cons_zero, List.set_cons_succ])
  refine' takeX (E := 22) (i := 16) (v := _) rfl (by kernel_rfl) (by kernel_rfl) (by kernel_rfl) (by kernel_rfl) (fun _ _ _ h => h) (by rfl) (Below.refl _ _) ?_ ?_; rotate_left
  · (intro W hSw; have y0 := HKc.out W (bel_undX hSw); go_simp; all_goals (with_reducible rfl))
  (try simp only [Act.put, List.setIfInBounds_toArray, List.set_cons_zero, List.set_cons_succ])
  refine' takeX (E := 22) (i := 17) (v := _) rfl (by kernel_rfl) (by kernel_rfl) (by kernel_rfl) (by kernel_rfl) (fun _ _ _ h => h) (by rfl) (Below.refl _ _) ?_ ?_; rotate_left
  · (intro W hSw; have y0 := HKc.out W (bel_undX hSw); go_simp; all_goals (with_reducible rfl))
  (try simp only [Act.put, List.setIfInBounds_toArray, List.set_cons_zero, List.set_cons_succ])
  refine callX (i := 9) rfl (by kernel_rfl) (fun K hK => ?_)
  refine step_joinB _ (by rfl) (.const (.slice none 0 0)) (.tmp 23) (by rfl) w1.heap.size _ [] (by rfl) (ownB_nil _ _) a n c key (by rfl) HKs.out HKb.out (by exact Nat.le_refl _) ?_
  intro v2 w2 hown2 hg2x hat2
  obtain ⟨a2, n2, c2, rfl, -⟩ := hown2.any
  have HO2 := hide hown2
  have hb12 : Below w1.drew.heap.size w1.drew w2 := below_noneY hg2x
  have HB2 := hide (HBf.out w2 (bel_undX hb12))
  refine hK.out _ _ (fun _ => hb12) ?_
  clear hK K hown2 hg2x hat2
  (try simp only [Act.put, List.setIfInBounds_toArray, List.set_cons_zero, List.set_cons_succ])
  have HOne := hide (ownY_one (L := layC) w2 w2.heap.size #[.slice a2 n2 c2, .slice none 0 0, .int .u64 0, .int .u64 0, .bool false, .slice none 0 0, .slice none 0 0] (mc0 key a2 n2 c2) (Nat.le_refl _) rfl)
  have HW2 := hide (new_below w2 (.cells #[.slice a2 n2 c2, .slice none 0 0, .int .u64 0, .int .u64 0, .bool false, .slice none 0 0, .slice none 0 0] 52))
  refine callX (i := 10) rfl (by kernel_rfl) (fun K hK => ?_)
  go_simp
  refine hK.out _ _ (fun _ => hb12) ?_
  clear hK K
  (try simp only [Act.put, List.setIfInBounds_toArray, List.set_cons_zero, List.set_cons_succ])
  refine callX (i := 11) rfl (by kernel_rfl) (fun K hK => ?_)
  go_simp
  refine hK.out _ _ (fun _ => hb12.trans (HW2.out.mono hb12.size)) ?_
  clear hK K
  (try simp only [Act.put, List.setIfInBounds_toArray, List.set_cons_zero, List.set_cons_succ])
  refine callX (i := 18) rfl (by kernel_rfl) (fun K hK => ?_)
  refine step_joinY layC _ (by rfl) (.tmp 26) (.tmp 32) (by rfl) w2.heap.size _ [mc0 key a2 n2 c2] (by rfl) HOne.out (some ⟨g, i * 7, none⟩) (nn - i) (cap - i) (ms.drop i) (by rfl) (HDrp.out _ (HB2.out.trans (HW2.out.mono HB2.out.size))) HBig.out HW2.out.size ?_
  intro v3 w3 hown3 hg3 hat3
  have hb23 := HW2.out.trans (HOne.out.grown hg3 HW2.out.size)
  have HB23 := hide hb23
  have HB3 := hide (HB2.out.trans (hb23.mono HB2.out.size))
  obtain ⟨a3, n3, c3, rfl⟩ := hown3.any3
  have HL3 := hide hown3.len.1
  have hn3 : 0 < n3 := by rw [← HL3.out]; simp
  have HS3 := hide hown3.is.src
  refine hK.out _ _ (fun _ => hb12.trans (hb23.mono hb12.size)) ?_
  clear hK K hown3 hg3 hat3
  (try simp only [Act.put, List.setIfInBounds_toArray, List.set_cons_zero, List.set_cons_succ])
  refine callX (i := 19) rfl (by kernel_rfl) (fun K hK => ?_)
  refine step_growY layC _ (by rfl) (.tmp 22) (.tmp 33) (by rfl) (some ⟨g, 0, none⟩) i (ms.take i) (by rfl) (HTak.out w3 HB3.out) (fun _ => .inr ⟨g, 0, rfl⟩) a3 n3 c3 ([mc0 key a2 n2 c2] ++ ms.drop i) (by rfl) HS3.out hn3 (HBg3.out _) ?_
  intro v4 w4 hown4 hg4
  obtain ⟨a4, n4, d4, rfl⟩ := hown4.any3
  have HO4 := hide hown4
  have hb34 := below_noneY hg4
  have HB4 := hide (HB3.out.trans (hb34.mono HB3.out.size))
  have HB24 := hide (HB23.out.trans (hb34.mono HB23.out.size))
  have c4 := (H.out.keep HB4.out).c
  have f4 := (H.out.keep HB4.out).fz
  have hb4 := hb12.trans (HB24.out.mono hb12.size)
  refine hK.out _ _ (fun _ => hb4) ?_
  clear hK K hown4 hg4
  (try simp only [Act.put, List.setIfInBounds_toArray, List.set_cons_zero, List.set_cons_succ])
  refine callX (i := 20) rfl (by kernel_rfl) (fun K hK => ?_)
  go_simp
  refine hK.out _ _ (fun _ => hb4) ?_
  clear hK K
  (try simp only [Act.put, List.setIfInBounds_toArray, List.set_cons_zero, List.set_cons_succ])
  refine callX (i := 21) rfl (by kernel_rfl) (fun K hK => ?_)
  go_simp
  refine hK.out _ _ (fun _ => hb4) ?_
  clear hK K
  (try simp only [Act.put, List.setIfInBounds_toArray, List.set_cons_zero, List.set_cons_succ])
  refine callX (i := 22) rfl (by kernel_rfl) (fun K hK => ?_)
  go_simp
  refine hK.out _ _ (fun h => absurd rfl h) ?_
  clear hK K
  (try simp only [Act.put, List.setIfInBounds_toArray, List.set_cons_zero, List.set_cons_succ])
  refine doneX (by kernel_rfl) ?_ _
  go_wp2
  go_ret
  have HI2 := hide (okB_of HO2.out HKr.out)
  obtain ⟨r1, r2, r3⟩ := H.out.laid i key HI2.out (fun y hy => Nat.le_trans hs1 (ownB_new HO2.out y hy)) HB2.out HB24.out (HO4.out.mono HB23.out.size)
  exact ⟨_, _, rfl, r1, HSt.out _ _ _, r2, r3⟩

theorem cell_any : CellSpec := by
  intro F w0 w p cv ms h hf a n c key hk hn
  have hpl := plc_le (ms.map MC.c) key
  rw [List.length_map] at hpl
  have HPl := hide (place_any F w0 w p cv ms h a n c key hk)
  have HIn : Hid (insC (ms.map MC.c) key = if isAt (ms.map MC.c) key = true then ms.map MC.c else (ms.map MC.c).take (plc (ms.map MC.c) key) ++ ⟨key, [], ver0⟩ :: (ms.map MC.c).drop (plc (ms.map MC.c) key)) := by show _ = _; rfl
  generalize plc (ms.map MC.c) key = i at *
  generalize isAt (ms.map MC.c) key = z at *
  generalize insC (ms.map MC.c) key = st at *
  cases z
  · have HSt : Hid (∀ a n c, (ms.take i ++ mc0 key a n c :: ms.drop i).map MC.c = st) := by
      intro a n c
      rw [HIn.out, if_neg (by simp)]
      simp [mc0, MC.c, mv0]
    rcases h.own.form with ⟨e, e0⟩ | ⟨g, cap, e, _⟩
    · exact cell_nil F w0 w p cv ms h hf a n c key hk hn i hpl st HSt HPl e
    · by_cases hci : cap = i
      · exact cell_full F w0 w p cv ms h hf a n c key hk hn i hpl st HSt HPl g _ cap e hci
      · exact cell_room F w0 w p cv ms h hf a n c key hk hn i hpl st HSt HPl g _ cap e hci
  · have HSt : Hid (ms.map MC.c = st) := by show _ = _; rw [HIn.out, if_pos rfl]
    have H := hide h
    clear h hk
    go_enter Try.func50, Try.ntmps50
    go_wp2_with (first
      | (go_at_call 42; go_must (refine HPl.out.mono ?_); rintro e w1 ⟨rfl, hb1⟩; have HB1 := hide hb1; clear hb1))
    go_ret
    exact ⟨_, _, rfl, H.out.keep HB1.out, HSt.out, ⟨HB1.out.os, HB1.out.tape, HB1.out.output, HB1.out.size, fun g hg _ => HB1.out.block g hg⟩, .inl rfl⟩

end Go.Proofs.Ytfldiapdfpkdaaa
