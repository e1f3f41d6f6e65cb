/- The reference's SameCells, where both lists are alike. -/
import Derived.Test.YtfldiapdfpkdaaaMvG
namespace Go.Proofs.Ytfldiapdfpkdaaa
open Go.RowKit NumMath Go.ChangeShapes Go.WideShapes Go.Deep
set_option linter.unusedVariables false
set_option maxRecDepth 100000

/-- a cell that may be read in a world -/
structure MC.at (w : World) (m : MC) : Prop where
  key : IsBytes w m.ka m.kn m.kc m.key
  vs : IsY layV w m.va m.vn m.vc m.vs
  vat : ∀ v ∈ m.vs, v.at w
  iat : m.it.at w

theorem MC.at.keep {w w' : World} {m : MC} (h : m.at w) (hb : Below w.heap.size w w') : m.at w' := ⟨h.key.keep hb, h.vs.keep hb, fun v hv => (h.vat v hv).keep hb, h.iat.keep hb⟩

theorem MC.ok.at {w0 w : World} {X : Nat → Prop} {m : MC} (h : m.ok w0 X w) (hb : Below w0.heap.size w0 w) : m.at w := ⟨h.key, h.vs, fun v hv => (h.vok v hv).at hb, h.iok.at hb⟩

theorem bel_undG {w W : World} (h : Below w.drew.heap.size w.drew W) : Below w.heap.size w W := (Below.refl _ w).drew.trans h

/-- the cells of one, as the walk reads them -/
def ReadC (W : World) (g o : Nat) (m : MC) : Prop := W.cell? ⟨g, o, none⟩ = some (.slice m.ka m.kn m.kc) ∧ W.cell? ⟨g, o + 1, none⟩ = some (.slice m.va m.vn m.vc) ∧ W.cell? ⟨g, o + 2, none⟩ = some (.int .u64 m.it.v.ts) ∧ W.cell? ⟨g, o + 2 + 1, none⟩ = some (.int .u64 m.it.v.tx) ∧ W.cell? ⟨g, o + 2 + 2, none⟩ = some (.bool m.it.v.dd) ∧ W.cell? ⟨g, o + 2 + 3, none⟩ = some (.slice m.it.va m.it.vn m.it.vc) ∧ W.cell? ⟨g, o + 2 + 4, none⟩ = some (.slice m.it.ka m.it.kn m.it.kc)

theorem readC {W : World} {g o : Nat} {m : MC} (h : W.rangeAt g o (layC.cells m)) : ReadC W g o m := by
  obtain ⟨x0, x1, x2, x3, x4, x5, x6⟩ := rangeC h
  exact ⟨x0, x1, x2, x3, x4, x5, x6⟩

/-- the cells of a version, as the walk reads them -/
def ReadV (W : World) (g o : Nat) (m : MV) : Prop := W.cell? ⟨g, o, none⟩ = some (.int .u64 m.v.ts) ∧ W.cell? ⟨g, o + 1, none⟩ = some (.int .u64 m.v.tx) ∧ W.cell? ⟨g, o + 2, none⟩ = some (.bool m.v.dd) ∧ W.cell? ⟨g, o + 3, none⟩ = some (.slice m.va m.vn m.vc) ∧ W.cell? ⟨g, o + 4, none⟩ = some (.slice m.ka m.kn m.kc)

theorem readV {W : World} {g o : Nat} {m : MV} (h : W.rangeAt g o (layV.cells m)) : ReadV W g o m := rangeV h

theorem at_of {α β : Type} {f : α → β} {l l' : List α} {k : Nat} {x : α} (e : l.map f = l'.map f) (h : l[k]? = some x) : ∃ y, l'[k]? = some y ∧ f x = f y := by
  have h1 : (l'.map f)[k]? = some (f x) := by rw [← e, List.getElem?_map, h]; rfl
  rw [List.getElem?_map] at h1
  obtain ⟨y, hy, e2⟩ := Option.map_eq_some_iff.1 h1
  exact ⟨y, hy, e2.symm⟩

set_option maxHeartbeats 8000000 in
theorem sameC_any (a : Option Addr) (n c : Nat) (ms : List MC) (b : Option Addr) (n' c' : Nat) (ms' : List MC) (w : World) (h : IsY layC w a n c ms) (h' : IsY layC w b n' c' ms') (ho : ∀ m ∈ ms, m.at w) (ho' : ∀ m ∈ ms', m.at w) (e : ms.map MC.c = ms'.map MC.c) :
    Calls Try.prog 10 #[.slice a n c, .slice b n' c'] w fun e w' => e = .returned (.bool true) ∧ Below w.heap.size w w' := by
  have hnn : n' = n := by
    have := congrArg List.length e
    rw [List.length_map, List.length_map, h.1, h'.1] at this
    omega
  subst hnn
  have H := hide h
  have H' := hide h'
  have HO := hide ho
  have HO' := hide ho'
  have HE := hide e
  have hl := h.1
  have hnc := h.2.1
  have hnc' := h'.2.1
  have hcI : (c : Int) ≤ 9223372036854775807 := by have := h.2.2.1; unfold maxLen at this; omega
  have hcI' : (c' : Int) ≤ 9223372036854775807 := by have := h'.2.2.1; unfold maxLen at this; omega
  have Hl := hide hl
  clear h h' ho ho' e hl
  have hform : n' = 0 ∨ ∃ g o g' o', a = some ⟨g, o, none⟩ ∧ b = some ⟨g', o', none⟩ := by
    by_cases h0 : n' = 0
    · exact .inl h0
    · obtain ⟨g, o, e1, _⟩ := H.out.at (j := 0) (by omega)
      obtain ⟨g', o', e2, _⟩ := H'.out.at (j := 0) (by omega)
      exact .inr ⟨g, o, g', o', e1, e2⟩
  rcases hform with h0 | ⟨g, o, g', o', rfl, rfl⟩
  · subst h0
    go_enter Try.func10, Try.ntmps10
    go_wp2
    go_loopg [14] 0 (fun gk ix wr => ix = .int .i64 0 ∧ wr = w)
    case atStart => exact ⟨rfl, rfl⟩
    case round =>
      obtain ⟨rfl, rfl⟩ := hrel
      go_wp2
      go_ret
      exact ⟨rfl, Below.refl _ _⟩
  · go_enter Try.func10, Try.ntmps10
    go_wp2
    go_loopg [14] n' (fun gk ix wr => ∃ k : Nat, gk = n' - k ∧ ix = .int .i64 k ∧ k ≤ n' ∧ Below w.heap.size w wr)
    case atStart => exact ⟨0, rfl, rfl, Nat.zero_le _, Below.refl _ _⟩
    case round =>
      obtain ⟨k, rfl, rfl, hk, hB⟩ := hrel
      have HB := hide hB
      clear hB
      by_cases hlt : k < n'
      · have hltI : (k : Int) < (n' : Int) := by omega
        obtain ⟨m, hm⟩ : ∃ m, ms[k]? = some m := ⟨_, List.getElem?_eq_getElem (by have := Hl.out; omega)⟩
        obtain ⟨m', hm', hmm⟩ := at_of HE.out hm
        have hkey : m.key = m'.key := congrArg Cel.key hmm
        have hvs : m.vs.map MV.v = m'.vs.map MV.v := congrArg Cel.vs hmm
        have hit : m.it.v = m'.it.v := congrArg Cel.it hmm
        have A1 := hide ((HO.out m (List.mem_of_getElem? hm)).keep HB.out)
        have A2 := hide ((HO'.out m' (List.mem_of_getElem? hm')).keep HB.out)
        obtain ⟨g1, o1, e1, hg1, hC1⟩ := H.out.at hlt
        obtain ⟨g2, o2, e2, hg2, hC2⟩ := H'.out.at hlt
        cases e1
        cases e2
        have R1 := hide (fun W (hW : Below wr.heap.size wr W) => show ReadC W g (o + k * 7) m from readC (rangeY_same (rangeY_same (hC1 k m hm) (HB.out.block g hg1)) (hW.block g (Nat.lt_of_lt_of_le hg1 HB.out.size))))
        have R2 := hide (fun W (hW : Below wr.heap.size wr W) => show ReadC W g' (o' + k * 7) m' from readC (rangeY_same (rangeY_same (hC2 k m' hm') (HB.out.block g' hg2)) (hW.block g' (Nat.lt_of_lt_of_le hg2 HB.out.size))))
        have Q1 := hide (fun W (hW : Below wr.heap.size wr W) => (A1.out.key.keep hW).conv)
        have Q2 := hide (fun W (hW : Below wr.heap.size wr W) => (A2.out.key.keep hW).conv)
        have hq := strB_eq m.key m'.key A1.out.key.2.2.2.1 A2.out.key.2.2.2.1
        rw [decide_eq_true hkey] at hq
        have hvn : m'.vn = m.vn := by
          have := congrArg List.length hvs
          rw [List.length_map, List.length_map, A1.out.vs.1, A2.out.vs.1] at this
          omega
        have HSv := hide (fun W (hW : Below wr.heap.size wr W) => sameV_any m.it m'.it W (A1.out.iat.keep hW) (A2.out.iat.keep hW) hit)
        have HVv := hide hvs
        have HK := hide (fun W (hW : Below wr.heap.size wr W) => And.intro (R1.out W hW) (And.intro (R2.out W hW) (And.intro (Q1.out W hW) (Q2.out W hW))))
        clear hC1 hC2 hkey hvs hit hmm hm hm'
        have hvle := A1.out.vs.2.1
        have hvle' := A2.out.vs.2.1
        have hvcI : (m.vc : Int) ≤ 9223372036854775807 := by have := A1.out.vs.2.2.1; unfold maxLen at this; omega
        have hvcI' : (m'.vc : Int) ≤ 9223372036854775807 := by have := A2.out.vs.2.2.1; unfold maxLen at this; omega
        go_upto_region 6 with fail
        go_cut [58] (fun s58 wx => s58 = .bool false ∧ Below wr.heap.size wr wx)
        case first =>
          refine startT (by kernel_rfl) ?_
          refine' takeT (i := 0) (v := _) rfl (by kernel_rfl) (by kernel_rfl) (by kernel_rfl) (fun _ _ _ h => h) (by rfl) (Below.refl _ _) ?_ ?_; rotate_left
          · (intro W hSw; obtain ⟨⟨x0, x1, x2, x3, x4, x5, x6⟩, ⟨y0, y1, y2, y3, y4, y5, y6⟩, q1, q2⟩ := HK.out W (bel_undG hSw); go_simp; all_goals (with_reducible rfl))
          (try simp only [Act.put, List.setIfInBounds_toArray, List.set_cons_zero, List.set_cons_succ])
          refine' takeT (i := 1) (v := _) rfl (by kernel_rfl) (by kernel_rfl) (by kernel_rfl) (fun _ _ _ h => h) (by rfl) (Below.refl _ _) ?_ ?_; rotate_left
          · (intro W hSw; obtain ⟨⟨x0, x1, x2, x3, x4, x5, x6⟩, ⟨y0, y1, y2, y3, y4, y5, y6⟩, q1, q2⟩ := HK.out W (bel_undG hSw); go_simp; all_goals (with_reducible rfl))
          (try simp only [Act.put, List.setIfInBounds_toArray, List.set_cons_zero, List.set_cons_succ])
          refine' takeT (i := 2) (v := _) rfl (by kernel_rfl) (by kernel_rfl) (by kernel_rfl) (fun _ _ _ h => h) (by rfl) (Below.refl _ _) ?_ ?_; rotate_left
          · (intro W hSw; obtain ⟨⟨x0, x1, x2, x3, x4, x5, x6⟩, ⟨y0, y1, y2, y3, y4, y5, y6⟩, q1, q2⟩ := HK.out W (bel_undG hSw); go_simp; all_goals (with_reducible rfl))
          (try simp only [Act.put, List.setIfInBounds_toArray, List.set_cons_zero, List.set_cons_succ])
          refine' takeT (i := 3) (v := _) rfl (by kernel_rfl) (by kernel_rfl) (by kernel_rfl) (fun _ _ _ h => h) (by rfl) (Below.refl _ _) ?_ ?_; rotate_left
          · (intro W hSw; obtain ⟨⟨x0, x1, x2, x3, x4, x5, x6⟩, ⟨y0, y1, y2, y3, y4, y5, y6⟩, q1, q2⟩ := HK.out W (bel_undG hSw); go_simp; all_goals (with_reducible rfl))
          (try simp only [Act.put, List.setIfInBounds_toArray, List.set_cons_zero, List.set_cons_succ])
          refine' takeT (i := 4) (v := _) rfl (by kernel_rfl) (by kernel_rfl) (by kernel_rfl) (fun _ _ _ h => h) (by rfl) (Below.refl _ _) ?_ ?_; rotate_left
          · (intro W hSw; obtain ⟨⟨x0, x1, x2, x3, x4, x5, x6⟩, ⟨y0, y1, y2, y3, y4, y5, y6⟩, q1, q2⟩ := HK.out W (bel_undG hSw); go_simp; all_goals (with_reducible rfl))
          (try simp only [Act.put, List.setIfInBounds_toArray, List.set_cons_zero, List.set_cons_succ])
          refine' takeT (i := 5) (v := _) rfl (by kernel_rfl) (by kernel_rfl) (by kernel_rfl) (fun _ _ _ h => h) (by rfl) (Below.refl _ _) ?_ ?_; rotate_left
          · (intro W hSw; obtain ⟨⟨x0, x1, x2, x3, x4, x5, x6⟩, ⟨y0, y1, y2, y3, y4, y5, y6⟩, q1, q2⟩ := HK.out W (bel_undG hSw); go_simp; all_goals (with_reducible rfl))
          (try simp only [Act.put, List.setIfInBounds_toArray, List.set_cons_zero, List.set_cons_succ])
          refine' takeT (i := 6) (v := _) rfl (by kernel_rfl) (by kernel_rfl) (by kernel_rfl) (fun _ _ _ h => h) (by rfl) (Below.refl _ _) ?_ ?_; rotate_left
          · (intro W hSw; obtain ⟨⟨x0, x1, x2, x3, x4, x5, x6⟩, ⟨y0, y1, y2, y3, y4, y5, y6⟩, q1, q2⟩ := HK.out W (bel_undG hSw); go_simp; all_goals (with_reducible rfl))
          (try simp only [Act.put, List.setIfInBounds_toArray, List.set_cons_zero, List.set_cons_succ])
          refine' takeT (i := 7) (v := _) rfl (by kernel_rfl) (by kernel_rfl) (by kernel_rfl) (fun _ _ _ h => h) (by rfl) (Below.refl _ _) ?_ ?_; rotate_left
          · (intro W hSw; obtain ⟨⟨x0, x1, x2, x3, x4, x5, x6⟩, ⟨y0, y1, y2, y3, y4, y5, y6⟩, q1, q2⟩ := HK.out W (bel_undG hSw); go_simp; all_goals (with_reducible rfl))
          (try simp only [Act.put, List.setIfInBounds_toArray, List.set_cons_zero, List.set_cons_succ])
          refine' takeT (i := 8) (v := _) rfl (by kernel_rfl) (by kernel_rfl) (by kernel_rfl) (fun _ _ _ h => h) (by rfl) (Below.refl _ _) ?_ ?_; rotate_left
          · (intro W hSw; obtain ⟨⟨x0, x1, x2, x3, x4, x5, x6⟩, ⟨y0, y1, y2, y3, y4, y5, y6⟩, q1, q2⟩ := HK.out W (bel_undG hSw); go_simp; all_goals (with_reducible rfl))
          (try simp only [Act.put, List.setIfInBounds_toArray, List.set_cons_zero, List.set_cons_succ])
          refine' takeT (i := 9) (v := _) rfl (by kernel_rfl) (by kernel_rfl) (by kernel_rfl) (fun _ _ _ h => h) (by rfl) (Below.refl _ _) ?_ ?_; rotate_left
          · (intro W hSw; obtain ⟨⟨x0, x1, x2, x3, x4, x5, x6⟩, ⟨y0, y1, y2, y3, y4, y5, y6⟩, q1, q2⟩ := HK.out W (bel_undG hSw); go_simp; all_goals (with_reducible rfl))
          (try simp only [Act.put, List.setIfInBounds_toArray, List.set_cons_zero, List.set_cons_succ])
          refine' takeT (i := 10) (v := _) rfl (by kernel_rfl) (by kernel_rfl) (by kernel_rfl) (fun _ _ _ h => h) (by rfl) (Below.refl _ _) ?_ ?_; rotate_left
          · (intro W hSw; obtain ⟨⟨x0, x1, x2, x3, x4, x5, x6⟩, ⟨y0, y1, y2, y3, y4, y5, y6⟩, q1, q2⟩ := HK.out W (bel_undG hSw); go_simp; all_goals (with_reducible rfl))
          (try simp only [Act.put, List.setIfInBounds_toArray, List.set_cons_zero, List.set_cons_succ])
          refine' takeT (i := 11) (v := _) rfl (by kernel_rfl) (by kernel_rfl) (by kernel_rfl) (fun _ _ _ h => h) (by rfl) (Below.refl _ _) ?_ ?_; rotate_left
          · (intro W hSw; obtain ⟨⟨x0, x1, x2, x3, x4, x5, x6⟩, ⟨y0, y1, y2, y3, y4, y5, y6⟩, q1, q2⟩ := HK.out W (bel_undG hSw); go_simp; all_goals (with_reducible rfl))
          (try simp only [Act.put, List.setIfInBounds_toArray, List.set_cons_zero, List.set_cons_succ])
          refine' takeT (i := 12) (v := _) rfl (by kernel_rfl) (by kernel_rfl) (by kernel_rfl) (fun _ _ _ h => h) (by rfl) (Below.refl _ _) ?_ ?_; rotate_left
          · (intro W hSw; obtain ⟨⟨x0, x1, x2, x3, x4, x5, x6⟩, ⟨y0, y1, y2, y3, y4, y5, y6⟩, q1, q2⟩ := HK.out W (bel_undG hSw); go_simp; all_goals (with_reducible rfl))
          (try simp only [Act.put, List.setIfInBounds_toArray, List.set_cons_zero, List.set_cons_succ])
          refine' takeT (i := 13) (v := _) rfl (by kernel_rfl) (by kernel_rfl) (by kernel_rfl) (fun _ _ _ h => h) (by rfl) (Below.refl _ _) ?_ ?_; rotate_left
          · (intro W hSw; obtain ⟨⟨x0, x1, x2, x3, x4, x5, x6⟩, ⟨y0, y1, y2, y3, y4, y5, y6⟩, q1, q2⟩ := HK.out W (bel_undG hSw); go_simp; all_goals (with_reducible rfl))
          (try simp only [Act.put, List.setIfInBounds_toArray, List.set_cons_zero, List.set_cons_succ])
          refine' takeT (i := 14) (v := _) rfl (by kernel_rfl) (by kernel_rfl) (by kernel_rfl) (fun _ _ _ h => h) (by rfl) (Below.refl _ _) ?_ ?_; rotate_left
          · (intro W hSw; obtain ⟨⟨x0, x1, x2, x3, x4, x5, x6⟩, ⟨y0, y1, y2, y3, y4, y5, y6⟩, q1, q2⟩ := HK.out W (bel_undG hSw); go_simp; all_goals (with_reducible rfl))
          (try simp only [Act.put, List.setIfInBounds_toArray, List.set_cons_zero, List.set_cons_succ])
          refine' takeT (i := 15) (v := _) rfl (by kernel_rfl) (by kernel_rfl) (by kernel_rfl) (fun _ _ _ h => h) (by rfl) (Below.refl _ _) ?_ ?_; rotate_left
          · (intro W hSw; obtain ⟨⟨x0, x1, x2, x3, x4, x5, x6⟩, ⟨y0, y1, y2, y3, y4, y5, y6⟩, q1, q2⟩ := HK.out W (bel_undG hSw); go_simp; all_goals (with_reducible rfl))
          (try simp only [Act.put, List.setIfInBounds_toArray, List.set_cons_zero, List.set_cons_succ])
          refine' takeT (i := 16) (v := _) rfl (by kernel_rfl) (by kernel_rfl) (by kernel_rfl) (fun _ _ _ h => h) (by rfl) (Below.refl _ _) ?_ ?_; rotate_left
          · (intro W hSw; obtain ⟨⟨x0, x1, x2, x3, x4, x5, x6⟩, ⟨y0, y1, y2, y3, y4, y5, y6⟩, q1, q2⟩ := HK.out W (bel_undG hSw); go_simp; all_goals (with_reducible rfl))
          (try simp only [Act.put, List.setIfInBounds_toArray, List.set_cons_zero, List.set_cons_succ])
          refine' takeT (i := 17) (v := _) rfl (by kernel_rfl) (by kernel_rfl) (by kernel_rfl) (fun _ _ _ h => h) (by rfl) (Below.refl _ _) ?_ ?_; rotate_left
          · (intro W hSw; obtain ⟨⟨x0, x1, x2, x3, x4, x5, x6⟩, ⟨y0, y1, y2, y3, y4, y5, y6⟩, q1, q2⟩ := HK.out W (bel_undG hSw); go_simp; all_goals (with_reducible rfl))
          (try simp only [Act.put, List.setIfInBounds_toArray, List.set_cons_zero, List.set_cons_succ])
          refine' takeT (i := 18) (v := _) rfl (by kernel_rfl) (by kernel_rfl) (by kernel_rfl) (fun _ _ _ h => h) (by rfl) (Below.refl _ _) ?_ ?_; rotate_left
          · (intro W hSw; obtain ⟨⟨x0, x1, x2, x3, x4, x5, x6⟩, ⟨y0, y1, y2, y3, y4, y5, y6⟩, q1, q2⟩ := HK.out W (bel_undG hSw); go_simp; all_goals (with_reducible rfl))
          (try simp only [Act.put, List.setIfInBounds_toArray, List.set_cons_zero, List.set_cons_succ])
          refine' takeT (i := 19) (v := _) rfl (by kernel_rfl) (by kernel_rfl) (by kernel_rfl) (fun _ _ _ h => h) (by rfl) (Below.refl _ _) ?_ ?_; rotate_left
          · (intro W hSw; obtain ⟨⟨x0, x1, x2, x3, x4, x5, x6⟩, ⟨y0, y1, y2, y3, y4, y5, y6⟩, q1, q2⟩ := HK.out W (bel_undG hSw); go_simp; all_goals (with_reducible rfl))
          (try simp only [Act.put, List.setIfInBounds_toArray, List.set_cons_zero, List.set_cons_succ])
          refine' takeT (i := 20) (v := _) rfl (by kernel_rfl) (by kernel_rfl) (by kernel_rfl) (fun _ _ _ h => h) (by rfl) (Below.refl _ _) ?_ ?_; rotate_left
          · (intro W hSw; obtain ⟨⟨x0, x1, x2, x3, x4, x5, x6⟩, ⟨y0, y1, y2, y3, y4, y5, y6⟩, q1, q2⟩ := HK.out W (bel_undG hSw); go_simp; all_goals (with_reducible rfl))
          (try simp only [Act.put, List.setIfInBounds_toArray, List.set_cons_zero, List.set_cons_succ])
          refine' takeT (i := 21) (v := _) rfl (by kernel_rfl) (by kernel_rfl) (by kernel_rfl) (fun _ _ _ h => h) (by rfl) (Below.refl _ _) ?_ ?_; rotate_left
          · (intro W hSw; obtain ⟨⟨x0, x1, x2, x3, x4, x5, x6⟩, ⟨y0, y1, y2, y3, y4, y5, y6⟩, q1, q2⟩ := HK.out W (bel_undG hSw); go_simp; all_goals (with_reducible rfl))
          (try simp only [Act.put, List.setIfInBounds_toArray, List.set_cons_zero, List.set_cons_succ])
          refine' takeT (i := 22) (v := _) rfl (by kernel_rfl) (by kernel_rfl) (by kernel_rfl) (fun _ _ _ h => h) (by rfl) (Below.refl _ _) ?_ ?_; rotate_left
          · (intro W hSw; obtain ⟨⟨x0, x1, x2, x3, x4, x5, x6⟩, ⟨y0, y1, y2, y3, y4, y5, y6⟩, q1, q2⟩ := HK.out W (bel_undG hSw); go_simp; all_goals (with_reducible rfl))
          (try simp only [Act.put, List.setIfInBounds_toArray, List.set_cons_zero, List.set_cons_succ])
          refine' takeT (i := 23) (v := _) rfl (by kernel_rfl) (by kernel_rfl) (by kernel_rfl) (fun _ _ _ h => h) (by rfl) (Below.refl _ _) ?_ ?_; rotate_left
          · (intro W hSw; obtain ⟨⟨x0, x1, x2, x3, x4, x5, x6⟩, ⟨y0, y1, y2, y3, y4, y5, y6⟩, q1, q2⟩ := HK.out W (bel_undG hSw); go_simp; all_goals (with_reducible rfl))
          (try simp only [Act.put, List.setIfInBounds_toArray, List.set_cons_zero, List.set_cons_succ])
          refine callT (i := 24) rfl (by kernel_rfl) (fun K hK => ?_)
          go_simp
          refine (HSv.out _ (Below.refl _ wr).drew).mono ?_
          rintro e w2 ⟨rfl, hb2⟩
          have HB2 := hide (bel_undG hb2)
          refine hK.out _ _ hb2 ?_
          clear hK K hb2
          (try simp only [Act.put, List.setIfInBounds_toArray, List.set_cons_zero, List.set_cons_succ])
          refine' takeT (i := 25) (v := _) rfl (by kernel_rfl) (by kernel_rfl) (by kernel_rfl) (fun _ _ _ h => h) (by rfl) (Below.refl _ _) ?_ ?_; rotate_left
          · (intro W hSw; obtain ⟨⟨x0, x1, x2, x3, x4, x5, x6⟩, ⟨y0, y1, y2, y3, y4, y5, y6⟩, q1, q2⟩ := HK.out W (HB2.out.trans (hSw.mono HB2.out.size)); go_simp; all_goals (with_reducible rfl))
          (try simp only [Act.put, List.setIfInBounds_toArray, List.set_cons_zero, List.set_cons_succ])
          refine' takeT (i := 26) (v := _) rfl (by kernel_rfl) (by kernel_rfl) (by kernel_rfl) (fun _ _ _ h => h) (by rfl) (Below.refl _ _) ?_ ?_; rotate_left
          · (intro W hSw; obtain ⟨⟨x0, x1, x2, x3, x4, x5, x6⟩, ⟨y0, y1, y2, y3, y4, y5, y6⟩, q1, q2⟩ := HK.out W (HB2.out.trans (hSw.mono HB2.out.size)); go_simp; all_goals (with_reducible rfl))
          (try simp only [Act.put, List.setIfInBounds_toArray, List.set_cons_zero, List.set_cons_succ])
          refine' takeT (i := 27) (v := _) rfl (by kernel_rfl) (by kernel_rfl) (by kernel_rfl) (fun _ _ _ h => h) (by rfl) (Below.refl _ _) ?_ ?_; rotate_left
          · (intro W hSw; obtain ⟨⟨x0, x1, x2, x3, x4, x5, x6⟩, ⟨y0, y1, y2, y3, y4, y5, y6⟩, q1, q2⟩ := HK.out W (HB2.out.trans (hSw.mono HB2.out.size)); go_simp; all_goals (with_reducible rfl))
          (try simp only [Act.put, List.setIfInBounds_toArray, List.set_cons_zero, List.set_cons_succ])
          refine' takeT (i := 28) (v := _) rfl (by kernel_rfl) (by kernel_rfl) (by kernel_rfl) (fun _ _ _ h => h) (by rfl) (Below.refl _ _) ?_ ?_; rotate_left
          · (intro W hSw; obtain ⟨⟨x0, x1, x2, x3, x4, x5, x6⟩, ⟨y0, y1, y2, y3, y4, y5, y6⟩, q1, q2⟩ := HK.out W (HB2.out.trans (hSw.mono HB2.out.size)); go_simp; all_goals (with_reducible rfl))
          (try simp only [Act.put, List.setIfInBounds_toArray, List.set_cons_zero, List.set_cons_succ])
          refine' takeT (i := 29) (v := _) rfl (by kernel_rfl) (by kernel_rfl) (by kernel_rfl) (fun _ _ _ h => h) (by rfl) (Below.refl _ _) ?_ ?_; rotate_left
          · (intro W hSw; obtain ⟨⟨x0, x1, x2, x3, x4, x5, x6⟩, ⟨y0, y1, y2, y3, y4, y5, y6⟩, q1, q2⟩ := HK.out W (HB2.out.trans (hSw.mono HB2.out.size)); go_simp; all_goals (with_reducible rfl))
          (try simp only [Act.put, List.setIfInBounds_toArray, List.set_cons_zero, List.set_cons_succ])
          refine' takeT (i := 30) (v := _) rfl (by kernel_rfl) (by kernel_rfl) (by kernel_rfl) (fun _ _ _ h => h) (by rfl) (Below.refl _ _) ?_ ?_; rotate_left
          · (intro W hSw; obtain ⟨⟨x0, x1, x2, x3, x4, x5, x6⟩, ⟨y0, y1, y2, y3, y4, y5, y6⟩, q1, q2⟩ := HK.out W (HB2.out.trans (hSw.mono HB2.out.size)); go_simp; all_goals (with_reducible rfl))
          (try simp only [Act.put, List.setIfInBounds_toArray, List.set_cons_zero, List.set_cons_succ])
          refine' takeT (i := 31) (v := _) rfl (by kernel_rfl) (by kernel_rfl) (by kernel_rfl) (fun _ _ _ h => h) (by rfl) (Below.refl _ _) ?_ ?_; rotate_left
          · (intro W hSw; obtain ⟨⟨x0, x1, x2, x3, x4, x5, x6⟩, ⟨y0, y1, y2, y3, y4, y5, y6⟩, q1, q2⟩ := HK.out W (HB2.out.trans (hSw.mono HB2.out.size)); go_simp; all_goals (with_reducible rfl))
          (try simp only [Act.put, List.setIfInBounds_toArray, List.set_cons_zero, List.set_cons_succ])
          refine' takeT (i := 32) (v := _) rfl (by kernel_rfl) (by kernel_rfl) (by kernel_rfl) (fun _ _ _ h => h) (by rfl) (Below.refl _ _) ?_ ?_; rotate_left
          · (intro W hSw; obtain ⟨⟨x0, x1, x2, x3, x4, x5, x6⟩, ⟨y0, y1, y2, y3, y4, y5, y6⟩, q1, q2⟩ := HK.out W (HB2.out.trans (hSw.mono HB2.out.size)); go_simp; all_goals (with_reducible rfl))
          (try simp only [Act.put, List.setIfInBounds_toArray, List.set_cons_zero, List.set_cons_succ])
          refine' takeT (i := 33) (v := _) rfl (by kernel_rfl) (by kernel_rfl) (by kernel_rfl) (fun _ _ _ h => h) (by rfl) (Below.refl _ _) ?_ ?_; rotate_left
          · (intro W hSw; obtain ⟨⟨x0, x1, x2, x3, x4, x5, x6⟩, ⟨y0, y1, y2, y3, y4, y5, y6⟩, q1, q2⟩ := HK.out W (HB2.out.trans (hSw.mono HB2.out.size)); go_simp; all_goals (with_reducible rfl))
          (try simp only [Act.put, List.setIfInBounds_toArray, List.set_cons_zero, List.set_cons_succ])
          refine' takeT (i := 34) (v := _) rfl (by kernel_rfl) (by kernel_rfl) (by kernel_rfl) (fun _ _ _ h => h) (by rfl) (Below.refl _ _) ?_ ?_; rotate_left
          · (intro W hSw; obtain ⟨⟨x0, x1, x2, x3, x4, x5, x6⟩, ⟨y0, y1, y2, y3, y4, y5, y6⟩, q1, q2⟩ := HK.out W (HB2.out.trans (hSw.mono HB2.out.size)); go_simp; all_goals (with_reducible rfl))
          (try simp only [Act.put, List.setIfInBounds_toArray, List.set_cons_zero, List.set_cons_succ])
          refine' takeT (i := 35) (v := _) rfl (by kernel_rfl) (by kernel_rfl) (by kernel_rfl) (fun _ _ _ h => h) (by rfl) (Below.refl _ _) ?_ ?_; rotate_left
          · (intro W hSw; obtain ⟨⟨x0, x1, x2, x3, x4, x5, x6⟩, ⟨y0, y1, y2, y3, y4, y5, y6⟩, q1, q2⟩ := HK.out W (HB2.out.trans (hSw.mono HB2.out.size)); go_simp; all_goals (with_reducible rfl))
          (try simp only [Act.put, List.setIfInBounds_toArray, List.set_cons_zero, List.set_cons_succ])
          refine' takeT (i := 36) (v := _) rfl (by kernel_rfl) (by kernel_rfl) (by kernel_rfl) (fun _ _ _ h => h) (by rfl) (Below.refl _ _) ?_ ?_; rotate_left
          · (intro W hSw; obtain ⟨⟨x0, x1, x2, x3, x4, x5, x6⟩, ⟨y0, y1, y2, y3, y4, y5, y6⟩, q1, q2⟩ := HK.out W (HB2.out.trans (hSw.mono HB2.out.size)); go_simp; all_goals (with_reducible rfl))
          (try simp only [Act.put, List.setIfInBounds_toArray, List.set_cons_zero, List.set_cons_succ])
          refine' takeT (i := 37) (v := _) rfl (by kernel_rfl) (by kernel_rfl) (by kernel_rfl) (fun _ _ _ h => h) (by rfl) (Below.refl _ _) ?_ ?_; rotate_left
          · (intro W hSw; obtain ⟨⟨x0, x1, x2, x3, x4, x5, x6⟩, ⟨y0, y1, y2, y3, y4, y5, y6⟩, q1, q2⟩ := HK.out W (HB2.out.trans (hSw.mono HB2.out.size)); go_simp; all_goals (with_reducible rfl))
          (try simp only [Act.put, List.setIfInBounds_toArray, List.set_cons_zero, List.set_cons_succ])
          refine' takeT (i := 38) (v := _) rfl (by kernel_rfl) (by kernel_rfl) (by kernel_rfl) (fun _ _ _ h => h) (by rfl) (Below.refl _ _) ?_ ?_; rotate_left
          · (intro W hSw; obtain ⟨⟨x0, x1, x2, x3, x4, x5, x6⟩, ⟨y0, y1, y2, y3, y4, y5, y6⟩, q1, q2⟩ := HK.out W (HB2.out.trans (hSw.mono HB2.out.size)); go_simp; all_goals (with_reducible rfl))
          (try simp only [Act.put, List.setIfInBounds_toArray, List.set_cons_zero, List.set_cons_succ])
          refine' takeT (i := 39) (v := _) rfl (by kernel_rfl) (by kernel_rfl) (by kernel_rfl) (fun _ _ _ h => h) (by rfl) (Below.refl _ _) ?_ ?_; rotate_left
          · (intro W hSw; obtain ⟨⟨x0, x1, x2, x3, x4, x5, x6⟩, ⟨y0, y1, y2, y3, y4, y5, y6⟩, q1, q2⟩ := HK.out W (HB2.out.trans (hSw.mono HB2.out.size)); go_simp; all_goals (with_reducible rfl))
          (try simp only [Act.put, List.setIfInBounds_toArray, List.set_cons_zero, List.set_cons_succ])
          refine' takeT (i := 40) (v := _) rfl (by kernel_rfl) (by kernel_rfl) (by kernel_rfl) (fun _ _ _ h => h) (by rfl) (Below.refl _ _) ?_ ?_; rotate_left
          · (intro W hSw; obtain ⟨⟨x0, x1, x2, x3, x4, x5, x6⟩, ⟨y0, y1, y2, y3, y4, y5, y6⟩, q1, q2⟩ := HK.out W (HB2.out.trans (hSw.mono HB2.out.size)); go_simp; all_goals (with_reducible rfl))
          (try simp only [Act.put, List.setIfInBounds_toArray, List.set_cons_zero, List.set_cons_succ])
          refine' takeT (i := 41) (v := _) rfl (by kernel_rfl) (by kernel_rfl) (by kernel_rfl) (fun _ _ _ h => h) (by rfl) (Below.refl _ _) ?_ ?_; rotate_left
          · (intro W hSw; obtain ⟨⟨x0, x1, x2, x3, x4, x5, x6⟩, ⟨y0, y1, y2, y3, y4, y5, y6⟩, q1, q2⟩ := HK.out W (HB2.out.trans (hSw.mono HB2.out.size)); go_simp; all_goals (with_reducible rfl))
          (try simp only [Act.put, List.setIfInBounds_toArray, List.set_cons_zero, List.set_cons_succ])
          refine wpAnyH_done (by kernel_rfl) ?_ _
          go_wp2_with fail
          go_meet
          exact ⟨rfl, HB2.out⟩
        case rest =>
          obtain ⟨rfl, hBc⟩ := hcut
          have HBc := hide hBc
          obtain ⟨⟨x0, x1, x2, x3, x4, x5, x6⟩, ⟨y0, y1, y2, y3, y4, y5, y6⟩, -⟩ := HK.out wc hBc
          clear hBc
          have hsc := HBc.out.size
          have hform2 : m.vn = 0 ∨ ∃ p1 s1 p2 s2, m.va = some ⟨p1, s1, none⟩ ∧ m'.va = some ⟨p2, s2, none⟩ := by
            by_cases h0 : m.vn = 0
            · exact .inl h0
            · obtain ⟨p1, s1, e1, _⟩ := A1.out.vs.at (j := 0) (by omega)
              obtain ⟨p2, s2, e2, _⟩ := A2.out.vs.at (j := 0) (by omega)
              exact .inr ⟨p1, s1, p2, s2, e1, e2⟩
          have HF2 := hide hform2
          clear hform2
          go_wp2
          go_loopg [65] m.vn (fun gk ix wx => ∃ j : Nat, gk = m.vn - j ∧ ix = .int .i64 j ∧ j ≤ m.vn ∧ Below wc.heap.size wc wx)
          case atStart => exact ⟨0, rfl, rfl, Nat.zero_le _, Below.refl _ _⟩
          case round =>
            obtain ⟨j, rfl, rfl, hj, hBj⟩ := hrel
            have HBj := hide hBj
            have HBk := hide (HBc.out.trans (hBj.mono hsc))
            clear hBj
            by_cases hjl : j < m.vn
            · have hjI : (j : Int) < (m.vn : Int) := by omega
              obtain ⟨x, hx⟩ : ∃ x, m.vs[j]? = some x := ⟨_, List.getElem?_eq_getElem (by rw [A1.out.vs.1]; exact hjl)⟩
              obtain ⟨x', hx', hxx⟩ := at_of HVv.out hx
              obtain ⟨p1, s1, hv1, hp1, hD1⟩ := A1.out.vs.at hjl
              obtain ⟨p2, s2, hv2, hp2, hD2⟩ := A2.out.vs.at (show j < m'.vn by omega)
              have T1 := hide (fun W (hW : Below wr.heap.size wr W) => show ReadV W p1 (s1 + j * 5) x from readV (rangeY_same (rangeY_same (hD1 j x hx) (HBk.out.block p1 hp1)) (hW.block p1 (Nat.lt_of_lt_of_le hp1 HBk.out.size))))
              have T2 := hide (fun W (hW : Below wr.heap.size wr W) => show ReadV W p2 (s2 + j * 5) x' from readV (rangeY_same (rangeY_same (hD2 j x' hx') (HBk.out.block p2 hp2)) (hW.block p2 (Nat.lt_of_lt_of_le hp2 HBk.out.size))))
              have V1 := hide (fun W (hW : Below wr.heap.size wr W) => HK.out W (HBk.out.trans (hW.mono HBk.out.size)))
              have HSx := hide (fun W (hW : Below wr.heap.size wr W) => sameV_any x x' W ((A1.out.vat x (List.mem_of_getElem? hx)).keep (HBk.out.trans (hW.mono HBk.out.size))) ((A2.out.vat x' (List.mem_of_getElem? hx')).keep (HBk.out.trans (hW.mono HBk.out.size))) hxx)
              have HV := hide (fun W (hW : Below wr.heap.size wr W) => And.intro (V1.out W hW) (And.intro (T1.out W hW) (T2.out W hW)))
              have HV1 := hide hv1
              have HV2 := hide hv2
              clear hv1 hv2 hD1 hD2 hx hx' hxx x0 x1 x2 x3 x4 x5 x6 y0 y1 y2 y3 y4 y5 y6
              go_upto_region 11 with fail
              go_cut [85] (fun s85 wx => s85 = .bool false ∧ Below wr.heap.size wr wx)
              case first =>
                refine startT (by kernel_rfl) ?_
                refine' takeT (i := 0) (v := _) rfl (by kernel_rfl) (by kernel_rfl) (by kernel_rfl) (fun _ _ _ h => h) (by rfl) (Below.refl _ _) ?_ ?_; rotate_left
                · (intro W hSw; obtain ⟨⟨⟨x0, x1, x2, x3, x4, x5, x6⟩, ⟨y0, y1, y2, y3, y4, y5, y6⟩, -⟩, ⟨z0, z1, z2, z3, z4⟩, ⟨u0, u1, u2, u3, u4⟩⟩ := HV.out W (bel_undG hSw); rw [HV1.out] at x1; rw [HV2.out] at y1; go_simp; all_goals (with_reducible rfl))
                (try simp only [Act.put, List.setIfInBounds_toArray, List.set_cons_zero, List.set_cons_succ])
                refine' takeT (i := 1) (v := _) rfl (by kernel_rfl) (by kernel_rfl) (by kernel_rfl) (fun _ _ _ h => h) (by rfl) (Below.refl _ _) ?_ ?_; rotate_left
                · (intro W hSw; obtain ⟨⟨⟨x0, x1, x2, x3, x4, x5, x6⟩, ⟨y0, y1, y2, y3, y4, y5, y6⟩, -⟩, ⟨z0, z1, z2, z3, z4⟩, ⟨u0, u1, u2, u3, u4⟩⟩ := HV.out W (bel_undG hSw); rw [HV1.out] at x1; rw [HV2.out] at y1; go_simp; all_goals (with_reducible rfl))
                (try simp only [Act.put, List.setIfInBounds_toArray, List.set_cons_zero, List.set_cons_succ])
                refine' takeT (i := 2) (v := _) rfl (by kernel_rfl) (by kernel_rfl) (by kernel_rfl) (fun _ _ _ h => h) (by rfl) (Below.refl _ _) ?_ ?_; rotate_left
                · (intro W hSw; obtain ⟨⟨⟨x0, x1, x2, x3, x4, x5, x6⟩, ⟨y0, y1, y2, y3, y4, y5, y6⟩, -⟩, ⟨z0, z1, z2, z3, z4⟩, ⟨u0, u1, u2, u3, u4⟩⟩ := HV.out W (bel_undG hSw); rw [HV1.out] at x1; rw [HV2.out] at y1; go_simp; all_goals (with_reducible rfl))
                (try simp only [Act.put, List.setIfInBounds_toArray, List.set_cons_zero, List.set_cons_succ])
                refine' takeT (i := 3) (v := _) rfl (by kernel_rfl) (by kernel_rfl) (by kernel_rfl) (fun _ _ _ h => h) (by rfl) (Below.refl _ _) ?_ ?_; rotate_left
                · (intro W hSw; obtain ⟨⟨⟨x0, x1, x2, x3, x4, x5, x6⟩, ⟨y0, y1, y2, y3, y4, y5, y6⟩, -⟩, ⟨z0, z1, z2, z3, z4⟩, ⟨u0, u1, u2, u3, u4⟩⟩ := HV.out W (bel_undG hSw); rw [HV1.out] at x1; rw [HV2.out] at y1; go_simp; all_goals (with_reducible rfl))
                (try simp only [Act.put, List.setIfInBounds_toArray, List.set_cons_zero, List.set_cons_succ])
                refine' takeT (i := 4) (v := _) rfl (by kernel_rfl) (by kernel_rfl) (by kernel_rfl) (fun _ _ _ h => h) (by rfl) (Below.refl _ _) ?_ ?_; rotate_left
                · (intro W hSw; obtain ⟨⟨⟨x0, x1, x2, x3, x4, x5, x6⟩, ⟨y0, y1, y2, y3, y4, y5, y6⟩, -⟩, ⟨z0, z1, z2, z3, z4⟩, ⟨u0, u1, u2, u3, u4⟩⟩ := HV.out W (bel_undG hSw); rw [HV1.out] at x1; rw [HV2.out] at y1; go_simp; all_goals (with_reducible rfl))
                (try simp only [Act.put, List.setIfInBounds_toArray, List.set_cons_zero, List.set_cons_succ])
                refine' takeT (i := 5) (v := _) rfl (by kernel_rfl) (by kernel_rfl) (by kernel_rfl) (fun _ _ _ h => h) (by rfl) (Below.refl _ _) ?_ ?_; rotate_left
                · (intro W hSw; obtain ⟨⟨⟨x0, x1, x2, x3, x4, x5, x6⟩, ⟨y0, y1, y2, y3, y4, y5, y6⟩, -⟩, ⟨z0, z1, z2, z3, z4⟩, ⟨u0, u1, u2, u3, u4⟩⟩ := HV.out W (bel_undG hSw); rw [HV1.out] at x1; rw [HV2.out] at y1; go_simp; all_goals (with_reducible rfl))
                (try simp only [Act.put, List.setIfInBounds_toArray, List.set_cons_zero, List.set_cons_succ])
                refine' takeT (i := 6) (v := _) rfl (by kernel_rfl) (by kernel_rfl) (by kernel_rfl) (fun _ _ _ h => h) (by rfl) (Below.refl _ _) ?_ ?_; rotate_left
                · (intro W hSw; obtain ⟨⟨⟨x0, x1, x2, x3, x4, x5, x6⟩, ⟨y0, y1, y2, y3, y4, y5, y6⟩, -⟩, ⟨z0, z1, z2, z3, z4⟩, ⟨u0, u1, u2, u3, u4⟩⟩ := HV.out W (bel_undG hSw); rw [HV1.out] at x1; rw [HV2.out] at y1; go_simp; all_goals (with_reducible rfl))
                (try simp only [Act.put, List.setIfInBounds_toArray, List.set_cons_zero, List.set_cons_succ])
                refine' takeT (i := 7) (v := _) rfl (by kernel_rfl) (by kernel_rfl) (by kernel_rfl) (fun _ _ _ h => h) (by rfl) (Below.refl _ _) ?_ ?_; rotate_left
                · (intro W hSw; obtain ⟨⟨⟨x0, x1, x2, x3, x4, x5, x6⟩, ⟨y0, y1, y2, y3, y4, y5, y6⟩, -⟩, ⟨z0, z1, z2, z3, z4⟩, ⟨u0, u1, u2, u3, u4⟩⟩ := HV.out W (bel_undG hSw); rw [HV1.out] at x1; rw [HV2.out] at y1; go_simp; all_goals (with_reducible rfl))
                (try simp only [Act.put, List.setIfInBounds_toArray, List.set_cons_zero, List.set_cons_succ])
                refine' takeT (i := 8) (v := _) rfl (by kernel_rfl) (by kernel_rfl) (by kernel_rfl) (fun _ _ _ h => h) (by rfl) (Below.refl _ _) ?_ ?_; rotate_left
                · (intro W hSw; obtain ⟨⟨⟨x0, x1, x2, x3, x4, x5, x6⟩, ⟨y0, y1, y2, y3, y4, y5, y6⟩, -⟩, ⟨z0, z1, z2, z3, z4⟩, ⟨u0, u1, u2, u3, u4⟩⟩ := HV.out W (bel_undG hSw); rw [HV1.out] at x1; rw [HV2.out] at y1; go_simp; all_goals (with_reducible rfl))
                (try simp only [Act.put, List.setIfInBounds_toArray, List.set_cons_zero, List.set_cons_succ])
                refine' takeT (i := 9) (v := _) rfl (by kernel_rfl) (by kernel_rfl) (by kernel_rfl) (fun _ _ _ h => h) (by rfl) (Below.refl _ _) ?_ ?_; rotate_left
                · (intro W hSw; obtain ⟨⟨⟨x0, x1, x2, x3, x4, x5, x6⟩, ⟨y0, y1, y2, y3, y4, y5, y6⟩, -⟩, ⟨z0, z1, z2, z3, z4⟩, ⟨u0, u1, u2, u3, u4⟩⟩ := HV.out W (bel_undG hSw); rw [HV1.out] at x1; rw [HV2.out] at y1; go_simp; all_goals (with_reducible rfl))
                (try simp only [Act.put, List.setIfInBounds_toArray, List.set_cons_zero, List.set_cons_succ])
                refine' takeT (i := 10) (v := _) rfl (by kernel_rfl) (by kernel_rfl) (by kernel_rfl) (fun _ _ _ h => h) (by rfl) (Below.refl _ _) ?_ ?_; rotate_left
                · (intro W hSw; obtain ⟨⟨⟨x0, x1, x2, x3, x4, x5, x6⟩, ⟨y0, y1, y2, y3, y4, y5, y6⟩, -⟩, ⟨z0, z1, z2, z3, z4⟩, ⟨u0, u1, u2, u3, u4⟩⟩ := HV.out W (bel_undG hSw); rw [HV1.out] at x1; rw [HV2.out] at y1; go_simp; all_goals (with_reducible rfl))
                (try simp only [Act.put, List.setIfInBounds_toArray, List.set_cons_zero, List.set_cons_succ])
                refine' takeT (i := 11) (v := _) rfl (by kernel_rfl) (by kernel_rfl) (by kernel_rfl) (fun _ _ _ h => h) (by rfl) (Below.refl _ _) ?_ ?_; rotate_left
                · (intro W hSw; obtain ⟨⟨⟨x0, x1, x2, x3, x4, x5, x6⟩, ⟨y0, y1, y2, y3, y4, y5, y6⟩, -⟩, ⟨z0, z1, z2, z3, z4⟩, ⟨u0, u1, u2, u3, u4⟩⟩ := HV.out W (bel_undG hSw); rw [HV1.out] at x1; rw [HV2.out] at y1; go_simp; all_goals (with_reducible rfl))
                (try simp only [Act.put, List.setIfInBounds_toArray, List.set_cons_zero, List.set_cons_succ])
                refine' takeT (i := 12) (v := _) rfl (by kernel_rfl) (by kernel_rfl) (by kernel_rfl) (fun _ _ _ h => h) (by rfl) (Below.refl _ _) ?_ ?_; rotate_left
                · (intro W hSw; obtain ⟨⟨⟨x0, x1, x2, x3, x4, x5, x6⟩, ⟨y0, y1, y2, y3, y4, y5, y6⟩, -⟩, ⟨z0, z1, z2, z3, z4⟩, ⟨u0, u1, u2, u3, u4⟩⟩ := HV.out W (bel_undG hSw); rw [HV1.out] at x1; rw [HV2.out] at y1; go_simp; all_goals (with_reducible rfl))
                (try simp only [Act.put, List.setIfInBounds_toArray, List.set_cons_zero, List.set_cons_succ])
                refine' takeT (i := 13) (v := _) rfl (by kernel_rfl) (by kernel_rfl) (by kernel_rfl) (fun _ _ _ h => h) (by rfl) (Below.refl _ _) ?_ ?_; rotate_left
                · (intro W hSw; obtain ⟨⟨⟨x0, x1, x2, x3, x4, x5, x6⟩, ⟨y0, y1, y2, y3, y4, y5, y6⟩, -⟩, ⟨z0, z1, z2, z3, z4⟩, ⟨u0, u1, u2, u3, u4⟩⟩ := HV.out W (bel_undG hSw); rw [HV1.out] at x1; rw [HV2.out] at y1; go_simp; all_goals (with_reducible rfl))
                (try simp only [Act.put, List.setIfInBounds_toArray, List.set_cons_zero, List.set_cons_succ])
                refine' takeT (i := 14) (v := _) rfl (by kernel_rfl) (by kernel_rfl) (by kernel_rfl) (fun _ _ _ h => h) (by rfl) (Below.refl _ _) ?_ ?_; rotate_left
                · (intro W hSw; obtain ⟨⟨⟨x0, x1, x2, x3, x4, x5, x6⟩, ⟨y0, y1, y2, y3, y4, y5, y6⟩, -⟩, ⟨z0, z1, z2, z3, z4⟩, ⟨u0, u1, u2, u3, u4⟩⟩ := HV.out W (bel_undG hSw); rw [HV1.out] at x1; rw [HV2.out] at y1; go_simp; all_goals (with_reducible rfl))
                (try simp only [Act.put, List.setIfInBounds_toArray, List.set_cons_zero, List.set_cons_succ])
                refine' takeT (i := 15) (v := _) rfl (by kernel_rfl) (by kernel_rfl) (by kernel_rfl) (fun _ _ _ h => h) (by rfl) (Below.refl _ _) ?_ ?_; rotate_left
                · (intro W hSw; obtain ⟨⟨⟨x0, x1, x2, x3, x4, x5, x6⟩, ⟨y0, y1, y2, y3, y4, y5, y6⟩, -⟩, ⟨z0, z1, z2, z3, z4⟩, ⟨u0, u1, u2, u3, u4⟩⟩ := HV.out W (bel_undG hSw); rw [HV1.out] at x1; rw [HV2.out] at y1; go_simp; all_goals (with_reducible rfl))
                (try simp only [Act.put, List.setIfInBounds_toArray, List.set_cons_zero, List.set_cons_succ])
                refine callT (i := 16) rfl (by kernel_rfl) (fun K hK => ?_)
                go_simp
                refine (HSx.out _ (Below.refl _ wr).drew).mono ?_
                rintro e w2 ⟨rfl, hb2⟩
                have HB2 := hide (bel_undG hb2)
                refine hK.out _ _ hb2 ?_
                clear hK K hb2
                (try simp only [Act.put, List.setIfInBounds_toArray, List.set_cons_zero, List.set_cons_succ])
                refine' takeT (i := 17) (v := _) rfl (by kernel_rfl) (by kernel_rfl) (by kernel_rfl) (fun _ _ _ h => h) (by rfl) (Below.refl _ _) ?_ ?_; rotate_left
                · (intro W hSw; obtain ⟨⟨⟨x0, x1, x2, x3, x4, x5, x6⟩, ⟨y0, y1, y2, y3, y4, y5, y6⟩, -⟩, ⟨z0, z1, z2, z3, z4⟩, ⟨u0, u1, u2, u3, u4⟩⟩ := HV.out W (HB2.out.trans (hSw.mono HB2.out.size)); rw [HV1.out] at x1; rw [HV2.out] at y1; go_simp; all_goals (with_reducible rfl))
                (try simp only [Act.put, List.setIfInBounds_toArray, List.set_cons_zero, List.set_cons_succ])
                refine wpAnyH_done (by kernel_rfl) ?_ _
                go_wp2_with fail
                go_meet
                exact ⟨rfl, HB2.out⟩
              case rest =>
                obtain ⟨rfl, hBx⟩ := hcut
                go_wp2
                go_roundg (m.vn - (j + 1))
                case measure => omega
                case rel => exact ⟨j + 1, rfl, by go_num, by omega, HBj.out.trans (hBx.mono HBj.out.size)⟩
            · have hjI : ¬ (j : Int) < (m.vn : Int) := by omega
              go_wp2
              go_roundg (n' - (k + 1))
              case measure => omega
              case rel => exact ⟨k + 1, rfl, by go_num, by omega, HB.out.trans (HBk.out.mono HB.out.size)⟩
      · have hltI : ¬ (k : Int) < (n' : Int) := by omega
        go_wp2
        go_ret
        exact ⟨rfl, HB.out⟩

end Go.Proofs.Ytfldiapdfpkdaaa
