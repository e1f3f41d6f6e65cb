/- The log's Compact. -/
import Derived.Test.YtjeijeaogdednaaRl8a
namespace Go.Proofs.Ytjeijeaogdednaa
open Go.RowKit NumMath
set_option linter.unusedVariables false
set_option maxRecDepth 100000

set_option maxHeartbeats 1200000 in
theorem comp_any (X : Nat → Prop) (base p : Nat) (L : LogS) (x : Int) (a : Option Addr) (len cap : Nat) (data : List Int) (w : World) (h : IsL X w base p L) (hG : L.Good) (hx0 : 0 ≤ x) (hD : IsBytes w a len cap data) (ha : len = 0 ∨ ∀ y, a = some y → y.block ≠ p) (hl : len ≤ 100000) (hXlt : ∀ k, X k → k < w.heap.size) (hbase : base ≤ w.heap.size) :
    Calls Try.prog 15 #[.pointer (some ⟨p, 0, none⟩), .int .u64 x, .slice a len cap] w fun e w' => e = .returned (.int .i64 (compL L x data).1) ∧ IsL (fun k => X k ∨ SB 4 w' p k) w' base p (compL L x data).2 ∧ SPost 4 w p w' := by
  have H := hide h
  have hplt := h.at
  have hSX : Hid (∀ k, SB 4 w p k → X k) := fun k hk => (h.lt hk).2.2
  obtain ⟨ma, mn, mc, da, dn, dc, ea, en, ec, es, c0, c1, c2, c3, c4, c5, c6, hf, hm, hd', hr, he, ho, hp, hn, hxp, hx4⟩ := h
  have hen := hr.len.1
  have hel : L.es.length = en := by rw [← he, List.length_map, hen]
  have i0 := hG.i0
  have i1 := hG.i1
  have hn5 : en ≤ 100000 := by have := hG.n; omega
  have HL := hide (fun (w1 : World) (hb1 : Below w.heap.size w w1) => (H.out.keep hb1).more (Y := fun k => X k ∨ SB 4 w1 p k) (fun k hk => hk.elim .inl (fun h => .inl (hSX.out k (h.same (hb1.block p hplt))))) (fun k hk => .inr hk))
  by_cases g1 : x < L.s.i + 1
  · rw [compL_no (.inl g1)]
    clear hm hd' hr he ho hn hxp hx4 hf hel hen hG
    go_enter Try.func15, Try.ntmps15
    go_wp2_with (first
      | (go_at_call 38; refine (orE_any p _).mono ?_; rintro e w' ⟨rfl, hw⟩; have hw := hw.symm; subst hw)
      | (go_at_call 40; go_must (refine (has_low p L.s.i x _ c0 i0 i1 g1).mono ?_); rintro e w' ⟨rfl, hw⟩; have hw := hw.symm; subst hw))
    go_ret
    exact ⟨rfl, HL.out _ (Below.refl _ _), SPost.refl _ _ _⟩
  by_cases g2 : L.s.i + L.es.length < x
  · rw [compL_no (.inr g2)]
    have HH := hide (has_in p L.s.i x ea en ec false w c0 c4 i0 i1 hn5 (by omega) (decide_eq_false (by omega)))
    clear hm hd' hr he ho hn hxp hx4 hf hel hen hG
    go_enter Try.func15, Try.ntmps15
    go_wp2_with (first
      | (go_at_call 38; refine (orE_any p _).mono ?_; rintro e w' ⟨rfl, hw⟩; have hw := hw.symm; subst hw)
      | (go_at_call 40; go_must (refine HH.out.mono ?_); rintro e w' ⟨rfl, hw⟩; have hw := hw.symm; subst hw))
    go_ret
    exact ⟨rfl, HL.out _ (Below.refl _ _).drew, SPost.of_below hplt (Below.refl _ _).drew⟩
  obtain ⟨k, hk⟩ : ∃ k : Nat, x = L.s.i + 1 + k := ⟨(x - (L.s.i + 1)).toNat, by omega⟩
  have hkl : k < L.es.length := by omega
  have hke : k < en := by omega
  have HCm := hide (compL_yes (data := data) k hk hkl)
  have HH := hide (has_in p L.s.i x ea en ec true w c0 c4 i0 i1 hn5 (by omega) (decide_eq_true (by omega)))
  have HAt := hide (fun (W : World) (hW : W.cell? ⟨p, 0, none⟩ = some (.int .u64 L.s.i)) => at_any p L.s.i x k W hW i0 i1 (by omega) hk)
  obtain ⟨g, hga, hg1, hg2, hcell, hfr⟩ := hr.row (by omega)
  subst hga
  have HCut := hide (fun (W : World) (m : Nat) (hm : m ≤ en) => cut0_any g en ec m W hr.len.2.1 hm)
  have HDs : Hid (∀ m ∈ es, m.n ≤ 1000000) := fun m hm => by
    have h2 := (hG.ok m.e (by rw [← he]; exact List.mem_map_of_mem hm)).2
    have h3 := (ho m hm).2.1.1
    omega
  have HMb := hide (fun (W : World) (hW : Below w.heap.size w W) (y0 : W.cell? ⟨p, 0, none⟩ = some (.int .u64 L.s.i)) (y2 : W.cell? ⟨p, 2, none⟩ = some (.slice ma mn mc)) => mb_any X p L.s ma mn mc (some ⟨g, 0, none⟩) (k + 1) (k + 1) (es.take (k + 1)) W y0 y2 (hm.1.keep hW) (by have := hG.m1; have := hm.1.1; omega) ((isMs_take hr ho (k + 1) (by omega)).keep hW) (by omega) (fun m hm => HDs.out m (List.mem_of_mem_take hm)))
  rw [List.map_take, he] at HMb
  have hgT := (hcell k hke).2.1
  have HTe : Hid ((es.getD k ment0).e.t = (L.es.getD k ent0).t) := by show _ = _; rw [← he, getD_map_e]
  rw [HTe.out] at hgT
  have hgp : g ≠ p := fun e => hn (by rw [← e]; rfl)
  have hk1 : ((k : Int) + 1 - 1) = (k : Int) := by omega
  have H70 : Hid (Cells7 w p _ _ _ _ _ _ _) := ⟨c0, c1, c2, c3, c4, c5, c6, hf⟩
  have HIs := hide (hr.is ho)
  have HCt2 := hide (fun (W : World) (hW : Below w.heap.size w W) => cutE_at2 X (some ⟨g, 0, none⟩) en ec es (k + 1) (en - (k + 1)) ((k : Int) + 1) (en : Int) W (HIs.out.keep hW) (by omega) (by omega) (by omega))
  have HDr : Hid ((es.drop (k + 1)).take (en - (k + 1)) = es.drop (k + 1)) := List.take_of_length_le (by rw [List.length_drop, hen]; omega)
  rw [HDr.out] at HCt2
  have HEs := hide he
  have HO := hide ho
  have HN := hide hn
  have HMo := hide (told_ok L.s (L.es.take (k + 1)) ⟨hG.m1, hG.m0⟩)
  have HDt := hide hD
  have f0 := hf 0
  have f1 := hf 1
  have f2 := hf 2
  have f3 := hf 3
  have f4 := hf 4
  have f6 := hf 6
  clear hm hd' hr he ho hn hx4 hf hel hen hG hcell hfr hk hkl g1 g2 hD
  generalize (L.es.getD k ent0).t = tk at *
  generalize toldL L.s (L.es.take (k + 1)) = tl at *
  obtain ⟨tm, ti⟩ := tl
  dsimp only at *
  go_enter Try.func15, Try.ntmps15
  go_wp2_with (first
    | (go_at_call 38; refine (orE_any p _).mono ?_; rintro e w' ⟨rfl, hw⟩; have hw := hw.symm; subst hw)
    | (go_at_call 40; go_must (refine HH.out.mono ?_); rintro e w' ⟨rfl, hw⟩; have hw := hw.symm; subst hw)
    | (go_at_call 42; refine (HAt.out _ (by exact c0)).mono ?_; rintro e w' ⟨rfl, hw⟩; have hw := hw.symm; subst hw)
    | (go_at_call 41; go_must (refine (HCut.out _ (k + 1) (by omega)).mono ?_); rintro e w' ⟨rfl, hw⟩; have hw := hw.symm; subst hw)
    | (go_at_call 46; go_must (refine (HMb.out _ (by exact (Below.refl _ w).drew) (by exact c0) (by exact c2)).mono ?_); rintro e w3 ⟨b3, n3, d3, rfl, ho3, hr3, hb3⟩; have HO3 := hide ho3; have hb3' : Below w.heap.size w w3 := ((Below.refl _ w).drew).trans hb3; have HB3 := hide hb3'; have HR3 := hide hr3; have H73 := hide (H70.out.same (hb3'.block p hplt)); have c43 := H73.out.2.2.2.2.1; have f43 := H73.out.2.2.2.2.2.2.2 4; have gT3 := (hb3'.cell (p := ⟨g, k * 4 + 1, none⟩) hg2).trans hgT; clear ho3 hr3 hb3 hb3'))
  go_region_with (first
    | (go_at_call 41; refine (HCt2.out _ (by exact HB3.out.drew)).mono ?_; rintro e w' ⟨b4, rfl, hI4, hw⟩; have hw := hw.symm; subst hw; have HI4 := hide hI4.src; clear hI4)
    | (go_at_call 47; refine (cloneM_any b4 (en - (k + 1)) (en - (k + 1)) (es.drop (k + 1)) _ HI4.out (by omega)).mono ?_; rintro e w5 ⟨v5, rfl, hr5, hb5⟩; have hb5' : Below w3.heap.size w3 w5 := ⟨hb5.os, hb5.tape, hb5.output, hb5.size, hb5.block⟩; obtain ⟨a5, n5, d5, rfl⟩ := hr5.any3; have HR5 := hide hr5; have HB5 := hide hb5'; have H75 := hide (H73.out.same (hb5'.block p (Nat.lt_of_lt_of_le hplt HB3.out.size))); have c45 := H75.out.2.2.2.2.1; have f45 := H75.out.2.2.2.2.2.2.2 4; clear hr5 hb5 hb5'))
  all_goals
    have hb35 : Below w.heap.size w w5 := HB3.out.trans (HB5.out.mono HB3.out.size)
    have HB35 := hide hb35
    have H76 := hide (H75.out.set4 (.slice a5 n5 d5))
    have gT6 : (w5.setCell ⟨p, 4, none⟩ (.slice a5 n5 d5)).cell? ⟨g, k * 4 + 1, none⟩ = some (.int .u64 tk) := (World.cell?_of_block (a := ⟨g, k * 4 + 1, none⟩) (Below.heap_setCell _ _ _ _ hgp)).trans ((hb35.cell (p := ⟨g, k * 4 + 1, none⟩) hg2).trans hgT)
    have HD6 := hide (isB_liesX (HDt.out.keep hb35) (keeps_cell (g := p) (i := 4) (.slice a5 n5 d5)) ha)
    have hsz6 : (w5.setCell ⟨p, 4, none⟩ (.slice a5 n5 d5)).heap.size = w5.heap.size := by simp [World.setCell]
    have HSz6 := hide hsz6
    have hp5 : p < w5.heap.size := Nat.lt_of_lt_of_le hplt hb35.size
    have hg5 : g < w5.heap.size := Nat.lt_of_lt_of_le hg2 hb35.size
    clear hb35 hsz6
    have hwk : IntKind.i64.wrap (k : Int) = (k : Int) := by simp [IntKind.wrap, IntKind.bits, IntKind.signed]; omega
    have hwk1 : IntKind.i64.wrap ((k : Int) + 1 - 1) = (k : Int) := by rw [hk1]; exact hwk
    go_wp2_with fail
    go_region_held (fun w' => w'.cell? ⟨g, k * 4 + 1, none⟩ = some (.int .u64 tk)) (first | with_reducible exact far4 hgp gT7 | with_reducible exact gT7 | with_reducible exact gT6 | go_keep) (first
      | (go_at_call 48; refine (clone_src a len cap data _ (by exact HD6.out.src) (by omega)).mono ?_; rintro e w7 ⟨v7, rfl, ho7, hb7⟩; have hb7' : Below w5.heap.size (w5.setCell ⟨p, 4, none⟩ (.slice a5 n5 d5)) w7 := ⟨hb7.os, hb7.tape, hb7.output, hb7.size, fun q hq => hb7.block q (by rw [← HSz6.out] at hq; exact hq)⟩; obtain ⟨a7, n7, d7, rfl, hI7, hy7⟩ := slice_of_own ho7 HD6.out.2.2.2.1; have HI7 := hide hI7; have HY7 := hide hy7; have HB7 := hide hb7'; have gT7 := (hb7'.cell (p := ⟨g, k * 4 + 1, none⟩) hg5).trans gT6; have H77 := hide (H76.out.same (hb7'.block p hp5)); obtain ⟨s0, s1, s2, s3, s4, s5, s6, sf⟩ := H77.out; have u0 := sf 0; have u1 := sf 1; have u2 := sf 2; have u3 := sf 3; have u6 := sf 6; clear sf ho7 hI7 hy7 hb7 hb7'))
    all_goals
      go_wp2_with fail
      go_ret
      rw [HCm.out]
      obtain ⟨hL, hS⟩ := comp_fin (w := w) (X := X) (base := base) (E := L.es.drop (k + 1)) (x := x) (tk := tk) HO3.out HR3.out HB3.out HR5.out HB5.out HI7.out (fun z hz => Nat.le_trans (Nat.le_of_eq HSz6.out.symm) (HY7.out z hz)) HB7.out H77.out (fun m hm => HO.out m (List.mem_of_mem_drop hm)) (by rw [List.map_drop, HEs.out]) hXlt hplt hxp hp hbase _ rfl
      exact ⟨rfl, hL, hS⟩

end Go.Proofs.Ytjeijeaogdednaa
