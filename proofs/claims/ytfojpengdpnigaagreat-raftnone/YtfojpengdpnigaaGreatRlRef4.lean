/- The reference's log: Members, Compact. -/
import Derived.Test.YtfojpengdpnigaaGreatRlRef3
namespace Go.Proofs.YtfojpengdpnigaaGreat
open Go.RowKit NumMath
set_option linter.unusedVariables false
set_option maxRecDepth 100000

theorem dat_small {L : LogS} {X : Nat → Prop} {w : World} {es : List MEnt} (hG : L.Good) (he : es.map MEnt.e = L.es) (ho : ∀ m ∈ es, m.ok X w) : ∀ m ∈ es, m.n ≤ 1000000 := fun m hm => by
  have h2 := (hG.ok m.e (by rw [← he]; exact List.mem_map_of_mem hm)).2
  have h3 := (ho m hm).2.1.1
  omega

set_option maxHeartbeats 400000 in
theorem xmem_any (X : Nat → Prop) (base p : Nat) (L : LogS) (w : World) (h : IsL X w base p L) (hG : L.Good) (hXlt : ∀ k, X k → k < w.heap.size) :
    Calls Tryz.prog 95 #[.pointer (some ⟨p, 0, none⟩)] w fun e w' => ∃ b n c, e = .returned (.tuple #[.slice b n c, .int .u64 (toldL L.s L.es).2]) ∧ NumX X w' b n c (toldL L.s L.es).1 ∧ Below w.heap.size w w' := by
  obtain ⟨ma, mn, mc, da, dn, dc, ea, en, ec, es, c0, c1, c2, c3, c4, c5, c6, hf, hm, hd', hr, he, ho, hp, hn, hx, hx4⟩ := h
  have hen := hr.len.1
  have hel : L.es.length = en := by rw [← he, List.length_map, hen]
  have HC := hide (xtold_any X p L.s ma mn mc ea en ec es 18446744073709551615 en w c0 c2 c4 hm (hr.is ho) (by have := hG.n; omega) (dat_small hG he ho) (fun j hj => by
    have h1 := (ho _ (ment_mem es j (by omega))).1.1
    constructor
    · intro h; omega
    · intro h; omega) hXlt)
  rw [List.take_of_length_le (by omega), he] at HC
  clear hm hd' hr he ho hn hx hx4 hf hG hen hel hXlt
  go_enter Tryz.func95, Tryz.ntmps95
  go_wp2_with (first
    | (go_at_call 131; go_must (refine HC.out.mono ?_); rintro e w2 ⟨b, n, c, rfl, ho2, hb2⟩))
  go_ret2
  exact ⟨b, n, c, rfl, ho2, hb2⟩

theorem xcomp_fin {X : Nat → Prop} {w w2 w5 : World} {base p : Nat} {x tk : Int} {tm data : List Int} {y : Int} {v0 v1 v2 v3 v4 v6 : Value} {b3 a5 a : Option Addr} {n3 d3 n5 d5 len cap : Nat} {es : List MEnt} {E : List Ent}
    (hN : NumX X w2 b3 n3 d3 tm) (hB2 : Below w.heap.size w w2) (hR5 : RowM w5 w2.heap.size (.slice a5 n5 d5) es) (hB5 : Below w2.heap.size w2 w5) (hD : DatB X w a len cap data)
    (h7 : Cells7 w5 p v0 v1 v2 v3 v4 (.int .u64 y) v6) (hO : ∀ m ∈ es, m.ok X w) (hE : es.map MEnt.e = E) (hplt : p < w.heap.size) (hxp : X p) (hp : base ≤ p) (hbase : base ≤ w.heap.size) (V : World)
    (hV : V = (((((w5.setCell ⟨p, 0, none⟩ (.int .u64 x)).setCell ⟨p, 1, none⟩ (.int .u64 tk)).setCell ⟨p, 2, none⟩ (.slice b3 n3 d3)).setCell ⟨p, 3, none⟩ (.slice a len cap)).setCell ⟨p, 4, none⟩ (.slice a5 n5 d5)).setCell ⟨p, 6, none⟩ (.bool true)) :
    IsL (fun k => X k ∨ SB 4 V p k) V base p ⟨⟨x, tk, tm, data⟩, E, y, true⟩ ∧ SPost 4 w p V := by
  have hC : Cells7 V p (.int .u64 x) (.int .u64 tk) (.slice b3 n3 d3) (.slice a len cap) (.slice a5 n5 d5) (.int .u64 y) (.bool true) := by
    rw [hV]; exact (((((h7.set0 _).set1 _).set2 _).set3 _).set4 _).set6 _
  have hs2 := hB2.size
  have hs5 := hB5.size
  have k5 : Keeps (fun k => k = p) w5 V := by
    rw [hV]; exact (((((Keeps.self _ w5).also _).also _).also _).also _).also _ |>.also _
  have k2 : Keeps (fun k => k = p) w2 V := (Below.keeps hB5 _).trans k5
  have k0 : Keeps (fun k => k = p) w V := (Below.keeps hB2 _).trans k2
  have hl5 := hR5.lt
  have hSB : ∀ k, SB 4 V p k → k = p ∨ (Value.slice a5 n5 d5).ownBlock = some k := fun k hk => (SB.of7 hC).1 hk
  have hY2 : ∀ k, (X k ∨ SB 4 V p k) → X k ∨ w2.heap.size ≤ k := by
    rintro k (h | h)
    · exact .inl h
    · rcases hSB k h with rfl | h
      · exact .inl hxp
      · exact .inr (hl5 k h).1
  have hY : ∀ k, (X k ∨ SB 4 V p k) → X k ∨ w.heap.size ≤ k := fun k hk => (hY2 k hk).imp id (fun h => by omega)
  have hM : ∀ k, k = p → (X k ∨ SB 4 V p k) := by rintro k rfl; exact .inl hxp
  have hn5 : some p ≠ (Value.slice a5 n5 d5).ownBlock := by
    intro e
    have := (hl5 p e.symm).1
    omega
  refine ⟨isL_of7 (L := ⟨⟨x, tk, tm, data⟩, E, y, true⟩) hC ((hN.more hY2).lies k2 hM) ((hD.more hY).lies k0 hM) ?_ hE (fun m hm => ((hO m hm).more hY).lies k0 hM) hp hn5 (.inl hxp) (fun k hk => .inr ((SB.of7 hC).2 (.inr hk))), k0.weaken (fun k hk => by subst hk; exact SB.at), fun k hk => (hSB k hk).elim (fun e => .inl (by subst e; exact SB.at)) (fun h => .inr (by have := (hl5 k h).1; omega))⟩
  refine (hR5.lies (fun g hg => k5.block g (hl5 g hg).2 (fun e => ?_))).mono (by omega)
  have := (hl5 g hg).1
  omega

set_option maxHeartbeats 400000 in
theorem xcomp_any (X : Nat → Prop) (base p : Nat) (L : LogS) (x : Int) (a : Option Addr) (len cap : Nat) (data : List Int) (w : World) (h : IsL X w base p L) (hG : L.Good) (hx0 : 0 ≤ x) (hD : DatB X w a len cap data) (hXlt : ∀ k, X k → k < w.heap.size) (hbase : base ≤ w.heap.size) :
    Calls Tryz.prog 97 #[.pointer (some ⟨p, 0, none⟩), .int .u64 x, .slice a len cap] w fun e w' => e = .returned (.int .i64 (compL L x data).1) ∧ IsL (fun k => X k ∨ SB 4 w' p k) w' base p (compL L x data).2 ∧ SPost 4 w p w' := by
  have H := hide h
  have hplt := h.at
  have hSX : Hid (∀ k, SB 4 w p k → X k) := fun k hk => (h.lt hk).2.2
  have HTm := hide (fun (W : World) (hW : Below w.heap.size w W) k hk hkl => xterm_at X base p L x k W (h.keep hW) hG hk hkl)
  obtain ⟨ma, mn, mc, da, dn, dc, ea, en, ec, es, c0, c1, c2, c3, c4, c5, c6, hf, hm, hd', hr, he, ho, hp, hn, hxp, hx4⟩ := h
  have hen := hr.len.1
  have hel : L.es.length = en := by rw [← he, List.length_map, hen]
  have i0 := hG.i0
  have i1 := hG.i1
  have hn5 : en ≤ 100000 := by have := hG.n; omega
  have HL := hide (fun (w1 : World) (hb1 : Below w.heap.size w w1) => (H.out.keep hb1).more (Y := fun k => X k ∨ SB 4 w1 p k) (fun k hk => hk.elim .inl (fun h => .inl (hSX.out k (h.same (hb1.block p hplt))))) (fun k hk => .inr hk))
  by_cases g1 : x < L.s.i + 1 ∨ L.s.i + L.es.length < x
  · rw [compL_no g1]
    rw [hel] at g1
    obtain ⟨z, y, hz, hy⟩ : ∃ z y : Bool, decide (x < L.s.i + 1) = z ∧ decide (L.s.i + (en : Int) < x) = y := ⟨_, _, rfl, rfl⟩
    have hzy : z = true ∨ (z = false ∧ y = true) := by
      rcases g1 with g | g
      · exact .inl (by rw [← hz]; exact decide_eq_true g)
      · cases z
        · exact .inr ⟨rfl, by rw [← hy]; exact decide_eq_true g⟩
        · exact .inl rfl
    clear hm hd' hr he ho hn hxp hx4 hf hel hen hG g1
    rcases hzy with rfl | ⟨rfl, rfl⟩
    all_goals
      go_enter Tryz.func97, Tryz.ntmps97
      go_wp2_with (first
        | (go_at_call 42; go_must (refine (xfirst_any p L.s.i _ (by exact c0) i0 i1).mono ?_); rintro e w' ⟨rfl, hw⟩; have hw := hw.symm; subst hw)
        | (go_at_call 43; go_must (refine (xlast_any p L.s.i ea en ec _ (by exact c0) (by exact c4) i0 i1 (by omega)).mono ?_); rintro e w' ⟨rfl, hw⟩; have hw := hw.symm; subst hw))
    · go_ret
      exact ⟨rfl, HL.out _ (Below.refl _ _), SPost.refl _ _ _⟩
    · go_ret
      exact ⟨rfl, HL.out _ (Below.refl _ _).drew, SPost.of_below hplt (Below.refl _ _).drew⟩
  obtain ⟨k, hk⟩ : ∃ k : Nat, x = L.s.i + 1 + k := ⟨(x - (L.s.i + 1)).toNat, by omega⟩
  have hkl : k < L.es.length := by omega
  have hke : k < en := by omega
  have HCm := hide (compL_yes (data := data) k hk hkl)
  have HT := hide (fun (W : World) (hW : Below w.heap.size w W) => HTm.out W hW k hk hkl)
  have HAt : ∀ j, j < en → (es.getD j ment0).e.i = L.s.i + 1 + j := fun j hj => by rw [← getD_map_e, he]; exact hG.at_ j (by omega)
  have HTo := hide (fun (W : World) (hW : Below w.heap.size w W) => xtold_any X p L.s ma mn mc ea en ec es x (k + 1) W ((hW.cell (p := ⟨p, 0, none⟩) hplt).trans c0) ((hW.cell (p := ⟨p, 2, none⟩) hplt).trans c2) ((hW.cell (p := ⟨p, 4, none⟩) hplt).trans c4) (hm.keep hW) ((hr.is ho).keep hW) (by omega) (dat_small hG he ho) (fun j hj => by rw [HAt j hj]; omega) (fun k hk => Nat.lt_of_lt_of_le (hXlt k hk) hW.size))
  rw [List.map_take, he] at HTo
  have HEn := hide (fun (W : World) (hW : Below w.heap.size w W) => xents_any X base p L es (x + 1) (k + 1) en W ea en ec ((hW.cell (p := ⟨p, 0, none⟩) hplt).trans c0) ((hW.cell (p := ⟨p, 4, none⟩) hplt).trans c4) ((hr.is ho).keep hW) he hG (by omega) (by omega) (by omega))
  have HO := hide ho
  have HEs := hide he
  have HDt := hide hD
  have H70 : Hid (Cells7 w p _ _ _ _ _ _ _) := ⟨c0, c1, c2, c3, c4, c5, c6, hf⟩
  have hz : decide (x < L.s.i + 1) = false := decide_eq_false (by omega)
  have hy : decide (L.s.i + (en : Int) < x) = false := decide_eq_false (by omega)
  have hwx : IntKind.u64.wrap (x + 1) = x + 1 := kwrap_u64 _ (by omega) (by omega)
  clear hm hd' hr he ho hn hx4 hf hel hen hG hk hkl g1 hD HAt HTm
  generalize (L.es.getD k ent0).t = tk at *
  generalize toldL L.s (L.es.take (k + 1)) = tl at *
  obtain ⟨tm, ti⟩ := tl
  dsimp only at *
  go_enter Tryz.func97, Tryz.ntmps97
  go_wp2_with (first
    | (go_at_call 42; go_must (refine (xfirst_any p L.s.i _ (by exact c0) i0 i1).mono ?_); rintro e w' ⟨rfl, hw⟩; have hw := hw.symm; subst hw)
    | (go_at_call 43; go_must (refine (xlast_any p L.s.i ea en ec _ (by exact c0) (by exact c4) i0 i1 (by omega)).mono ?_); rintro e w' ⟨rfl, hw⟩; have hw := hw.symm; subst hw)
    | (go_at_call 87; go_must (refine (HT.out _ (by exact (Below.refl _ w).drew)).mono ?_); rintro e w1 ⟨rfl, hb1⟩; have HB1 : Hid (Below w.heap.size w w1) := ((Below.refl _ w).drew).trans hb1; clear hb1)
    | (go_at_call 131; go_must (refine (HTo.out _ (by exact HB1.out)).mono ?_); rintro e w2 ⟨b3, n3, d3, rfl, hn3, hb2⟩; have HB2 := hide (HB1.out.trans (hb2.mono HB1.out.size)); have HN3 := hide hn3; have c42 := (HB2.out.cell (p := ⟨p, 4, none⟩) hplt).trans c4; clear hn3 hb2)
    | (go_at_call 133; go_must (refine (HEn.out _ (by exact HB2.out)).mono ?_); rintro e w5 ⟨a5, n5, d5, rfl, hr5, ho5, hb5⟩; have HB5 := hide hb5; have HR5 := hide hr5; have H75 := hide ((H70.out.same (HB2.out.block p hplt)).same (hb5.block p (Nat.lt_of_lt_of_le hplt HB2.out.size))); obtain ⟨s0, s1, s2, s3, s4, s5, s6, sf⟩ := H75.out; have u0 := sf 0; have u1 := sf 1; have u2 := sf 2; have u3 := sf 3; have u4 := sf 4; have u6 := sf 6; clear sf hr5 ho5 hb5))
  go_ret
  rw [HCm.out]
  obtain ⟨hL, hS⟩ := xcomp_fin (w := w) (X := X) (base := base) (E := L.es.drop (k + 1)) (x := x) (tk := tk) HN3.out HB2.out HR5.out HB5.out HDt.out H75.out (fun m hm => HO.out m (List.mem_of_mem_drop hm)) (by rw [List.map_drop, HEs.out]) hplt hxp hp hbase _ rfl
  exact ⟨rfl, hL, hS⟩

end Go.Proofs.YtfojpengdpnigaaGreat
