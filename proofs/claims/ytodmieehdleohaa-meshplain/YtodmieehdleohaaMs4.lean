/- A message copied: copyOf. -/
import Derived.Test.YtodmieehdleohaaBig
namespace Go.Proofs.Ytodmieehdleohaa
open Go.RowKit NumMath Go.ChangeShapes Go.WideShapes Go.Deep
set_option linter.unusedVariables false
set_option maxRecDepth 100000

theorem kpSelf (M : Nat → Prop) (w : World) : Keeps M w w := ⟨rfl, rfl, rfl, Nat.le_refl _, fun _ _ _ => rfl⟩

theorem kpThen {X X' : Nat → Prop} {w w1 w2 : World} (h : Keeps X w w1) (hx : ∀ k, X' k → X k ∨ w.heap.size ≤ k) (k : Keeps X' w1 w2) : Keeps X w w2 :=
  ⟨k.os.trans h.os, k.tape.trans h.tape, k.output.trans h.output, Nat.le_trans h.size k.size, fun i hi hn => (k.block i (Nat.lt_of_lt_of_le hi h.size) (fun hX => by rcases hx i hX with h1 | h1; exact hn h1; omega)).trans (h.block i hi hn)⟩

theorem kpBelow {X : Nat → Prop} {w w1 w2 : World} (h : Keeps X w w1) (k : Below w1.heap.size w1 w2) : Keeps X w w2 := kpThen h (fun _ hk => .inl hk) (Below.keeps k X)

theorem kpSet {X : Nat → Prop} {w w1 : World} (h : Keeps X w w1) {g i : Nat} (hg : X g ∨ w.heap.size ≤ g) (v : Value) : Keeps X w (w1.setCell ⟨g, i, none⟩ v) :=
  kpThen h (fun k (e : k = g) => by rw [e]; exact hg) (keeps_cell v)

set_option maxHeartbeats 4000000 in
theorem copyM_any (m : MMsg) (w : World) (h : m.okX (fun _ => False) w) (b1 : m.en * 48 ≤ 140737488355328) (b2 : ∀ e ∈ m.es, e.n ≤ 140737488355328) (b3 : m.mn * 8 ≤ 140737488355328) (b4 : m.sn ≤ 140737488355328) :
    Calls Try.prog 25 #[.agg #[.int .i64 m.k, .int .u64 m.fr, .int .u64 m.tt, .int .u64 m.tm, .int .u64 m.ix, .int .u64 m.lt, .int .u64 m.cm, .int .u64 m.hn, .bool m.rj, .slice m.ea m.en m.ec, .int .u64 m.si, .int .u64 m.st, .slice m.ma m.mn m.mc, .slice m.sa m.sn m.sc]] w fun e w' => ∃ m' : MMsg, e = .returned (.agg #[.int .i64 m'.k, .int .u64 m'.fr, .int .u64 m'.tt, .int .u64 m'.tm, .int .u64 m'.ix, .int .u64 m'.lt, .int .u64 m'.cm, .int .u64 m'.hn, .bool m'.rj, .slice m'.ea m'.en m'.ec, .int .u64 m'.si, .int .u64 m'.st, .slice m'.ma m'.mn m'.mc, .slice m'.sa m'.sn m'.sc]) ∧ m'.pure = m.pure ∧ m'.okX (fun k => k < w.heap.size) w' ∧ Below w.heap.size w w' := by
  obtain ⟨W0, hW0⟩ : ∃ W0, W0 = (w.alloc (.cells #[.int .i64 m.k, .int .u64 m.fr, .int .u64 m.tt, .int .u64 m.tm, .int .u64 m.ix, .int .u64 m.lt, .int .u64 m.cm, .int .u64 m.hn, .bool m.rj, .slice m.ea m.en m.ec, .int .u64 m.si, .int .u64 m.st, .slice m.ma m.mn m.mc, .slice m.sa m.sn m.sc] 39)).alloc (.cells #[.int .i64 0, .int .u64 0, .int .u64 0, .int .u64 0, .int .u64 0, .int .u64 0, .int .u64 0, .int .u64 0, .bool false, .slice none 0 0, .int .u64 0, .int .u64 0, .slice none 0 0, .slice none 0 0] 39) := ⟨_, rfl⟩
  have hs0 : W0.heap.size = w.heap.size + 2 := by rw [hW0]; simp
  have hb0 : Below w.heap.size w W0 := by rw [hW0]; exact (by repeat (first | exact Below.refl _ _ | refine belA ?_ _ | refine Below.drew ?_))
  have HX0 : Hid (BoxG W0 w.heap.size m) := by show BoxG W0 w.heap.size m; rw [hW0]; exact (boxG_new w m w.heap.size _ rfl).keep (new_below _ _)
  have HZ0 : Hid (BoxG W0 (w.heap.size + 1) msg0) := by show BoxG W0 (w.heap.size + 1) msg0; rw [hW0]; exact boxG_new _ msg0 _ _ (by simp)
  have HCl := hide (cloneM_big m.ea m.en m.ec m.es W0 (h.keep hb0).es.src (by omega))
  rw [hs0] at HCl
  rw [hW0] at HCl
  have HW0 := hide hW0
  have HOk := hide h
  have HD := hide b2
  have HL := hide h.es.1
  have HB0 := hide hb0
  have HPi : Hid (W0.heap.size = w.heap.size + 2) := hs0
  clear h b2 hb0 hs0 hW0
  go_enter Try.func25, Try.ntmps25
  go_wp2_with (first
    | (go_at_call 29; go_must (refine HCl.out.mono ?_); rintro e w1 ⟨v1, rfl, hrow1, hb1⟩; obtain ⟨a1, n1, c1, rfl⟩ := hrow1.any3; (have hb1 : Below W0.heap.size W0 w1 := (by rw [HPi.out, HW0.out]; exact hb1)); have HR1 := hide hrow1; have HB1 := hide hb1; have HX1 := hide (HX0.out.keep hb1); have HZ1 := hide (HZ0.out.keep hb1); have b9 := HX1.out.x.2.2.2.2.2.2.2.2.2.1; have f9 := HX1.out.fz 9; clear hrow1 hb1))
  have hn1 : n1 = m.en := by rw [← HR1.out.len.1]; exact HL.out
  subst hn1
  have hm1 : (m.en : Int) ≤ 9223372036854775807 := by omega
  have hw1 : w.heap.size + 2 ≤ w1.heap.size := by have := HB1.out.size; rw [HPi.out] at this; exact this
  obtain ⟨W1, hW1⟩ : ∃ W1, W1 = w1.setCell ⟨w.heap.size, 9, none⟩ (.slice a1 m.en c1) := ⟨_, rfl⟩
  have hsz1 : W1.heap.size = w1.heap.size := by rw [hW1]; simp [World.setCell]
  have hk1 : Keeps (fun k => k = w.heap.size) w1 W1 := by rw [hW1]; exact keeps_cell _
  have HXs : Hid (BoxG W1 w.heap.size { m with ea := a1, ec := c1 }) := by show BoxG W1 _ _; rw [hW1]; exact HX1.out.set 9 _ (by decide) rfl
  have HZs : Hid (BoxG W1 (w.heap.size + 1) msg0) := HZ1.out.lies hk1 (by omega)
  have HRs : Hid (RowM W1 (w.heap.size + 2) (.slice a1 m.en c1) m.es) := by
    show RowM W1 _ _ _
    refine ⟨HR1.out.1, ?_⟩
    rcases HR1.out.2 with h0 | ⟨g, cap, cur, hv, hg, hh, hr⟩
    · exact .inl h0
    · exact .inr ⟨g, cap, cur, hv, hg, (hk1.block g (by have := (World.ownsRow.lt HR1.out g (by rw [hv]; rfl)).2; exact this) (by omega)).trans hh, hr⟩
  have HBs : Hid (Below w.heap.size w W1) := by
    show Below w.heap.size w W1
    rw [hW1]
    exact (HB0.out.trans (HB1.out.mono (by rw [HPi.out]; omega))).setCell (p := ⟨w.heap.size, 9, none⟩) (Nat.le_refl _) _
  rw [← hW1]
  clear HX0 HZ0 HX1 HZ1 HR1 HB1 HB0 HW0 HCl b9 f9 hW1 hk1 hsz1
  go_loopw [11] (fun i wr => ∃ (k : Nat) (cur : List MEnt), k ≤ m.en ∧ i = .int .i64 k ∧ cur.map MEnt.e = m.es.map MEnt.e ∧ RowM wr (w.heap.size + 2) (.slice a1 m.en c1) cur ∧ (∀ j, j < k → (cur.getD j ment0).ok (fun k => k < w.heap.size + 2 ∨ (Value.slice a1 m.en c1).ownBlock = some k) wr) ∧ (∀ j, k ≤ j → cur.getD j ment0 = m.es.getD j ment0) ∧ BoxG wr w.heap.size { m with ea := a1, ec := c1 } ∧ BoxG wr (w.heap.size + 1) msg0 ∧ Below w.heap.size w wr) (fun i _ => m.en - (intOf i).toNat)
  case atStart => exact ⟨0, m.es, Nat.zero_le _, rfl, rfl, HRs.out, by intro j hj; omega, fun _ _ => rfl, HXs.out, HZs.out, HBs.out⟩
  case round =>
    obtain ⟨k, cur, hk, rfl, hE, hrow, hdone, hrest, hX, hZ, hb⟩ := hrel
    have HE := hide hE
    have HR := hide hrow
    have HDn := hide hdone
    have HRe := hide hrest
    have HX := hide hX
    have HZ := hide hZ
    have HB := hide hb
    have hgl := hX.lt
    have hzl := hZ.lt
    clear hE hrow hdone hrest hX hZ hb HXs HZs HRs HBs
    by_cases hlt : k < m.en
    · obtain ⟨g, hga, hg1, hg2, hcell, hfr⟩ := HR.out.row (by omega)
      subst hga
      have b9 : wr.cell? ⟨w.heap.size, 9, none⟩ = some (.slice (some ⟨g, 0, none⟩) m.en c1) := HX.out.x.2.2.2.2.2.2.2.2.2.1
      obtain ⟨-, -, -, c3⟩ := hcell k hlt
      have hf3 := hfr (k * 4 + 3)
      have hkl : k < m.es.length := by rw [HL.out]; exact hlt
      have hkc : k < cur.length := by rw [HR.out.len.1]; exact hlt
      have HKC := hide hkc
      rw [HRe.out k (Nat.le_refl _)] at c3
      have hmem := ment_mem m.es k hkl
      have HOe := hide (HOk.out.es.2.2.2.1 _ hmem)
      have HSz := hide (HD.out _ hmem)
      have HG := hide (HRe.out k (Nat.le_refl _))
      clear hmem hcell hfr hkc hkl
      generalize m.es.getD k ment0 = me at *
      obtain ⟨me, mb, mn, mc⟩ := me
      dsimp only at c3
      have HBe := hide ((HOe.out.2.1.keep HB.out).keep (Below.refl _ wr).drew)
      have hne1 : ¬ g = w.heap.size := by omega
      have hne2 : ¬ w.heap.size = g := by omega
      have c3d : wr.drew.cell? ⟨g, k * 4 + 3, none⟩ = some (.slice mb mn mc) := c3
      have b9d : wr.drew.cell? ⟨w.heap.size, 9, none⟩ = some (.slice (some ⟨g, 0, none⟩) m.en c1) := b9
      go_wp2_with fail
      go_region_with (first
        | (go_at_call 30; go_must (refine (cloneB_big mb mn mc me.d _ HBe.out.src (by have := HSz.out; omega)).mono ?_); rintro e w3 ⟨v3, rfl, hown3, hb3⟩; obtain ⟨a3, n3, d3, rfl, hI3, hy3⟩ := slice_of_own hown3 HBe.out.2.2.2.1; have c33 := (hb3.cell (p := ⟨g, k * 4 + 3, none⟩) hg2).trans c3d; have hf33 := (hb3.frozen (p := ⟨g, k * 4 + 3, none⟩) hg2).trans hf3; have b93 := (hb3.cell (p := ⟨w.heap.size, 9, none⟩) hgl).trans b9d; have HI3 := hide hI3; have HY3 := hide hy3; have HB3 := hide (below_undrew hb3); have HR3 := hide (HR.out.keep (below_undrew hb3)); clear hown3 hI3 hy3 hb3))
      all_goals
        go_wp2
        go_roundw
        case rel =>
          have hsz3 := HB3.out.size
          have hgF : (Value.slice (some ⟨g, 0, none⟩) m.en c1).ownBlock = some g := rfl
          have hk0 := keeps_cell (w := w3) (g := g) (i := k * 4 + 3) (.slice a3 n3 d3)
          refine ⟨k + 1, cur.set k ((cur.getD k ment0).with a3 n3 d3), by omega, by go_num, (map_e_set cur k HKC.out a3 n3 d3).trans HE.out, rowM_set HR3.out k hlt a3 n3 d3, ?_, ?_, (HX.out.keep HB3.out).lies hk0 (by omega), (HZ.out.keep HB3.out).lies hk0 (by omega), ?_⟩
          · intro j hj
            by_cases hjk : j = k
            · subst hjk
              rw [getD_set_eq _ _ _ HKC.out, HG.out]
              refine ⟨HOe.out.1, isB_liesX HI3.out hk0 (.inr (fun y hy e => ?_)), .inr (fun y hy e => ?_)⟩
              · have := HY3.out y hy; simp at this; omega
              · have h5 := HY3.out y hy
                simp at h5
                rcases e with e | e
                · omega
                · rw [hgF] at e
                  have := Option.some.inj e
                  omega
            · rw [getD_set_ne _ _ _ _ (fun e => hjk e.symm)]
              exact ((HDn.out j (by omega)).keep HB3.out).lies hk0 (fun x hx => .inr (by rw [hgF, hx]))
          · intro j hj
            rw [getD_set_ne _ _ _ _ (by omega)]
            exact HRe.out j (by omega)
          · exact (HB.out.trans (HB3.out.mono HB.out.size)).setCell (p := ⟨g, k * 4 + 3, none⟩) (by show w.heap.size ≤ g; omega) _
        case measure => simp [intOf]; omega
    · have hkn : k = m.en := by omega
      subst hkn
      have b12 := HX.out.x.2.2.2.2.2.2.2.2.2.2.2.2.1
      dsimp only at b12
      have hown : ∀ y : Addr, a1 = some y → w.heap.size + 2 ≤ y.block := fun y hy => (World.ownsRow.lt HR.out y.block (by rw [hy]; rfl)).1
      have HOw := hide hown
      clear hown
      go_wp2_with (first
        | (go_at_call 31; go_must (refine (cloneU_big m.ma m.mn m.mc m.mm _ (HOk.out.mm.keep HB.out).src (by omega)).mono ?_); rintro e w2 ⟨v2, rfl, hown2, hb2⟩; obtain ⟨a2, n2, c2, rfl, hI2, hy2⟩ := hown2.is HOk.out.mm.2.2.2.1; have HX2 := hide (HX.out.keep hb2); have HZ2 := hide (HZ.out.keep hb2); have f12 := HX2.out.fz 12; have b12 := HX2.out.x.2.2.2.2.2.2.2.2.2.2.2.2.1; have HI2 := hide hI2; have HY2 := hide hy2; have HB2 := hide hb2; have hs2 := hb2.size; have HX2s := hide (HX2.out.set (m' := { m with ea := a1, ec := c1, ma := a2, mn := n2, mc := c2 }) 12 (.slice a2 n2 c2) (by decide) rfl); have b13 := HX2s.out.x.2.2.2.2.2.2.2.2.2.2.2.2.2; have HBw2 := hide ((HB.out.trans (hb2.mono HB.out.size)).setCell (p := ⟨w.heap.size, 12, none⟩) (Nat.le_refl _) (.slice a2 n2 c2)); clear hown2 hI2 hy2 hb2)
        | (go_at_call 30; go_must (refine (cloneB_big m.sa m.sn m.sc m.sd _ (HOk.out.sd.keep HBw2.out).src (by omega)).mono ?_); rintro e w3 ⟨v3, rfl, hown3, hb3⟩; obtain ⟨a3, n3, d3, rfl, hI3, hy3⟩ := slice_of_own hown3 HOk.out.sd.2.2.2.1; have HX3 := hide (HX2s.out.keep hb3); have f13 := HX3.out.fz 13; have b13 := HX3.out.x.2.2.2.2.2.2.2.2.2.2.2.2.2; have HI3 := hide hI3; have HY3 := hide hy3; have HB3 := hide hb3; have hs3 := hb3.size; have HX3s := hide (HX3.out.set (m' := { m with ea := a1, ec := c1, ma := a2, mn := n2, mc := c2, sa := a3, sn := n3, sc := d3 }) 13 (.slice a3 n3 d3) (by decide) rfl); have HZ3s := hide (((HZ2.out.lies (keeps_cell (g := w.heap.size) (i := 12) (.slice a2 n2 c2)) (by omega)).keep hb3).lies (keeps_cell (g := w.heap.size) (i := 13) (.slice a3 n3 d3)) (by omega)); clear hown3 hI3 hy3 hb3)
        | (refine wp_loadG _ rfl (.tmp 1) rfl w.heap.size 0 { m with ea := a1, ec := c1, ma := a2, mn := n2, mc := c2, sa := a3, sn := n3, sc := d3 } rfl HX3s.out.c ?_)
        | (refine wp_storeG _ rfl (.tmp 2) (.tmp 39) rfl (w.heap.size + 1) 0 { m with ea := a1, ec := c1, ma := a2, mn := n2, mc := c2, sa := a3, sn := n3, sc := d3 } rfl rfl HZ3s.out.there ?_; intro w4 hS4; have HS4 := hide hS4; have HZ4 := hide (HZ3s.out.stored hS4); clear hS4))
      obtain ⟨r0, r1, r2, r3, r4, r5, r6, r7, r8, r9, r10, r11, r12, r13⟩ := HZ4.out.x
      refine bodyPost_ret (v := .agg #[.int .i64 m.k, .int .u64 m.fr, .int .u64 m.tt, .int .u64 m.tm, .int .u64 m.ix, .int .u64 m.lt, .int .u64 m.cm, .int .u64 m.hn, .bool m.rj, .slice a1 m.en c1, .int .u64 m.si, .int .u64 m.st, .slice a2 n2 c2, .slice a3 n3 d3]) (by simp [results, Try.results25, go_sem, r0, r1, r2, r3, r4, r5, r6, r7, r8, r9, r10, r11, r12, r13]) rfl ?_
      have hk2 : Keeps (fun k => k = w.heap.size ∨ k = w.heap.size + 1) wr w2 := Below.keeps HB2.out _
      have hk2s := kpSet (i := 12) hk2 (g := w.heap.size) (.inl (.inl rfl)) (.slice a2 n2 c2)
      have hk3 := kpBelow hk2s HB3.out
      have hk3s := kpSet (i := 13) hk3 (g := w.heap.size) (.inl (.inl rfl)) (.slice a3 n3 d3)
      have hk4 := kpThen hk3s (X' := fun k => k = w.heap.size + 1) (fun k e => .inl (.inr e)) HS4.out.kp
      have hk2' : Keeps (fun k => k = w.heap.size ∨ k = w.heap.size + 1) w2 w4 := kpThen (kpSet (i := 13) (kpBelow (kpSet (i := 12) (kpSelf _ w2) (g := w.heap.size) (.inl (.inl rfl)) (.slice a2 n2 c2)) HB3.out) (g := w.heap.size) (.inl (.inl rfl)) (.slice a3 n3 d3)) (X' := fun k => k = w.heap.size + 1) (fun k e => .inl (.inr e)) HS4.out.kp
      have hk3' : Keeps (fun k => k = w.heap.size ∨ k = w.heap.size + 1) w3 w4 := kpThen (kpSet (i := 13) (kpSelf _ w3) (g := w.heap.size) (.inl (.inl rfl)) (.slice a3 n3 d3)) (X' := fun k => k = w.heap.size + 1) (fun k e => .inl (.inr e)) HS4.out.kp
      have hrow4 : RowM w4 (w.heap.size + 2) (.slice a1 m.en c1) cur := by
        refine ⟨HR.out.1, ?_⟩
        rcases HR.out.2 with h0 | ⟨g, cap, cur', hv, hg, hh, hr⟩
        · exact .inl h0
        · exact .inr ⟨g, cap, cur', hv, hg, (hk4.block g (World.ownsRow.lt HR.out g (by rw [hv]; rfl)).2 (by omega)).trans hh, hr⟩
      have hent : ∀ e ∈ cur, e.ok (fun k => k < w.heap.size) w4 := by
        intro e he
        have h1 := all_of_getD (P := fun e => e.ok (fun k => k < w.heap.size + 2 ∨ (Value.slice a1 m.en c1).ownBlock = some k) wr) cur (fun j hj => HDn.out j (by rw [HR.out.len.1] at hj; exact hj)) e he
        exact (h1.lies hk4 (fun k e => .inl (by omega))).more (fun k hk => .inl (.inl (by omega)))
      have hsz : w.heap.size + 2 ≤ wr.heap.size := by omega
      refine ⟨{ m with ea := a1, ec := c1, es := cur, ma := a2, mn := n2, mc := c2, sa := a3, sn := n3, sc := d3 }, rfl, ?_, ⟨HOk.out.k, HOk.out.fr, HOk.out.tt, HOk.out.tm, HOk.out.ix, HOk.out.lt, HOk.out.cm, HOk.out.hn, HOk.out.si, HOk.out.st, hrow4.is hent, .inr (fun y hy e => ?_), HI2.out.lies hk2' (.inr (fun y hy e => ?_)), .inr (fun y hy e => ?_), isB_liesX HI3.out hk3' (.inr (fun y hy e => ?_)), .inr (fun y hy e => ?_)⟩, ?_⟩
      · unfold MMsg.pure
        rw [HE.out]
      · have := HOw.out y hy; omega
      · have := (HY2.out y hy).1; omega
      · have := (HY2.out y hy).1; omega
      · have := HY3.out y hy; simp [World.setCell] at this; omega
      · have := HY3.out y hy; simp [World.setCell] at this; omega
      · exact HB.out.trans (hk4.below (B := w.heap.size) HB.out.size (fun k e => by omega))

end Go.Proofs.Ytodmieehdleohaa
