/- The reference's Append. -/
import Derived.Test.YtfojpengdpnigaaGreatRlRef
import Derived.Deep.RegionHeld
namespace Go.Proofs.YtfojpengdpnigaaGreat
open Go.RowKit NumMath
set_option linter.unusedVariables false
set_option maxRecDepth 100000

theorem fits_wrap {L : LogS} {ms : List MEnt} {len : Nat} (hlen : ms.length = len) (hF : Fits L (ms.map MEnt.e)) (i0 : 0 ≤ L.s.i) (i1 : L.s.i ≤ 9000000000000000000) (hn : L.es.length ≤ 100000) (hl : len ≤ 100000) (j : Nat) (hj : j < len) : (ms.getD j ment0).e.i = IntKind.u64.wrap ((ms.getD 0 ment0).e.i + j) := by
  obtain ⟨f1, f2, f3⟩ := hF
  have := f3 j (by rw [List.length_map]; omega)
  rw [getD_map_e, getD_map_e] at this
  rw [getD_map_e] at f1 f2
  rw [kwrap_u64 _ (by omega) (by omega), this]

theorem fits_of {L : LogS} {ms : List MEnt} {len : Nat} (hlen : ms.length = len) (i0 : 0 ≤ L.s.i) (i1 : L.s.i ≤ 9000000000000000000) (hn : L.es.length ≤ 100000) (hl : len ≤ 100000) (h : ∀ j, j < len → (ms.getD j ment0).e.i = IntKind.u64.wrap ((ms.getD 0 ment0).e.i + j)) (g1 : L.s.i + 1 ≤ (ms.getD 0 ment0).e.i) (g2 : (ms.getD 0 ment0).e.i ≤ L.s.i + L.es.length + 1) : Fits L (ms.map MEnt.e) := by
  refine ⟨by rw [getD_map_e]; exact g1, by rw [getD_map_e]; exact g2, fun j hj => ?_⟩
  rw [List.length_map, hlen] at hj
  rw [getD_map_e, getD_map_e, h j hj, kwrap_u64 _ (by omega) (by omega)]

set_option maxHeartbeats 1000000 in
theorem xapp_no (X : Nat → Prop) (p : Nat) (L : LogS) (a : Option Addr) (len cap : Nat) (ms : List MEnt) (ea : Option Addr) (en ec : Nat) (w : World) (c0 : w.cell? ⟨p, 0, none⟩ = some (.int .u64 L.s.i)) (c4 : w.cell? ⟨p, 4, none⟩ = some (.slice ea en ec)) (hel : L.es.length = en) (hG : L.Good) (hE : IsMs X w a len cap ms) (hl : len ≤ 10000) (hl0 : 0 < len) (hF : ¬ Fits L (ms.map MEnt.e)) :
    Calls Tryz.prog 14 #[.pointer (some ⟨p, 0, none⟩), .slice a len cap] w fun e w' => e = .returned (.int .i64 80) ∧ Below w.heap.size w w' := by
  have hlz : ((len : Int) == 0) = false := by simp; omega
  have hn5 : en ≤ 100000 := by have := hG.n; omega
  have i0 := hG.i0
  have i1 := hG.i1
  have hplt : p < w.heap.size := World.block_lt_of_cell? _ ⟨p, 0, none⟩ c0
  obtain ⟨g, off, rfl, hg, hC⟩ := hE.at hl0
  have hlen := hE.1
  have o0 := (hE.2.2.2.1 _ (ment_mem ms 0 (by omega))).1.1
  obtain ⟨q0, -, -, -⟩ := hC 0 (by omega)
  rw [Nat.zero_mul, Nat.add_zero] at q0
  have HC := hide hC
  have HN : Hid ((∀ j, j < len → (ms.getD j ment0).e.i = IntKind.u64.wrap ((ms.getD 0 ment0).e.i + j)) → (ms.getD 0 ment0).e.i < L.s.i + 1 ∨ L.s.i + en + 1 < (ms.getD 0 ment0).e.i) := fun h => by
    by_cases g1 : (ms.getD 0 ment0).e.i < L.s.i + 1
    · exact .inl g1
    · by_cases g2 : L.s.i + en + 1 < (ms.getD 0 ment0).e.i
      · exact .inr g2
      · exact absurd (fits_of hlen i0 i1 (by omega) (by omega) h (by omega) (by omega)) hF
  have hwl : IntKind.u64.wrap (L.s.i + en + 1) = L.s.i + en + 1 := kwrap_u64 _ (by omega) (by omega)
  have HLen := hide hlen
  clear hE hC hF hel hG hlen
  generalize hf : (ms.getD 0 ment0).e.i = f at *
  have HFv := hide hf
  clear hf
  go_enter Tryz.func14, Tryz.ntmps14
  go_wp2
  go_loopw [14] (fun i wr => ∃ k : Nat, k ≤ len ∧ i = .int .i64 k ∧ (∀ j, j < k → (ms.getD j ment0).e.i = IntKind.u64.wrap (f + j)) ∧ Below w.heap.size w wr) (fun i _ => len - (intOf i).toNat)
  case atStart => exact ⟨0, Nat.zero_le _, rfl, by intro j hj; omega, Below.refl _ _⟩
  case round =>
    obtain ⟨k, hk, rfl, hdone, hb⟩ := hrel
    have HDn := hide hdone
    clear hdone
    have q0r := (hb.cell (p := ⟨g, off, none⟩) hg).trans q0
    by_cases hlt : k < len
    · obtain ⟨qk, -, -, -⟩ := (HC.out k (by have := HLen.out; omega)).same (hb.block g hg)
      have hck := kwrap_u64 (k : Int) (by omega) (by omega)
      by_cases hfe : (ms.getD k ment0).e.i = IntKind.u64.wrap (f + k)
      · have HFe := hide hfe
        rw [hfe] at qk
        clear hfe
        go_wp2
        go_region
        all_goals
          go_wp2
          go_roundw
          case rel => exact ⟨k + 1, by omega, by go_num, fun j hj => (by by_cases hjk : j = k; (subst hjk; exact HFe.out); exact HDn.out j (by omega)), hb.drew⟩
          case measure => simp [intOf]; omega
      · generalize (ms.getD k ment0).e.i = fk at *
        have hb2 : (fk != IntKind.u64.wrap (f + (k : Int))) = true := by simp [hfe]
        go_wp2
        go_region
        all_goals
          go_wp2
          go_ret
          exact ⟨rfl, hb.drew⟩
    · have hkl : k = len := by omega
      subst hkl
      have c0r := (hb.cell (p := ⟨p, 0, none⟩) hplt).trans c0
      have c4r := (hb.cell (p := ⟨p, 4, none⟩) hplt).trans c4
      rcases HN.out HDn.out with g1 | g1
      · have hd1 : decide (f < L.s.i + 1) = true := decide_eq_true g1
        go_wp2
        go_quiet (first | (go_at_call 42; refine Calls.quiet_of_same (xfirst_any p L.s.i _ (by exact c0r) i0 i1)))
        go_wp2
        go_ret
        exact ⟨rfl, hb.trans ⟨rfl, rfl, rfl, Nat.le_refl _, fun _ _ => rfl⟩⟩
      · have hd1 : decide (f < L.s.i + 1) = false := decide_eq_false (by omega)
        have hd2 : decide (L.s.i + (en : Int) + 1 < f) = true := decide_eq_true g1
        go_wp2
        go_quiet (first
          | (go_at_call 42; refine Calls.quiet_of_same (xfirst_any p L.s.i _ (by exact c0r) i0 i1))
          | (go_at_call 43; refine Calls.quiet_of ((xlast_any p L.s.i ea en ec _ (by exact c0r) (by exact c4r) i0 i1 hn5).mono (fun e w' h => ⟨h.1, 1, h.2⟩))))
        go_wp2
        go_ret
        exact ⟨rfl, hb.trans ⟨rfl, rfl, rfl, Nat.le_refl _, fun _ _ => rfl⟩⟩

theorem SPost.drewN {i : Nat} {w w1 : World} {p : Nat} (h : SPost i w p w1) (n : Nat) : SPost i w p (w1.drewN n) := ⟨⟨h.1.os, h.1.tape, h.1.output, h.1.size, h.1.block⟩, h.2⟩

theorem spost_set5N {W : World} {p : Nat} {v : Value} (h : SPost 4 W p (W.setCell ⟨p, 5, none⟩ v)) (n : Nat) : SPost 4 (W.drewN n) p ((W.drewN n).setCell ⟨p, 5, none⟩ v) :=
  ⟨⟨rfl, rfl, rfl, h.1.size, h.1.block⟩, h.2⟩

set_option maxHeartbeats 1500000 in
theorem xapp_any (X : Nat → Prop) (base p : Nat) (L : LogS) (a : Option Addr) (len cap : Nat) (ms : List MEnt) (w : World) (h : IsL X w base p L) (hG : L.Good) (hE : IsMs X w a len cap ms) (ha : len = 0 ∨ ∀ y, a = some y → y.block ≠ p) (hl : len ≤ 10000) (hL : L.es.length ≤ 50000) (hXlt : ∀ k, X k → k < w.heap.size) (hbase : base ≤ w.heap.size) :
    Calls Tryz.prog 14 #[.pointer (some ⟨p, 0, none⟩), .slice a len cap] w fun e w' => e = .returned (.int .i64 (appL L (ms.map MEnt.e)).1) ∧ IsL (fun k => X k ∨ SB 4 w' p k) w' base p (appL L (ms.map MEnt.e)).2 ∧ SPost 4 w p w' := by
  have H := hide h
  have HE := hide hE
  have hplt := h.at
  have hSX : Hid (∀ k, SB 4 w p k → X k) := fun k hk => (h.lt hk).2.2
  obtain ⟨ma, mn, mc, da, dn, dc, ea, en, ec, es, c0, c1, c2, c3, c4, c5, c6, hf, hm, hd', hr, he, ho, hp, hn, hx, hx4⟩ := h
  have hen := hr.len.1
  have hel : L.es.length = en := by rw [← he, List.length_map, hen]
  have i0 := hG.i0
  have i1 := hG.i1
  have hlen := hE.1
  have HL := hide (fun (w1 : World) (hb1 : Below w.heap.size w w1) => (H.out.keep hb1).more (Y := fun k => X k ∨ SB 4 w1 p k) (fun k hk => hk.elim .inl (fun h => .inl (hSX.out k (h.same (hb1.block p hplt))))) (fun k hk => .inr hk))
  by_cases hl0 : len = 0
  · subst hl0
    have hms : ms = [] := List.length_eq_zero_iff.1 hlen
    subst hms
    rw [List.map_nil, appL_nil]
    clear hm hd' hr he ho hn hx hx4 hf hlen hE ha
    go_enter Tryz.func14, Tryz.ntmps14
    go_wp2
    go_ret
    exact ⟨rfl, HL.out _ (Below.refl _ _), SPost.refl _ _ _⟩
  have hl0' : 0 < len := by omega
  have HNe := hide (es_ne hlen hl0')
  by_cases hF : ¬ Fits L (ms.map MEnt.e)
  · rw [appL_no HNe.out hF]
    refine (xapp_no X p L a len cap ms ea en ec w c0 c4 hel hG hE hl hl0' hF).mono ?_
    rintro e w1 ⟨rfl, hb1⟩
    exact ⟨rfl, HL.out _ hb1, SPost.of_below hplt hb1⟩
  have hF := Classical.not_not.1 hF
  have hlz : ((len : Int) == 0) = false := by simp; omega
  obtain ⟨g, off, hga, hg, hC⟩ := hE.at hl0'
  subst hga
  have hgp : g ≠ p := by
    rcases ha with ha | ha
    · omega
    · exact ha _ rfl
  obtain ⟨q0, -, -, -⟩ := hC 0 (by omega)
  rw [Nat.zero_mul, Nat.add_zero] at q0
  have HApp := hide (appL_yes HNe.out hF)
  have HW : Hid (∀ j, j < len → (ms.getD j ment0).e.i = IntKind.u64.wrap ((ms.getD 0 ment0).e.i + j)) := fun j hj => fits_wrap hlen hF i0 i1 (by omega) (by omega) j hj
  have f1 := hF.1
  have f2 := hF.2.1
  rw [getD_map_e] at f1 f2
  rw [getD_map_e] at HApp
  generalize hv0 : (ms.getD 0 ment0).e.i = f at *
  obtain ⟨k0, hk0⟩ : ∃ k0 : Nat, f = L.s.i + 1 + k0 := ⟨(f - (L.s.i + 1)).toNat, by omega⟩
  have hkn : (f - (L.s.i + 1)).toNat = k0 := by omega
  rw [hkn] at HApp
  have hke : k0 ≤ en := by omega
  have hn5 : en ≤ 50000 := by omega
  have hwl : IntKind.u64.wrap (L.s.i + en + 1) = L.s.i + en + 1 := kwrap_u64 _ (by omega) (by omega)
  have hd1 : decide (f < L.s.i + 1) = false := decide_eq_false (by omega)
  have hd2 : decide (L.s.i + (en : Int) + 1 < f) = false := decide_eq_false (by omega)
  have HC := hide hC
  have HLen := hide hlen
  have HM := hide hm
  have HD := hide hd'
  have HR := hide hr
  have HO := hide ho
  have HN := hide hn
  have HX4 := hide hx4
  have HEs := hide he
  have HEn := hide hen
  have HK0 := hide hk0
  have H70 : Hid (Cells7 w p _ _ _ _ _ _ _) := ⟨c0, c1, c2, c3, c4, c5, c6, hf⟩
  have HIs := hide (hr.is ho)
  have HAt : Hid (∀ j, j < en → (es.getD j ment0).e.i = L.s.i + 1 + j) := fun j hj => by rw [← getD_map_e, he]; exact hG.at_ j (by omega)
  obtain ⟨z, y, hz, hy⟩ : ∃ z y : Bool, (L.dirty == 0) = z ∧ decide (f < L.dirty) = y := ⟨_, _, rfl, rfl⟩
  clear hm hd' hr ho hn hx4 hf hlen hE ha hC hv0 he hF hkn f1 f2 hk0 hel hen hG
  go_enter Tryz.func14, Tryz.ntmps14
  go_wp2
  go_loopw [14] (fun i wr => ∃ k : Nat, k ≤ len ∧ i = .int .i64 k ∧ Below w.heap.size w wr) (fun i _ => len - (intOf i).toNat)
  case atStart => exact ⟨0, Nat.zero_le _, rfl, Below.refl _ _⟩
  case round =>
    obtain ⟨k, hk, rfl, hb⟩ := hrel
    have q0r := (hb.cell (p := ⟨g, off, none⟩) hg).trans q0
    by_cases hlt : k < len
    · obtain ⟨qk, -, -, -⟩ := (HC.out k (by have := HLen.out; omega)).same (hb.block g hg)
      have hck := kwrap_u64 (k : Int) (by omega) (by omega)
      rw [HW.out k hlt] at qk
      go_wp2
      go_region
      all_goals
        go_wp2
        go_roundw
        case rel => exact ⟨k + 1, by omega, by go_num, hb.drew⟩
        case measure => simp [intOf]; omega
    · have hkl : k = len := by omega
      subst hkl
      have c0r := (hb.cell (p := ⟨p, 0, none⟩) hplt).trans c0
      have c4r := (hb.cell (p := ⟨p, 4, none⟩) hplt).trans c4
      go_wp2
      go_quiet (first
        | (go_at_call 42; refine Calls.quiet_of_same (xfirst_any p L.s.i _ (by exact c0r) i0 i1))
        | (go_at_call 43; refine Calls.quiet_of ((xlast_any p L.s.i ea en ec _ (by exact c0r) (by exact c4r) i0 i1 (by omega)).mono (fun e w' h => ⟨h.1, 1, h.2⟩))))
      have hb' : Below w.heap.size w (wr.drewN nq) := hb.trans ⟨rfl, rfl, rfl, Nat.le_refl _, fun _ _ => rfl⟩
      go_wp2
      go_loopw [6, 53] (fun v i wr => ∃ j : Nat, j ≤ en ∧ i = .int .i64 j ∧ RowM wr w.heap.size v (es.take (min j k0)) ∧ Below w.heap.size w wr) (fun _ i _ => en - (intOf i).toNat)
      case atStart => exact ⟨0, Nat.zero_le _, rfl, by simp; exact rowM_nil _ _, hb'⟩
      case round =>
        clear hb' hb c0r c4r q0r hk
        obtain ⟨j, hj, rfl, hrow, hb⟩ := hrel
        have HRw := hide hrow
        have hsz := hb.size
        obtain ⟨va, vn, vc, rfl⟩ := hrow.any3
        have hvn := hrow.len.1
        rw [List.length_take, HEn.out] at hvn
        clear hrow
        have q0r := (hb.cell (p := ⟨g, off, none⟩) hg).trans q0
        by_cases hlt : j < en
        · obtain ⟨ge, offe, rfl, hge, hCe⟩ := HIs.out.at hlt
          obtain ⟨r0, r1, r2, r3⟩ := (hCe j (by have := HEn.out; omega)).same (hb.block ge hge)
          have ei := HAt.out j hlt
          have H1 := hide (fun (o : Obj) (o2 : Obj) (n : Nat) => (show Below wr.heap.size wr (((wr.alloc o).drewN n).alloc o2) from ((new_below wr o).trans (⟨rfl, rfl, rfl, Nat.le_refl _, fun _ _ => rfl⟩ : Below _ (wr.alloc o) ((wr.alloc o).drewN n))).trans ((new_below _ _).mono (by simp))))
          have H3 := hide (fun (o : Obj) (n : Nat) => (show Below wr.heap.size wr ((wr.alloc o).drewN n) from ((new_below wr o).trans (⟨rfl, rfl, rfl, Nat.le_refl _, fun _ _ => rfl⟩ : Below _ (wr.alloc o) ((wr.alloc o).drewN n)))))
          have q0s := fun (ty : TypeId) (o : Array Value) => ((new_below (o := .cells o ty) wr).cell (p := ⟨g, off, none⟩) (Nat.lt_of_lt_of_le hg hsz)).trans q0r
          by_cases hjk : j < k0
          · have hd1 : ((es.getD j ment0).e.i < f) = True := eq_true (by rw [ei, HK0.out]; omega)
            have HEq : Hid (es.take (min (j + 1) k0) = es.take (min j k0) ++ [es.getD j ment0]) := by
              show _ = _
              rw [show min (j + 1) k0 = j + 1 by omega, show min j k0 = j by omega]
              exact take_succ_m es j (by have := HEn.out; omega)
            have HSrc := hide (fun (W : World) ty g hg => cellsM_box W (es.getD j ment0) ty g hg)
            generalize es.getD j ment0 = m at *
            obtain ⟨⟨mi, mt, mk, md⟩, mb, mn', mc'⟩ := m
            dsimp only at r0 r1 r2 r3 hd1 HSrc
            have hd2 : decide (mi < f) = true := by simp [hd1]
            have HVl := hide hvn
            clear ei hvn hCe
            go_wp2
            go_quiet (first | fail)
            go_wp2_with (first
              | (at_builtin; go_must (refine wp_joinM _ rfl (.tmp 64) (.tmp 66) rfl w.heap.size _ _ rfl (HRw.out.keep (by exact H1.out _ _ _)) (some ⟨wr.heap.size + 1, 0, none⟩) 1 1 [⟨⟨mi, mt, mk, md⟩, mb, mn', mc'⟩] rfl (HSrc.out _ _ _ (by simp)) (by rw [List.length_take, HEn.out]; simp; omega) (by simp; omega) ?_); intro v5 w5 hr5 hg5 hat5; have HR5 := hide hr5; have hb5 : Below w.heap.size w w5 := hb.trans (((H1.out _ _ _).mono hb.size).trans ((HRw.out.keep (H1.out _ _ _)).grown hg5 (by simp; omega))); clear hr5 hg5 hat5))
            go_roundw
            case rel => exact ⟨j + 1, by omega, by go_num, by rw [HEq.out]; exact HR5.out, hb5⟩
            case measure => simp [intOf]; omega
          · have hd1 : ((es.getD j ment0).e.i < f) = False := eq_false (by rw [ei, HK0.out]; omega)
            have HEq : Hid (es.take (min (j + 1) k0) = es.take (min j k0)) := by
              show _ = _
              rw [show min (j + 1) k0 = k0 by omega, show min j k0 = k0 by omega]
            generalize es.getD j ment0 = m at *
            obtain ⟨⟨mi, mt, mk, md⟩, mb, mn', mc'⟩ := m
            dsimp only at r0 r1 r2 r3 hd1
            have hd2 : decide (mi < f) = false := by simp [hd1]
            clear ei hvn hCe
            go_wp2
            go_quiet (first | fail)
            go_wp2
            go_roundw
            case rel => exact ⟨j + 1, by omega, by go_num, by rw [HEq.out]; exact HRw.out.keep (H3.out _ _), hb.trans ((H3.out _ _).mono hb.size)⟩
            case measure => simp [intOf]; omega
        · have hjn : j = en := by omega
          subst hjn
          have H71 := hide (H70.out.same (hb.block p hplt))
          have HE1 := hide (HE.out.keep hb)
          have HTl : Hid ((es.take k0).length = k0) := by show _ = _; rw [List.length_take, HEn.out]; omega
          have hmk : min j k0 = k0 := by omega
          rw [hmk] at HRw
          have HNp : Hid (some p ≠ (Value.slice va vn vc).ownBlock) := fun e => by have := (HRw.out.lt p e.symm).1; omega
          have HNg : Hid (some g ≠ (Value.slice va vn vc).ownBlock) := fun e => by have := (HRw.out.lt g e.symm).1; omega
          clear hvn hmk
          go_wp2_with (first
            | (at_builtin; go_must (refine wp_joinM _ rfl (.tmp 70) (.tmp 71) rfl w.heap.size _ _ rfl HRw.out (some ⟨g, off, none⟩) _ _ ms rfl HE1.out.src (by rw [HTl.out, HLen.out]; omega) hsz ?_); intro v5 w5 hr5 hg5 hat5; have HR5 := hide hr5; have HG5 := hide hg5; have HA5 := hide hat5; obtain ⟨a5, n5, d5, rfl⟩ := hr5.any3; have H75 := hide (H71.out.same (hg5.block p (Nat.lt_of_lt_of_le hplt hsz) HNp.out)); have c45 := H75.out.2.2.2.2.1; have f45 := H75.out.2.2.2.2.2.2.2 4; have c55 := (H75.out.set4 (.slice a5 n5 d5)).2.2.2.2.2.1; have f55 := (H75.out.set4 (.slice a5 n5 d5)).2.2.2.2.2.2.2 5; have q05 : (w5.setCell ⟨p, 4, none⟩ (.slice a5 n5 d5)).cell? ⟨g, off, none⟩ = some (.int .u64 f) := (World.cell?_of_block (a := ⟨g, off, none⟩) (Below.heap_setCell _ _ _ _ hgp)).trans ((World.cell?_of_block (a := ⟨g, off, none⟩) (hg5.block g (Nat.lt_of_lt_of_le hg hsz) HNg.out)).trans q0r); clear hr5 hg5 hat5))
          have hat4 : ∀ k, (Value.slice a5 n5 d5).ownBlock = some k → w.heap.size ≤ k := fun k hk => (HR5.out.lt k hk).1
          have hb5 : Below w.heap.size w w5 := hb.trans (HRw.out.grown HG5.out hsz)
          have hok3 : ∀ m ∈ es.take k0 ++ ms, m.ok (fun k => X k ∨ (Value.slice a5 n5 d5).ownBlock = some k) w5 := by
            intro m hm
            have hm2 : m.ok X w := (List.mem_append.1 hm).elim (fun hm => HO.out m (List.mem_of_mem_take hm)) (fun hm => HE.out.2.2.2.1 m hm)
            refine MEnt.ok.keep (MEnt.ok.more (X := X) hm2 ?_) hb5
            rintro k (hk | hk)
            · exact .inl hk
            · exact .inr (hat4 k hk)
          obtain ⟨x0, x1, x2, x3, x4, x5, x6, xf⟩ := H75.out
          have HP := hide (isL_set4 (X := X) (w := w) (w1 := w5) (base := base) (L := L) (Below.keeps hb5 _) hSX.out hplt hp x0 x1 x2 x3 x4 x5 x6 xf HM.out HD.out (HR5.out.mono hbase) hok3 (fun k hk => .inr (hat4 k hk)))
          have HQ := hide (isL_set5 HP.out.1 f)
          have HEq : Hid ((es.take k0 ++ ms).map MEnt.e = L.es.take k0 ++ ms.map MEnt.e) := by show _ = _; rw [List.map_append, List.map_take, HEs.out]
          clear hok3 hat4 x0 x1 x2 x3 x4 x5 x6 xf
          cases z
          · cases y
            · have hdo := dirty_old (y := L.dirty) (f := f) (by simp at hz; exact hz) (by simp at hy; exact hy)
              have HL' := hide (app_fin0 HP.out.1 HEq.out hdo)
              clear hdo
              go_wp2
              go_quiet (first | fail)
              go_wp2
              go_ret
              rw [HApp.out]
              exact ⟨rfl, HL'.out.drew, HP.out.2.drewN nq⟩
            · have hdo := dirty_new (y := L.dirty) (f := f) (by simp at hy; exact .inr hy)
              have HL' := hide (app_fin1 HP.out.1 HEq.out hdo)
              clear hdo
              go_wp2
              go_quiet (first | fail)
              go_wp2
              go_ret
              rw [HApp.out]
              exact ⟨rfl, HL'.out, (HP.out.2.drewN nq).trans (spost_set5N HQ.out.2 nq)⟩
          · have hdo := dirty_new (y := L.dirty) (f := f) (by simp at hz; exact .inl hz)
            have HL' := hide (app_fin1 HP.out.1 HEq.out hdo)
            clear hdo
            go_wp2
            go_quiet (first | fail)
            go_wp2
            go_ret
            rw [HApp.out]
            exact ⟨rfl, HL'.out, (HP.out.2.drewN nq).trans (spost_set5N HQ.out.2 nq)⟩

end Go.Proofs.YtfojpengdpnigaaGreat
