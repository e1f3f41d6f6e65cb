/- The log's First, Last, has, at, Term, Snap, Dirty, Clean, fit. -/
import Derived.Test.YtfojpengdpnigaaGreatRl1
namespace Go.Proofs.YtfojpengdpnigaaGreat
open Go.RowKit NumMath
set_option linter.unusedVariables false
set_option maxRecDepth 100000

theorem orE_any (p : Nat) (w : World) :
    Calls Tryz.prog 36 #[.pointer (some ⟨p, 0, none⟩)] w fun e w' => e = .returned (.pointer (some ⟨p, 0, none⟩)) ∧ w' = w := by
  go_enter Tryz.func36, Tryz.ntmps36
  go_wp2
  go_ret
  exact ⟨rfl, rfl⟩

theorem kwrap_u64 (n : Int) (h1 : 0 ≤ n) (h2 : n ≤ 18446744073709551615) : IntKind.u64.wrap n = n := by
  simp [IntKind.wrap, IntKind.bits, IntKind.signed]
  omega

theorem first_any (p : Nat) (i : Int) (w : World) (c0 : w.cell? ⟨p, 0, none⟩ = some (.int .u64 i)) (h0 : 0 ≤ i) (h1 : i ≤ 9000000000000000000) :
    Calls Tryz.prog 33 #[.pointer (some ⟨p, 0, none⟩)] w fun e w' => e = .returned (.int .u64 (i + 1)) ∧ w' = w := by
  have hk := kwrap_u64 (i + 1) (by omega) (by omega)
  go_enter Tryz.func33, Tryz.ntmps33
  go_wp2_with (first
    | (go_at_call 36; refine (orE_any p _).mono ?_; rintro e w' ⟨rfl, hw⟩; have hw := hw.symm; subst hw))
  go_ret
  exact ⟨rfl, rfl⟩

theorem last_any (p : Nat) (i : Int) (a : Option Addr) (n c : Nat) (w : World) (c0 : w.cell? ⟨p, 0, none⟩ = some (.int .u64 i)) (c4 : w.cell? ⟨p, 4, none⟩ = some (.slice a n c)) (h0 : 0 ≤ i) (h1 : i ≤ 9000000000000000000) (hn : n ≤ 100000) :
    Calls Tryz.prog 81 #[.pointer (some ⟨p, 0, none⟩)] w fun e w' => e = .returned (.int .u64 (i + n)) ∧ w' = w.drew := by
  have hk := kwrap_u64 (i + n) (by omega) (by omega)
  have hk2 := kwrap_u64 (n : Int) (by omega) (by omega)
  go_enter Tryz.func81, Tryz.ntmps81
  go_wp2_with (first
    | (go_at_call 36; refine (orE_any p _).mono ?_; rintro e w' ⟨rfl, hw⟩; have hw := hw.symm; subst hw))
  go_region
  all_goals
    go_wp2
    go_ret
    exact ⟨rfl, rfl⟩

theorem xfirst_any (p : Nat) (i : Int) (w : World) (c0 : w.cell? ⟨p, 0, none⟩ = some (.int .u64 i)) (h0 : 0 ≤ i) (h1 : i ≤ 9000000000000000000) :
    Calls Tryz.prog 42 #[.pointer (some ⟨p, 0, none⟩)] w fun e w' => e = .returned (.int .u64 (i + 1)) ∧ w' = w := by
  have hk := kwrap_u64 (i + 1) (by omega) (by omega)
  go_enter Tryz.func42, Tryz.ntmps42
  go_wp2
  go_ret
  exact ⟨rfl, rfl⟩

theorem xlast_any (p : Nat) (i : Int) (a : Option Addr) (n c : Nat) (w : World) (c0 : w.cell? ⟨p, 0, none⟩ = some (.int .u64 i)) (c4 : w.cell? ⟨p, 4, none⟩ = some (.slice a n c)) (h0 : 0 ≤ i) (h1 : i ≤ 9000000000000000000) (hn : n ≤ 100000) :
    Calls Tryz.prog 43 #[.pointer (some ⟨p, 0, none⟩)] w fun e w' => e = .returned (.int .u64 (i + n)) ∧ w' = w.drew := by
  have hk := kwrap_u64 (i + n) (by omega) (by omega)
  have hk2 := kwrap_u64 (n : Int) (by omega) (by omega)
  go_enter Tryz.func43, Tryz.ntmps43
  go_wp2
  go_region
  all_goals
    go_wp2
    go_ret
    exact ⟨rfl, rfl⟩

theorem has_low (p : Nat) (i x : Int) (w : World) (c0 : w.cell? ⟨p, 0, none⟩ = some (.int .u64 i)) (h0 : 0 ≤ i) (h1 : i ≤ 9000000000000000000) (hx : x < i + 1) :
    Calls Tryz.prog 38 #[.pointer (some ⟨p, 0, none⟩), .int .u64 x] w fun e w' => e = .returned (.bool false) ∧ w' = w := by
  have hd : decide (i + 1 ≤ x) = false := decide_eq_false (by omega)
  go_enter Tryz.func38, Tryz.ntmps38
  go_wp2_with (first
    | (go_at_call 33; refine (first_any p i _ c0 h0 h1).mono ?_; rintro e w' ⟨rfl, hw⟩; have hw := hw.symm; subst hw))
  go_ret
  exact ⟨rfl, rfl⟩

theorem has_in (p : Nat) (i x : Int) (a : Option Addr) (n c : Nat) (b : Bool) (w : World) (c0 : w.cell? ⟨p, 0, none⟩ = some (.int .u64 i)) (c4 : w.cell? ⟨p, 4, none⟩ = some (.slice a n c)) (h0 : 0 ≤ i) (h1 : i ≤ 9000000000000000000) (hn : n ≤ 100000) (hx : i + 1 ≤ x) (hb : decide (x ≤ i + n) = b) :
    Calls Tryz.prog 38 #[.pointer (some ⟨p, 0, none⟩), .int .u64 x] w fun e w' => e = .returned (.bool b) ∧ w' = w.drew := by
  have hd : decide (i + 1 ≤ x) = true := decide_eq_true hx
  go_enter Tryz.func38, Tryz.ntmps38
  go_wp2_with (first
    | (go_at_call 81; go_must (refine (last_any p i a n c _ c0 c4 h0 h1 hn).mono ?_); rintro e w' ⟨rfl, hw⟩; have hw := hw.symm; subst hw)
    | (go_at_call 33; refine (first_any p i _ c0 h0 h1).mono ?_; rintro e w' ⟨rfl, hw⟩; have hw := hw.symm; subst hw))
  go_ret
  exact ⟨rfl, rfl⟩

theorem at_any (p : Nat) (i x : Int) (k : Nat) (w : World) (c0 : w.cell? ⟨p, 0, none⟩ = some (.int .u64 i)) (h0 : 0 ≤ i) (h1 : i ≤ 9000000000000000000) (hk : k ≤ 100000) (hx : x = i + 1 + k) :
    Calls Tryz.prog 40 #[.pointer (some ⟨p, 0, none⟩), .int .u64 x] w fun e w' => e = .returned (.int .i64 (k : Int)) ∧ w' = w := by
  have e1 : x - (i + 1) = (k : Int) := by omega
  have e2 := kwrap_u64 (k : Int) (by omega) (by omega)
  have e3 : wrap64 (k : Int) = (k : Int) := by unfold wrap64; omega
  have e4 : IntKind.i64.wrap (k : Int) = (k : Int) := by simp [IntKind.wrap, IntKind.bits, IntKind.signed]; omega
  go_enter Tryz.func40, Tryz.ntmps40
  go_wp2_with (first
    | (go_at_call 33; refine (first_any p i _ c0 h0 h1).mono ?_; rintro e w' ⟨rfl, hw⟩; have hw := hw.symm; subst hw))
  go_ret
  exact ⟨by simp; omega, rfl⟩

theorem dirty_any (p : Nat) (y : Int) (b : Bool) (w : World) (c5 : w.cell? ⟨p, 5, none⟩ = some (.int .u64 y)) (c6 : w.cell? ⟨p, 6, none⟩ = some (.bool b)) :
    Calls Tryz.prog 75 #[.pointer (some ⟨p, 0, none⟩)] w fun e w' => e = .returned (.tuple #[.int .u64 y, .bool b]) ∧ w' = w.drew := by
  go_enter Tryz.func75, Tryz.ntmps75
  go_wp2_with (first
    | (go_at_call 36; refine (orE_any p _).mono ?_; rintro e w' ⟨rfl, hw⟩; have hw := hw.symm; subst hw))
  go_region
  all_goals
    go_wp2
    go_ret2
    exact ⟨rfl, rfl⟩

/-- stores into the log's block, but not into the field of the entries -/
theorem spost_set {w : World} {p i : Nat} (hi : i ≠ 4) (v : Value) : SPost 4 w p (w.setCell ⟨p, i, none⟩ v) := by
  refine ⟨⟨rfl, rfl, rfl, by simp [World.setCell], fun k hk hn => Below.heap_setCell _ _ _ _ (fun e => hn (.inl e))⟩, ?_⟩
  rintro k (rfl | ⟨u, hu, hb⟩)
  · exact .inl (.inl rfl)
  · rw [cell_set_off _ _ _ _ _ hi] at hu
    exact .inl (.inr ⟨u, hu, hb⟩)

/-- the same log with other numbers, behind stores into its block alone -/
theorem isL_again {X : Nat → Prop} {w w' : World} {base p : Nat} {L' : LogS} {ma : Option Addr} {mn mc : Nat} {da : Option Addr} {dn dc : Nat} {ea : Option Addr} {en ec : Nat} {ms : List MEnt}
    (hk : Keeps (fun k => k = p) w w') (c0 : w'.cell? ⟨p, 0, none⟩ = some (.int .u64 L'.s.i)) (c1 : w'.cell? ⟨p, 1, none⟩ = some (.int .u64 L'.s.t)) (c2 : w'.cell? ⟨p, 2, none⟩ = some (.slice ma mn mc)) (c3 : w'.cell? ⟨p, 3, none⟩ = some (.slice da dn dc)) (c4 : w'.cell? ⟨p, 4, none⟩ = some (.slice ea en ec)) (c5 : w'.cell? ⟨p, 5, none⟩ = some (.int .u64 L'.dirty)) (c6 : w'.cell? ⟨p, 6, none⟩ = some (.bool L'.fresh)) (hf : ∀ i, w'.frozen? ⟨p, i, none⟩ = false)
    (hm : NumX X w ma mn mc L'.s.m) (hd : DatB X w da dn dc L'.s.d) (hr : RowM w base (.slice ea en ec) ms) (he : ms.map MEnt.e = L'.es) (ho : ∀ m ∈ ms, m.ok X w) (hp : base ≤ p) (hn : some p ≠ (Value.slice ea en ec).ownBlock) (hx : X p) (hx4 : ∀ k, (Value.slice ea en ec).ownBlock = some k → X k) : IsL X w' base p L' := by
  have hM : ∀ k, k = p → X k := fun k e => by rw [e]; exact hx
  refine ⟨ma, mn, mc, da, dn, dc, ea, en, ec, ms, c0, c1, c2, c3, c4, c5, c6, hf, hm.lies hk hM, hd.lies hk hM, hr.lies ?_, he, fun m hm => (ho m hm).lies hk hM, hp, hn, hx, hx4⟩
  intro g hg
  exact hk.block g (hr.lt g hg).2 (fun e => hn (by rw [hg, e]))

/-- all is old -/
def LogS.clean (L : LogS) : LogS := ⟨L.s, L.es, 0, false⟩

set_option maxHeartbeats 1000000 in
theorem clean_any (X : Nat → Prop) (base p : Nat) (L : LogS) (w : World) (h : IsL X w base p L) :
    Calls Tryz.prog 15 #[.pointer (some ⟨p, 0, none⟩)] w fun e w' => e = .returned (.tuple #[]) ∧ IsL X w' base p L.clean ∧ SPost 4 w p w' := by
  obtain ⟨ma, mn, mc, da, dn, dc, ea, en, ec, ms, c0, c1, c2, c3, c4, c5, c6, hf, hm, hd, hr, he, ho, hp, hn, hx, hx4⟩ := h
  have f5 := hf 5
  have f6 := hf 6
  have hk : Keeps (fun k => k = p) w ((w.setCell ⟨p, 5, none⟩ (.int .u64 0)).setCell ⟨p, 6, none⟩ (.bool false)) := ((Keeps.self _ w).also _).also _
  have HP := hide ((spost_set (w := w) (p := p) (i := 5) (by decide) (.int .u64 0)).trans (spost_set (p := p) (i := 6) (by decide) (.bool false)))
  have HL : Hid (IsL X ((w.setCell ⟨p, 5, none⟩ (.int .u64 0)).setCell ⟨p, 6, none⟩ (.bool false)) base p L.clean) := isL_again (L' := L.clean) hk
    (by rw [cell_set_off _ _ _ _ _ (by decide), cell_set_off _ _ _ _ _ (by decide)]; exact c0) (by rw [cell_set_off _ _ _ _ _ (by decide), cell_set_off _ _ _ _ _ (by decide)]; exact c1) (by rw [cell_set_off _ _ _ _ _ (by decide), cell_set_off _ _ _ _ _ (by decide)]; exact c2) (by rw [cell_set_off _ _ _ _ _ (by decide), cell_set_off _ _ _ _ _ (by decide)]; exact c3) (by rw [cell_set_off _ _ _ _ _ (by decide), cell_set_off _ _ _ _ _ (by decide)]; exact c4)
    (by rw [cell_set_off _ _ _ _ _ (by decide)]; exact World.cell?_setCell_same _ _ _ c5) (World.cell?_setCell_same _ _ _ ((cell_set_off _ _ _ _ _ (by decide)).trans c6)) (fun i => by simp [hf]) hm hd hr he ho hp hn hx hx4
  clear hf hm hd hr he ho hn hx hx4 hk
  go_enter Tryz.func15, Tryz.ntmps15
  go_wp2
  go_end0
  exact ⟨rfl, HL.out, HP.out⟩

/-- nothing but a draw -/
def Calm (w w' : World) : Prop := w' = w ∨ w' = w.drew

/-- the answer b says whether P holds -/
def Tells (b : Bool) (P : Prop) : Prop := b = true ↔ P

theorem tells_no {P : Prop} (h : ¬ P) : Tells false P := ⟨fun h => (by cases h), fun x => absurd x h⟩
theorem tells_yes {P : Prop} (h : P) : Tells true P := ⟨fun _ => h, fun _ => rfl⟩

/-- where the answer is true something was drawn -/
def Drawn (b : Bool) (w w' : World) : Prop := b = true → w' = w.drew

theorem drawn_no (w w' : World) : Drawn false w w' := fun h => (by cases h)
theorem drawn_yes (w : World) : Drawn true w w.drew := fun _ => rfl

/-- the entries es fit behind, or into, the log -/
def Fits (L : LogS) (es : List Ent) : Prop := L.s.i + 1 ≤ (es.getD 0 ent0).i ∧ (es.getD 0 ent0).i ≤ L.s.i + L.es.length + 1 ∧ ∀ j, j < es.length → (es.getD j ent0).i = (es.getD 0 ent0).i + j

theorem getD_map_e (ms : List MEnt) (j : Nat) : (ms.map MEnt.e).getD j ent0 = (ms.getD j ment0).e := by
  simp only [List.getD, List.getElem?_map]
  cases ms[j]? <;> rfl

set_option maxHeartbeats 2000000 in
theorem fit_any (p : Nat) (L : LogS) (a' : Option Addr) (n' c' : Nat) (X : Nat → Prop) (a : Option Addr) (len cap : Nat) (ms : List MEnt) (w : World) (c0 : w.cell? ⟨p, 0, none⟩ = some (.int .u64 L.s.i)) (c4 : w.cell? ⟨p, 4, none⟩ = some (.slice a' n' c')) (h0 : 0 ≤ L.s.i) (h1 : L.s.i ≤ 9000000000000000000) (hn : L.es.length = n') (hn' : n' ≤ 100000) (h : IsMs X w a len cap ms) (hl0 : 0 < len) (hl : len ≤ 100000) :
    Calls Tryz.prog 37 #[.pointer (some ⟨p, 0, none⟩), .slice a len cap] w fun e w' => ∃ b, e = .returned (.bool b) ∧ Tells b (Fits L (ms.map MEnt.e)) ∧ Calm w w' ∧ Drawn b w w' := by
  have H := hide h
  have hlen := h.1
  obtain ⟨g, off, rfl, hg, hC⟩ := h.at hl0
  have o0 := (h.2.2.2.1 _ (ment_mem ms 0 (by omega))).1.1
  obtain ⟨q0, -, -, -⟩ := hC 0 (by omega)
  rw [Nat.zero_mul, Nat.add_zero] at q0
  have HF : Hid (Fits L (ms.map MEnt.e) ↔ L.s.i + 1 ≤ (ms.getD 0 ment0).e.i ∧ (ms.getD 0 ment0).e.i ≤ L.s.i + n' + 1 ∧ ∀ j, j < len → (ms.getD j ment0).e.i = (ms.getD 0 ment0).e.i + j) := by
    show _ ↔ _
    unfold Fits
    rw [getD_map_e, hn, List.length_map, hlen]
    constructor
    · rintro ⟨x1, x2, x3⟩
      exact ⟨x1, x2, fun j hj => by rw [← getD_map_e ms j]; exact x3 j hj⟩
    · rintro ⟨x1, x2, x3⟩
      exact ⟨x1, x2, fun j hj => by rw [getD_map_e ms j]; exact x3 j hj⟩
  have HC := hide hC
  have hd := hn
  clear h hC
  generalize hv0 : (ms.getD 0 ment0).e.i = f at *
  have HV0 := hide hv0
  clear hv0
  by_cases g1 : f < L.s.i + 1
  · go_enter Tryz.func37, Tryz.ntmps37
    go_wp2_with (first
      | (go_at_call 33; refine (first_any p L.s.i _ c0 h0 h1).mono ?_; rintro e w' ⟨rfl, hw⟩; have hw := hw.symm; subst hw))
    go_ret
    exact ⟨false, rfl, tells_no (fun h => by have := (HF.out.1 h).1; omega), .inl rfl, drawn_no _ _⟩
  · have hk := kwrap_u64 (L.s.i + n' + 1) (by omega) (by omega)
    by_cases g2 : L.s.i + n' + 1 < f
    · go_enter Tryz.func37, Tryz.ntmps37
      go_wp2_with (first
        | (go_at_call 81; go_must (refine (last_any p L.s.i a' n' c' _ c0 c4 h0 h1 hn').mono ?_); rintro e w' ⟨rfl, hw⟩; have hw := hw.symm; subst hw)
        | (go_at_call 33; refine (first_any p L.s.i _ c0 h0 h1).mono ?_; rintro e w' ⟨rfl, hw⟩; have hw := hw.symm; subst hw))
      go_ret
      exact ⟨false, rfl, tells_no (fun h => by have := (HF.out.1 h).2.1; omega), .inr rfl, drawn_no _ _⟩
    · go_enter Tryz.func37, Tryz.ntmps37
      go_wp2_with (first
        | (go_at_call 81; go_must (refine (last_any p L.s.i a' n' c' _ c0 c4 h0 h1 hn').mono ?_); rintro e w' ⟨rfl, hw⟩; have hw := hw.symm; subst hw)
        | (go_at_call 33; refine (first_any p L.s.i _ c0 h0 h1).mono ?_; rintro e w' ⟨rfl, hw⟩; have hw := hw.symm; subst hw))
      go_loopw [24] (fun i wr => ∃ k : Nat, k ≤ len ∧ i = .int .i64 k ∧ (∀ j, j < k → (ms.getD j ment0).e.i = f + j) ∧ wr = w.drew) (fun i _ => len - (intOf i).toNat)
      case atStart => exact ⟨0, Nat.zero_le _, rfl, by intro j hj; omega, rfl⟩
      case round =>
        obtain ⟨k, hk', rfl, hdone, rfl⟩ := hrel
        have HDn := hide hdone
        clear hdone
        by_cases hlt : k < len
        · obtain ⟨qk, -, -, -⟩ := HC.out k (by omega)
          have hfk := kwrap_u64 (f + k) (by omega) (by omega)
          have hck := kwrap_u64 (k : Int) (by omega) (by omega)
          have HN := HDn.out
          have HK : Hid ((ms.getD k ment0).e.i = (ms.getD k ment0).e.i) := rfl
          generalize hvk : (ms.getD k ment0).e.i = fk at *
          have HVK := hide hvk
          clear hvk HN
          by_cases hfe : fk = f + k
          · have hbe : (fk == f + (k : Int)) = true := by simp [hfe]
            have hb2 : (fk != f + (k : Int)) = false := by simp [hfe]
            go_wp2
            go_roundw
            case rel => exact ⟨k + 1, by omega, by go_num, fun j hj => (by by_cases hjk : j = k; (subst hjk; rw [HVK.out, hfe]); exact HDn.out j (by omega)), (by first | rfl | trivial)⟩
            case measure => simp [intOf]; omega
          · have hb2 : (fk != f + (k : Int)) = true := by simp [hfe]
            go_wp2
            go_ret
            exact .inl ⟨rfl, tells_no (fun h => absurd ((HVK.out).symm.trans ((HF.out.1 h).2.2 k hlt)) hfe), .inr rfl, drawn_no _ _⟩
        · have hkl : k = len := by omega
          subst hkl
          go_wp2
          go_ret
          exact ⟨true, rfl, tells_yes (HF.out.2 ⟨by omega, by omega, HDn.out⟩), .inr rfl, drawn_yes _⟩

end Go.Proofs.YtfojpengdpnigaaGreat
