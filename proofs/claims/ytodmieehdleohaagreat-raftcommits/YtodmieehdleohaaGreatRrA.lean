/- The reference's log: NewLog, Term, Entries, Append. The reference's Append. The log's Compact. The reference's log: told, Members, Compact. The reference's log: Members, Compact. -/
import Derived.Test.YtodmieehdleohaaGreatKp
import Derived.BigQuiet
import Derived.Deep.RegionHeld
import Derived.Test.YtodmieehdleohaaGreatRl7
namespace Go.Proofs.YtodmieehdleohaaGreat
open Go.RowKit NumMath
set_option linter.unusedVariables false
set_option maxRecDepth 100000

set_option maxHeartbeats 400000 in
theorem xnew_any (X : Nat → Prop) (i t : Int) (ma : Option Addr) (mn mc : Nat) (m : List Int) (da : Option Addr) (dn dc : Nat) (d : List Int) (w : World) (hm : NumX X w ma mn mc m) (hd : DatB X w da dn dc d) :
    Calls Tryz.prog 12 #[.agg #[.int .u64 i, .int .u64 t, .slice ma mn mc, .slice da dn dc]] w fun e w' => ∃ p, e = .returned (.pointer (some ⟨p, 0, none⟩)) ∧ w.heap.size ≤ p ∧ IsL (fun k => X k ∨ k = p) w' w.heap.size p ⟨⟨capI i, t, m, d⟩, [], 0, false⟩ ∧ Below w.heap.size w w' := by
  have HM := hide hm
  have HD := hide hd
  clear hm hd
  by_cases hi : 4611686018427387904 < i
  · have hc : Hid (capI i = 4611686018427387904) := by show _ = _; unfold capI; rw [if_pos hi]
    go_enter Tryz.func12, Tryz.ntmps12
    go_wp2
    go_ret
    rw [hc.out]
    refine ⟨w.heap.size + 1, rfl, by omega, isL_new X _ w.heap.size (w.heap.size + 1) _ t ma mn mc m da dn dc d _ (by simp) (by omega) (HM.out.keep (new_below _ _)) (HD.out.keep (new_below _ _)), (new_below _ _).alloc (by simp) _⟩
  · have hc : Hid (capI i = i) := by show _ = _; unfold capI; rw [if_neg hi]
    go_enter Tryz.func12, Tryz.ntmps12
    go_wp2
    go_ret
    rw [hc.out]
    refine ⟨w.heap.size + 1, rfl, by omega, isL_new X _ w.heap.size (w.heap.size + 1) i t ma mn mc m da dn dc d _ (by simp) (by omega) (HM.out.keep (new_below _ _)) (HD.out.keep (new_below _ _)), (new_below _ _).alloc (by simp) _⟩

/-- the term that a log tells of an index -/
def termL (L : LogS) (x : Int) : Int × Bool := if x = L.s.i then (L.s.t, true) else if x < L.s.i + 1 ∨ L.s.i + L.es.length < x then (0, false) else ((L.es.getD (x - (L.s.i + 1)).toNat ent0).t, true)

theorem termL_at {L : LogS} {x : Int} (k : Nat) (hk : x = L.s.i + 1 + k) (h : k < L.es.length) : termL L x = ((L.es.getD k ent0).t, true) := by
  unfold termL
  rw [if_neg (by omega), if_neg (by omega), show (x - (L.s.i + 1)).toNat = k by omega]

set_option maxHeartbeats 400000 in
theorem xterm_at (X : Nat → Prop) (base p : Nat) (L : LogS) (x : Int) (k : Nat) (w : World) (h : IsL X w base p L) (hG : L.Good) (hk : x = L.s.i + 1 + k) (hkl : k < L.es.length) :
    Calls Tryz.prog 87 #[.pointer (some ⟨p, 0, none⟩), .int .u64 x] w fun e w' => e = .returned (.tuple #[.int .u64 (L.es.getD k ent0).t, .bool true]) ∧ Below w.heap.size w w' := by
  obtain ⟨ma, mn, mc, da, dn, dc, ea, en, ec, es, c0, c1, c2, c3, c4, c5, c6, hf, hm, hd', hr, he, ho, hp, hn, hxp, hx4⟩ := h
  have hen := hr.len.1
  have hel : L.es.length = en := by rw [← he, List.length_map, hen]
  have hn5 : en ≤ 100000 := by have := hG.n; omega
  obtain ⟨g, hga, hg1, hg2, hcell, hfr⟩ := hr.row (by omega)
  subst hga
  have HC : Hid (∀ j, j < en → CellM w g (j * 4) (es.getD j ment0)) := hcell
  have HAt : Hid (∀ j, j < en → (es.getD j ment0).e.i = L.s.i + 1 + j) := fun j hj => by rw [← getD_map_e, he]; exact hG.at_ j (by omega)
  have HT : Hid ((es.getD k ment0).e.t = (L.es.getD k ent0).t) := by show _ = _; rw [← he, getD_map_e]
  have hne : (x == L.s.i) = false := by simp; omega
  have HK := hide hk
  have hke : k < en := by omega
  clear hm hd' hr he ho hn hxp hx4 hf hel hen hG hcell hfr hk hkl
  generalize (L.es.getD k ent0).t = tt at *
  go_enter Tryz.func87, Tryz.ntmps87
  go_wp2
  go_loopw [25] (fun i wr => ∃ j : Nat, j ≤ k ∧ i = .int .i64 j ∧ Below w.heap.size w wr) (fun i _ => k - (intOf i).toNat)
  case atStart => exact ⟨0, Nat.zero_le _, rfl, Below.refl _ _⟩
  case round =>
    obtain ⟨j, hj, rfl, hb⟩ := hrel
    obtain ⟨q0, q1, q2, q3⟩ := (HC.out j (by omega)).same (hb.block g hg2)
    have hje : (j : Int) < (en : Int) := by omega
    have ei := HAt.out j (by omega)
    by_cases hjk : j = k
    · subst hjk
      rw [HT.out] at q1
      rw [ei] at q0
      have hq : (L.s.i + 1 + (j : Int) == x) = true := by simp [HK.out]
      generalize es.getD j ment0 = m at *
      obtain ⟨⟨mi, mt, mk, md⟩, mb, mn', mc'⟩ := m
      dsimp only at q0 q1 q2 q3
      clear ei
      go_wp2
      go_ret2
      exact ⟨rfl, hb.trans ((new_below _ _).mono hb.size)⟩
    · rw [ei] at q0
      have hq : (L.s.i + 1 + (j : Int) == x) = false := by simp [HK.out]; omega
      generalize es.getD j ment0 = m at *
      obtain ⟨⟨mi, mt, mk, md⟩, mb, mn', mc'⟩ := m
      dsimp only at q0 q1 q2 q3
      clear ei
      go_wp2
      go_roundw
      case rel => exact ⟨j + 1, by omega, by go_num, hb.trans ((new_below _ _).mono hb.size)⟩
      case measure => simp [intOf]; omega

theorem getD_drop_e (ms : List Ent) (k j : Nat) : (ms.drop k).getD j ent0 = ms.getD (k + j) ent0 := by simp [List.getD]

theorem take_succ_m (ms : List MEnt) (j : Nat) (h : j < ms.length) : ms.take (j + 1) = ms.take j ++ [ms.getD j ment0] := by
  rw [List.take_add_one, List.getElem?_eq_getElem h]
  simp [List.getD, List.getElem?_eq_getElem h]

theorem cellsM_box (w : World) (m : MEnt) (ty : TypeId) (g : Nat) (hg : w.heap.size = g) : SrcM (w.alloc (.cells #[.int .u64 m.e.i, .int .u64 m.e.t, .int .i64 m.e.k, .slice m.b m.n m.c] ty)) (some ⟨g, 0, none⟩) 1 [m] := by
  refine ⟨rfl, .inr ⟨g, 0, rfl, by subst hg; simp, fun i hi => ?_⟩⟩
  match i, hi with
  | 0, _ => exact cellM_new w m.e m.b m.n m.c g ty hg

/-- a list of entries, some of a log's own, in memory of their own -/
def PartE (X : Nat → Prop) (w : World) (base : Nat) (es : List MEnt) (e : Ending) (w' : World) : Prop := ∃ b n c, e = .returned (.slice b n c) ∧ RowM w' base (.slice b n c) es ∧ (∀ m ∈ es, m.ok X w') ∧ Below w.heap.size w w'

set_option maxHeartbeats 1000000 in
/-- all from the k-th on, if there may be as many -/
theorem xents_any (X : Nat → Prop) (base p : Nat) (L : LogS) (es : List MEnt) (x : Int) (k : Nat) (most : Nat) (w : World) (a : Option Addr) (en ec : Nat) (c0 : w.cell? ⟨p, 0, none⟩ = some (.int .u64 L.s.i)) (c4 : w.cell? ⟨p, 4, none⟩ = some (.slice a en ec)) (hr : IsMs X w a en ec es) (he : es.map MEnt.e = L.es) (hG : L.Good) (hk : x = L.s.i + 1 + k) (hm : en ≤ k + most) (hm2 : most ≤ 1000000) :
    Calls Tryz.prog 133 #[.pointer (some ⟨p, 0, none⟩), .int .u64 x, .int .i64 (most : Int)] w fun e w' => PartE X w w.heap.size (es.drop k) e w' := by
  have hen := hr.1
  have hel : L.es.length = en := by rw [← he, List.length_map, hen]
  have hn5 : en ≤ 100000 := by have := hG.n; omega
  have i0 := hG.i0
  have i1 := hG.i1
  have HI := hide hr
  have HAt : Hid (∀ j, j < en → (es.getD j ment0).e.i = L.s.i + 1 + j) := fun j hj => by rw [← getD_map_e, he]; exact hG.at_ j (by omega)
  have HK := hide hk
  have HE := hide hen
  have g1 : ¬ x < L.s.i + 1 := by omega
  clear hr he hel hen hG hk
  go_enter Tryz.func133, Tryz.ntmps133
  go_wp2_with (first
    | (go_at_call 42; go_must (refine (xfirst_any p L.s.i _ c0 i0 i1).mono ?_); rintro e w' ⟨rfl, hw⟩; have hw := hw.symm; subst hw))
  go_loopw [7, 19] (fun v i wr => ∃ j : Nat, j ≤ en ∧ i = .int .i64 j ∧ RowM wr w.heap.size v ((es.take j).drop k) ∧ Below w.heap.size w wr) (fun _ i _ => en - (intOf i).toNat)
  case atStart => exact ⟨0, Nat.zero_le _, rfl, by simp; exact rowM_nil _ _, Below.refl _ _⟩
  case round =>
    obtain ⟨j, hj, rfl, hrow, hb⟩ := hrel
    have HR := hide hrow
    have hsz := hb.size
    obtain ⟨va, vn, vc, rfl⟩ := hrow.any3
    have hvn := hrow.len.1
    rw [List.length_drop, List.length_take, HE.out] at hvn
    clear hrow
    by_cases hlt : j < en
    · obtain ⟨g, off, rfl, hg, hC⟩ := HI.out.at hlt
      obtain ⟨q0, q1, q2, q3⟩ := (hC j (by have := HE.out; omega)).same (hb.block g hg)
      have ei := HAt.out j hlt
      have HTk := hide (take_succ_m es j (by have := HE.out; omega))
      by_cases hjk : j < k
      · have hd1 : (x ≤ (es.getD j ment0).e.i) = False := eq_false (by rw [ei, HK.out]; omega)
        have HEq : Hid ((es.take (j + 1)).drop k = (es.take j).drop k) := by
          show _ = _
          rw [List.drop_of_length_le (by rw [List.length_take]; omega), List.drop_of_length_le (by rw [List.length_take]; omega)]
        generalize es.getD j ment0 = m at *
        obtain ⟨⟨mi, mt, mk, md⟩, mb, mn', mc'⟩ := m
        dsimp only at q0 q1 q2 q3 hd1
        have hd2 : decide (x ≤ mi) = false := by simp [hd1]
        clear ei hvn hC
        go_wp2
        go_roundw
        case rel => exact ⟨j + 1, by omega, by go_num, by rw [HEq.out]; exact HR.out.keep (new_below _ _), hb.trans ((new_below _ _).mono hb.size)⟩
        case measure => simp [intOf]; omega
      · have hd1 : (x ≤ (es.getD j ment0).e.i) = True := eq_true (by rw [ei, HK.out]; omega)
        have HEq : Hid ((es.take (j + 1)).drop k = (es.take j).drop k ++ [es.getD j ment0]) := by
          show _ = _
          rw [HTk.out, List.drop_append_of_le_length (by rw [List.length_take, HE.out]; omega)]
        have HSrc := hide (fun (W : World) ty g hg => cellsM_box W (es.getD j ment0) ty g hg)
        generalize es.getD j ment0 = m at *
        obtain ⟨⟨mi, mt, mk, md⟩, mb, mn', mc'⟩ := m
        dsimp only at q0 q1 q2 q3 hd1 HSrc
        have hd2 : decide (x ≤ mi) = true := by simp [hd1]
        have hvm : (vn : Int) < (most : Int) := by omega
        have hvl : vn ≤ 100000 := by omega
        have HVl := hide hvn
        clear ei hvn hC
        go_wp2_with (first
          | (at_builtin; go_must (refine wp_joinM _ rfl (.tmp 33) (.tmp 35) rfl w.heap.size _ _ rfl ((HR.out.keep (new_below _ _)).keep (new_below _ _)) (some ⟨wr.heap.size + 1, 0, none⟩) 1 1 [⟨⟨mi, mt, mk, md⟩, mb, mn', mc'⟩] rfl (HSrc.out _ _ _ (by simp)) (by rw [List.length_drop, List.length_take, HE.out]; simp; omega) (by simp; omega) ?_); intro v5 w5 hr5 hg5 hat5; have HR5 := hide hr5; have hb5 : Below w.heap.size w w5 := (hb.trans ((new_below _ _).mono hb.size)).trans (((new_below _ _).mono (by simp; omega)).trans (((HR.out.keep (new_below _ _)).keep (new_below _ _)).grown hg5 (by simp; omega))); clear hr5 hg5 hat5))
        go_roundw
        case rel => exact ⟨j + 1, by omega, by go_num, by rw [HEq.out]; exact HR5.out, hb5⟩
        case measure => simp [intOf]; omega
    · have hjn : j = en := by omega
      subst hjn
      go_wp2
      go_ret
      have h6 := HR.out
      rw [List.take_of_length_le (by rw [HE.out]; exact Nat.le_refl _)] at h6
      exact ⟨va, vn, vc, rfl, h6, fun m hm => (HI.out.2.2.2.1 m (List.mem_of_mem_drop hm)).keep hb, hb⟩

end Go.Proofs.YtodmieehdleohaaGreat

namespace Go.Proofs.YtodmieehdleohaaGreat
open Go.RowKit NumMath
set_option linter.unusedVariables false
set_option maxRecDepth 100000

theorem fits_wrap {L : LogS} {ms : List MEnt} {len : Nat} (hlen : ms.length = len) (hF : Fits L (ms.map MEnt.e)) (i0 : 0 ≤ L.s.i) (i1 : L.s.i ≤ 9000000000000000000) (hn : L.es.length ≤ 100000) (hl : len ≤ 100000) (j : Nat) (hj : j < len) : (ms.getD j ment0).e.i = IntKind.u64.wrap ((ms.getD 0 ment0).e.i + j) := by
  obtain ⟨f1, f2, f3⟩ := hF
  have := f3 j (by rw [List.length_map]; omega)
  rw [getD_map_e, getD_map_e] at this
  rw [getD_map_e] at f1 f2
  rw [kwrap_u64 _ (by omega) (by omega), this]

theorem fits_of {L : LogS} {ms : List MEnt} {len : Nat} (hlen : ms.length = len) (i0 : 0 ≤ L.s.i) (i1 : L.s.i ≤ 9000000000000000000) (hn : L.es.length ≤ 100000) (hl : len ≤ 100000) (h : ∀ j, j < len → (ms.getD j ment0).e.i = IntKind.u64.wrap ((ms.getD 0 ment0).e.i + j)) (g1 : L.s.i + 1 ≤ (ms.getD 0 ment0).e.i) (g2 : (ms.getD 0 ment0).e.i ≤ L.s.i + L.es.length + 1) : Fits L (ms.map MEnt.e) := by
  refine ⟨by rw [getD_map_e]; exact g1, by rw [getD_map_e]; exact g2, fun j hj => ?_⟩
  rw [List.length_map, hlen] at hj
  rw [getD_map_e, getD_map_e, h j hj, kwrap_u64 _ (by omega) (by omega)]

set_option maxHeartbeats 1000000 in
theorem xapp_no (X : Nat → Prop) (p : Nat) (L : LogS) (a : Option Addr) (len cap : Nat) (ms : List MEnt) (ea : Option Addr) (en ec : Nat) (w : World) (c0 : w.cell? ⟨p, 0, none⟩ = some (.int .u64 L.s.i)) (c4 : w.cell? ⟨p, 4, none⟩ = some (.slice ea en ec)) (hel : L.es.length = en) (hG : L.Good) (hE : IsMs X w a len cap ms) (hl : len ≤ 10000) (hl0 : 0 < len) (hF : ¬ Fits L (ms.map MEnt.e)) :
    Calls Tryz.prog 14 #[.pointer (some ⟨p, 0, none⟩), .slice a len cap] w fun e w' => e = .returned (.int .i64 80) ∧ Below w.heap.size w w' := by
  have hlz : ((len : Int) == 0) = false := by simp; omega
  have hn5 : en ≤ 100000 := by have := hG.n; omega
  have i0 := hG.i0
  have i1 := hG.i1
  have hplt : p < w.heap.size := World.block_lt_of_cell? _ ⟨p, 0, none⟩ c0
  obtain ⟨g, off, rfl, hg, hC⟩ := hE.at hl0
  have hlen := hE.1
  have o0 := (hE.2.2.2.1 _ (ment_mem ms 0 (by omega))).1.1
  obtain ⟨q0, -, -, -⟩ := hC 0 (by omega)
  rw [Nat.zero_mul, Nat.add_zero] at q0
  have HC := hide hC
  have HN : Hid ((∀ j, j < len → (ms.getD j ment0).e.i = IntKind.u64.wrap ((ms.getD 0 ment0).e.i + j)) → (ms.getD 0 ment0).e.i < L.s.i + 1 ∨ L.s.i + en + 1 < (ms.getD 0 ment0).e.i) := fun h => by
    by_cases g1 : (ms.getD 0 ment0).e.i < L.s.i + 1
    · exact .inl g1
    · by_cases g2 : L.s.i + en + 1 < (ms.getD 0 ment0).e.i
      · exact .inr g2
      · exact absurd (fits_of hlen i0 i1 (by omega) (by omega) h (by omega) (by omega)) hF
  have hwl : IntKind.u64.wrap (L.s.i + en + 1) = L.s.i + en + 1 := kwrap_u64 _ (by omega) (by omega)
  have HLen := hide hlen
  clear hE hC hF hel hG hlen
  generalize hf : (ms.getD 0 ment0).e.i = f at *
  have HFv := hide hf
  clear hf
  go_enter Tryz.func14, Tryz.ntmps14
  go_wp2
  go_loopw [14] (fun i wr => ∃ k : Nat, k ≤ len ∧ i = .int .i64 k ∧ (∀ j, j < k → (ms.getD j ment0).e.i = IntKind.u64.wrap (f + j)) ∧ Below w.heap.size w wr) (fun i _ => len - (intOf i).toNat)
  case atStart => exact ⟨0, Nat.zero_le _, rfl, by intro j hj; omega, Below.refl _ _⟩
  case round =>
    obtain ⟨k, hk, rfl, hdone, hb⟩ := hrel
    have HDn := hide hdone
    clear hdone
    have q0r := (hb.cell (p := ⟨g, off, none⟩) hg).trans q0
    by_cases hlt : k < len
    · obtain ⟨qk, -, -, -⟩ := (HC.out k (by have := HLen.out; omega)).same (hb.block g hg)
      have hck := kwrap_u64 (k : Int) (by omega) (by omega)
      by_cases hfe : (ms.getD k ment0).e.i = IntKind.u64.wrap (f + k)
      · have HFe := hide hfe
        rw [hfe] at qk
        clear hfe
        go_wp2
        go_region
        all_goals
          go_wp2
          go_roundw
          case rel => exact ⟨k + 1, by omega, by go_num, fun j hj => (by by_cases hjk : j = k; (subst hjk; exact HFe.out); exact HDn.out j (by omega)), hb.drew⟩
          case measure => simp [intOf]; omega
      · generalize (ms.getD k ment0).e.i = fk at *
        have hb2 : (fk != IntKind.u64.wrap (f + (k : Int))) = true := by simp [hfe]
        go_wp2
        go_region
        all_goals
          go_wp2
          go_ret
          exact ⟨rfl, hb.drew⟩
    · have hkl : k = len := by omega
      subst hkl
      have c0r := (hb.cell (p := ⟨p, 0, none⟩) hplt).trans c0
      have c4r := (hb.cell (p := ⟨p, 4, none⟩) hplt).trans c4
      rcases HN.out HDn.out with g1 | g1
      · have hd1 : decide (f < L.s.i + 1) = true := decide_eq_true g1
        go_wp2
        go_quiet (first | (go_at_call 42; refine Calls.quiet_of_same (xfirst_any p L.s.i _ (by exact c0r) i0 i1)))
        go_wp2
        go_ret
        exact ⟨rfl, hb.trans ⟨rfl, rfl, rfl, Nat.le_refl _, fun _ _ => rfl⟩⟩
      · have hd1 : decide (f < L.s.i + 1) = false := decide_eq_false (by omega)
        have hd2 : decide (L.s.i + (en : Int) + 1 < f) = true := decide_eq_true g1
        go_wp2
        go_quiet (first
          | (go_at_call 42; refine Calls.quiet_of_same (xfirst_any p L.s.i _ (by exact c0r) i0 i1))
          | (go_at_call 43; refine Calls.quiet_of ((xlast_any p L.s.i ea en ec _ (by exact c0r) (by exact c4r) i0 i1 hn5).mono (fun e w' h => ⟨h.1, 1, h.2⟩))))
        go_wp2
        go_ret
        exact ⟨rfl, hb.trans ⟨rfl, rfl, rfl, Nat.le_refl _, fun _ _ => rfl⟩⟩

theorem SPost.drewN {i : Nat} {w w1 : World} {p : Nat} (h : SPost i w p w1) (n : Nat) : SPost i w p (w1.drewN n) := ⟨⟨h.1.os, h.1.tape, h.1.output, h.1.size, h.1.block⟩, h.2⟩

theorem spost_set5N {W : World} {p : Nat} {v : Value} (h : SPost 4 W p (W.setCell ⟨p, 5, none⟩ v)) (n : Nat) : SPost 4 (W.drewN n) p ((W.drewN n).setCell ⟨p, 5, none⟩ v) :=
  ⟨⟨rfl, rfl, rfl, h.1.size, h.1.block⟩, h.2⟩

set_option maxHeartbeats 1500000 in
theorem xapp_any (X : Nat → Prop) (base p : Nat) (L : LogS) (a : Option Addr) (len cap : Nat) (ms : List MEnt) (w : World) (h : IsL X w base p L) (hG : L.Good) (hE : IsMs X w a len cap ms) (ha : len = 0 ∨ ∀ y, a = some y → y.block ≠ p) (hl : len ≤ 10000) (hL : L.es.length ≤ 50000) (hXlt : ∀ k, X k → k < w.heap.size) (hbase : base ≤ w.heap.size) :
    Calls Tryz.prog 14 #[.pointer (some ⟨p, 0, none⟩), .slice a len cap] w fun e w' => e = .returned (.int .i64 (appL L (ms.map MEnt.e)).1) ∧ IsL (fun k => X k ∨ SB 4 w' p k) w' base p (appL L (ms.map MEnt.e)).2 ∧ SPost 4 w p w' := by
  have H := hide h
  have HE := hide hE
  have hplt := h.at
  have hSX : Hid (∀ k, SB 4 w p k → X k) := fun k hk => (h.lt hk).2.2
  obtain ⟨ma, mn, mc, da, dn, dc, ea, en, ec, es, c0, c1, c2, c3, c4, c5, c6, hf, hm, hd', hr, he, ho, hp, hn, hx, hx4⟩ := h
  have hen := hr.len.1
  have hel : L.es.length = en := by rw [← he, List.length_map, hen]
  have i0 := hG.i0
  have i1 := hG.i1
  have hlen := hE.1
  have HL := hide (fun (w1 : World) (hb1 : Below w.heap.size w w1) => (H.out.keep hb1).more (Y := fun k => X k ∨ SB 4 w1 p k) (fun k hk => hk.elim .inl (fun h => .inl (hSX.out k (h.same (hb1.block p hplt))))) (fun k hk => .inr hk))
  by_cases hl0 : len = 0
  · subst hl0
    have hms : ms = [] := List.length_eq_zero_iff.1 hlen
    subst hms
    rw [List.map_nil, appL_nil]
    clear hm hd' hr he ho hn hx hx4 hf hlen hE ha
    go_enter Tryz.func14, Tryz.ntmps14
    go_wp2
    go_ret
    exact ⟨rfl, HL.out _ (Below.refl _ _), SPost.refl _ _ _⟩
  have hl0' : 0 < len := by omega
  have HNe := hide (es_ne hlen hl0')
  by_cases hF : ¬ Fits L (ms.map MEnt.e)
  · rw [appL_no HNe.out hF]
    refine (xapp_no X p L a len cap ms ea en ec w c0 c4 hel hG hE hl hl0' hF).mono ?_
    rintro e w1 ⟨rfl, hb1⟩
    exact ⟨rfl, HL.out _ hb1, SPost.of_below hplt hb1⟩
  have hF := Classical.not_not.1 hF
  have hlz : ((len : Int) == 0) = false := by simp; omega
  obtain ⟨g, off, hga, hg, hC⟩ := hE.at hl0'
  subst hga
  have hgp : g ≠ p := by
    rcases ha with ha | ha
    · omega
    · exact ha _ rfl
  obtain ⟨q0, -, -, -⟩ := hC 0 (by omega)
  rw [Nat.zero_mul, Nat.add_zero] at q0
  have HApp := hide (appL_yes HNe.out hF)
  have HW : Hid (∀ j, j < len → (ms.getD j ment0).e.i = IntKind.u64.wrap ((ms.getD 0 ment0).e.i + j)) := fun j hj => fits_wrap hlen hF i0 i1 (by omega) (by omega) j hj
  have f1 := hF.1
  have f2 := hF.2.1
  rw [getD_map_e] at f1 f2
  rw [getD_map_e] at HApp
  generalize hv0 : (ms.getD 0 ment0).e.i = f at *
  obtain ⟨k0, hk0⟩ : ∃ k0 : Nat, f = L.s.i + 1 + k0 := ⟨(f - (L.s.i + 1)).toNat, by omega⟩
  have hkn : (f - (L.s.i + 1)).toNat = k0 := by omega
  rw [hkn] at HApp
  have hke : k0 ≤ en := by omega
  have hn5 : en ≤ 50000 := by omega
  have hwl : IntKind.u64.wrap (L.s.i + en + 1) = L.s.i + en + 1 := kwrap_u64 _ (by omega) (by omega)
  have hd1 : decide (f < L.s.i + 1) = false := decide_eq_false (by omega)
  have hd2 : decide (L.s.i + (en : Int) + 1 < f) = false := decide_eq_false (by omega)
  have HC := hide hC
  have HLen := hide hlen
  have HM := hide hm
  have HD := hide hd'
  have HR := hide hr
  have HO := hide ho
  have HN := hide hn
  have HX4 := hide hx4
  have HEs := hide he
  have HEn := hide hen
  have HK0 := hide hk0
  have H70 : Hid (Cells7 w p _ _ _ _ _ _ _) := ⟨c0, c1, c2, c3, c4, c5, c6, hf⟩
  have HIs := hide (hr.is ho)
  have HAt : Hid (∀ j, j < en → (es.getD j ment0).e.i = L.s.i + 1 + j) := fun j hj => by rw [← getD_map_e, he]; exact hG.at_ j (by omega)
  obtain ⟨z, y, hz, hy⟩ : ∃ z y : Bool, (L.dirty == 0) = z ∧ decide (f < L.dirty) = y := ⟨_, _, rfl, rfl⟩
  clear hm hd' hr ho hn hx4 hf hlen hE ha hC hv0 he hF hkn f1 f2 hk0 hel hen hG
  go_enter Tryz.func14, Tryz.ntmps14
  go_wp2
  go_loopw [14] (fun i wr => ∃ k : Nat, k ≤ len ∧ i = .int .i64 k ∧ Below w.heap.size w wr) (fun i _ => len - (intOf i).toNat)
  case atStart => exact ⟨0, Nat.zero_le _, rfl, Below.refl _ _⟩
  case round =>
    obtain ⟨k, hk, rfl, hb⟩ := hrel
    have q0r := (hb.cell (p := ⟨g, off, none⟩) hg).trans q0
    by_cases hlt : k < len
    · obtain ⟨qk, -, -, -⟩ := (HC.out k (by have := HLen.out; omega)).same (hb.block g hg)
      have hck := kwrap_u64 (k : Int) (by omega) (by omega)
      rw [HW.out k hlt] at qk
      go_wp2
      go_region
      all_goals
        go_wp2
        go_roundw
        case rel => exact ⟨k + 1, by omega, by go_num, hb.drew⟩
        case measure => simp [intOf]; omega
    · have hkl : k = len := by omega
      subst hkl
      have c0r := (hb.cell (p := ⟨p, 0, none⟩) hplt).trans c0
      have c4r := (hb.cell (p := ⟨p, 4, none⟩) hplt).trans c4
      go_wp2
      go_quiet (first
        | (go_at_call 42; refine Calls.quiet_of_same (xfirst_any p L.s.i _ (by exact c0r) i0 i1))
        | (go_at_call 43; refine Calls.quiet_of ((xlast_any p L.s.i ea en ec _ (by exact c0r) (by exact c4r) i0 i1 (by omega)).mono (fun e w' h => ⟨h.1, 1, h.2⟩))))
      have hb' : Below w.heap.size w (wr.drewN nq) := hb.trans ⟨rfl, rfl, rfl, Nat.le_refl _, fun _ _ => rfl⟩
      go_wp2
      go_loopw [6, 53] (fun v i wr => ∃ j : Nat, j ≤ en ∧ i = .int .i64 j ∧ RowM wr w.heap.size v (es.take (min j k0)) ∧ Below w.heap.size w wr) (fun _ i _ => en - (intOf i).toNat)
      case atStart => exact ⟨0, Nat.zero_le _, rfl, by simp; exact rowM_nil _ _, hb'⟩
      case round =>
        clear hb' hb c0r c4r q0r hk
        obtain ⟨j, hj, rfl, hrow, hb⟩ := hrel
        have HRw := hide hrow
        have hsz := hb.size
        obtain ⟨va, vn, vc, rfl⟩ := hrow.any3
        have hvn := hrow.len.1
        rw [List.length_take, HEn.out] at hvn
        clear hrow
        have q0r := (hb.cell (p := ⟨g, off, none⟩) hg).trans q0
        by_cases hlt : j < en
        · obtain ⟨ge, offe, rfl, hge, hCe⟩ := HIs.out.at hlt
          obtain ⟨r0, r1, r2, r3⟩ := (hCe j (by have := HEn.out; omega)).same (hb.block ge hge)
          have ei := HAt.out j hlt
          have H1 := hide (fun (o : Obj) (o2 : Obj) (n : Nat) => (show Below wr.heap.size wr (((wr.alloc o).drewN n).alloc o2) from ((new_below wr o).trans (⟨rfl, rfl, rfl, Nat.le_refl _, fun _ _ => rfl⟩ : Below _ (wr.alloc o) ((wr.alloc o).drewN n))).trans ((new_below _ _).mono (by simp))))
          have H3 := hide (fun (o : Obj) (n : Nat) => (show Below wr.heap.size wr ((wr.alloc o).drewN n) from ((new_below wr o).trans (⟨rfl, rfl, rfl, Nat.le_refl _, fun _ _ => rfl⟩ : Below _ (wr.alloc o) ((wr.alloc o).drewN n)))))
          have q0s := fun (ty : TypeId) (o : Array Value) => ((new_below (o := .cells o ty) wr).cell (p := ⟨g, off, none⟩) (Nat.lt_of_lt_of_le hg hsz)).trans q0r
          by_cases hjk : j < k0
          · have hd1 : ((es.getD j ment0).e.i < f) = True := eq_true (by rw [ei, HK0.out]; omega)
            have HEq : Hid (es.take (min (j + 1) k0) = es.take (min j k0) ++ [es.getD j ment0]) := by
              show _ = _
              rw [show min (j + 1) k0 = j + 1 by omega, show min j k0 = j by omega]
              exact take_succ_m es j (by have := HEn.out; omega)
            have HSrc := hide (fun (W : World) ty g hg => cellsM_box W (es.getD j ment0) ty g hg)
            generalize es.getD j ment0 = m at *
            obtain ⟨⟨mi, mt, mk, md⟩, mb, mn', mc'⟩ := m
            dsimp only at r0 r1 r2 r3 hd1 HSrc
            have hd2 : decide (mi < f) = true := by simp [hd1]
            have HVl := hide hvn
            clear ei hvn hCe
            go_wp2
            go_quiet (first | fail)
            go_wp2_with (first
              | (at_builtin; go_must (refine wp_joinM _ rfl (.tmp 64) (.tmp 66) rfl w.heap.size _ _ rfl (HRw.out.keep (by exact H1.out _ _ _)) (some ⟨wr.heap.size + 1, 0, none⟩) 1 1 [⟨⟨mi, mt, mk, md⟩, mb, mn', mc'⟩] rfl (HSrc.out _ _ _ (by simp)) (by rw [List.length_take, HEn.out]; simp; omega) (by simp; omega) ?_); intro v5 w5 hr5 hg5 hat5; have HR5 := hide hr5; have hb5 : Below w.heap.size w w5 := hb.trans (((H1.out _ _ _).mono hb.size).trans ((HRw.out.keep (H1.out _ _ _)).grown hg5 (by simp; omega))); clear hr5 hg5 hat5))
            go_roundw
            case rel => exact ⟨j + 1, by omega, by go_num, by rw [HEq.out]; exact HR5.out, hb5⟩
            case measure => simp [intOf]; omega
          · have hd1 : ((es.getD j ment0).e.i < f) = False := eq_false (by rw [ei, HK0.out]; omega)
            have HEq : Hid (es.take (min (j + 1) k0) = es.take (min j k0)) := by
              show _ = _
              rw [show min (j + 1) k0 = k0 by omega, show min j k0 = k0 by omega]
            generalize es.getD j ment0 = m at *
            obtain ⟨⟨mi, mt, mk, md⟩, mb, mn', mc'⟩ := m
            dsimp only at r0 r1 r2 r3 hd1
            have hd2 : decide (mi < f) = false := by simp [hd1]
            clear ei hvn hCe
            go_wp2
            go_quiet (first | fail)
            go_wp2
            go_roundw
            case rel => exact ⟨j + 1, by omega, by go_num, by rw [HEq.out]; exact HRw.out.keep (H3.out _ _), hb.trans ((H3.out _ _).mono hb.size)⟩
            case measure => simp [intOf]; omega
        · have hjn : j = en := by omega
          subst hjn
          have H71 := hide (H70.out.same (hb.block p hplt))
          have HE1 := hide (HE.out.keep hb)
          have HTl : Hid ((es.take k0).length = k0) := by show _ = _; rw [List.length_take, HEn.out]; omega
          have hmk : min j k0 = k0 := by omega
          rw [hmk] at HRw
          have HNp : Hid (some p ≠ (Value.slice va vn vc).ownBlock) := fun e => by have := (HRw.out.lt p e.symm).1; omega
          have HNg : Hid (some g ≠ (Value.slice va vn vc).ownBlock) := fun e => by have := (HRw.out.lt g e.symm).1; omega
          clear hvn hmk
          go_wp2_with (first
            | (at_builtin; go_must (refine wp_joinM _ rfl (.tmp 70) (.tmp 71) rfl w.heap.size _ _ rfl HRw.out (some ⟨g, off, none⟩) _ _ ms rfl HE1.out.src (by rw [HTl.out, HLen.out]; omega) hsz ?_); intro v5 w5 hr5 hg5 hat5; have HR5 := hide hr5; have HG5 := hide hg5; have HA5 := hide hat5; obtain ⟨a5, n5, d5, rfl⟩ := hr5.any3; have H75 := hide (H71.out.same (hg5.block p (Nat.lt_of_lt_of_le hplt hsz) HNp.out)); have c45 := H75.out.2.2.2.2.1; have f45 := H75.out.2.2.2.2.2.2.2 4; have c55 := (H75.out.set4 (.slice a5 n5 d5)).2.2.2.2.2.1; have f55 := (H75.out.set4 (.slice a5 n5 d5)).2.2.2.2.2.2.2 5; have q05 : (w5.setCell ⟨p, 4, none⟩ (.slice a5 n5 d5)).cell? ⟨g, off, none⟩ = some (.int .u64 f) := (World.cell?_of_block (a := ⟨g, off, none⟩) (Below.heap_setCell _ _ _ _ hgp)).trans ((World.cell?_of_block (a := ⟨g, off, none⟩) (hg5.block g (Nat.lt_of_lt_of_le hg hsz) HNg.out)).trans q0r); clear hr5 hg5 hat5))
          have hat4 : ∀ k, (Value.slice a5 n5 d5).ownBlock = some k → w.heap.size ≤ k := fun k hk => (HR5.out.lt k hk).1
          have hb5 : Below w.heap.size w w5 := hb.trans (HRw.out.grown HG5.out hsz)
          have hok3 : ∀ m ∈ es.take k0 ++ ms, m.ok (fun k => X k ∨ (Value.slice a5 n5 d5).ownBlock = some k) w5 := by
            intro m hm
            have hm2 : m.ok X w := (List.mem_append.1 hm).elim (fun hm => HO.out m (List.mem_of_mem_take hm)) (fun hm => HE.out.2.2.2.1 m hm)
            refine MEnt.ok.keep (MEnt.ok.more (X := X) hm2 ?_) hb5
            rintro k (hk | hk)
            · exact .inl hk
            · exact .inr (hat4 k hk)
          obtain ⟨x0, x1, x2, x3, x4, x5, x6, xf⟩ := H75.out
          have HP := hide (isL_set4 (X := X) (w := w) (w1 := w5) (base := base) (L := L) (Below.keeps hb5 _) hSX.out hplt hp x0 x1 x2 x3 x4 x5 x6 xf HM.out HD.out (HR5.out.mono hbase) hok3 (fun k hk => .inr (hat4 k hk)))
          have HQ := hide (isL_set5 HP.out.1 f)
          have HEq : Hid ((es.take k0 ++ ms).map MEnt.e = L.es.take k0 ++ ms.map MEnt.e) := by show _ = _; rw [List.map_append, List.map_take, HEs.out]
          clear hok3 hat4 x0 x1 x2 x3 x4 x5 x6 xf
          cases z
          · cases y
            · have hdo := dirty_old (y := L.dirty) (f := f) (by simp at hz; exact hz) (by simp at hy; exact hy)
              have HL' := hide (app_fin0 HP.out.1 HEq.out hdo)
              clear hdo
              go_wp2
              go_quiet (first | fail)
              go_wp2
              go_ret
              rw [HApp.out]
              exact ⟨rfl, HL'.out.drew, HP.out.2.drewN nq⟩
            · have hdo := dirty_new (y := L.dirty) (f := f) (by simp at hy; exact .inr hy)
              have HL' := hide (app_fin1 HP.out.1 HEq.out hdo)
              clear hdo
              go_wp2
              go_quiet (first | fail)
              go_wp2
              go_ret
              rw [HApp.out]
              exact ⟨rfl, HL'.out, (HP.out.2.drewN nq).trans (spost_set5N HQ.out.2 nq)⟩
          · have hdo := dirty_new (y := L.dirty) (f := f) (by simp at hz; exact .inl hz)
            have HL' := hide (app_fin1 HP.out.1 HEq.out hdo)
            clear hdo
            go_wp2
            go_quiet (first | fail)
            go_wp2
            go_ret
            rw [HApp.out]
            exact ⟨rfl, HL'.out, (HP.out.2.drewN nq).trans (spost_set5N HQ.out.2 nq)⟩

end Go.Proofs.YtodmieehdleohaaGreat

namespace Go.Proofs.YtodmieehdleohaaGreat
open Go.RowKit NumMath
set_option linter.unusedVariables false
set_option maxRecDepth 100000

theorem cutE_at2 (X : Nat → Prop) (a : Option Addr) (len cap : Nat) (ms : List MEnt) (l n : Nat) (xl xh : Int) (w : World) (h : IsMs X w a len cap ms) (hm : l + n ≤ len) (hl : xl = ((l : Nat) : Int)) (hx : xh = ((l + n : Nat) : Int)) :
    Calls Tryz.prog 39 #[.slice a len cap, .int .i64 xl, .int .i64 xh] w fun e w' => ∃ b, e = .returned (.slice b n n) ∧ IsMs X w b n n ((ms.drop l).take n) ∧ w' = w := by
  subst hl
  exact cutE_at X a len cap ms l n xh w h hm hx

theorem isMs_take {X : Nat → Prop} {w : World} {base g n c : Nat} {ms : List MEnt} (h : RowM w base (.slice (some ⟨g, 0, none⟩) n c) ms) (ho : ∀ m ∈ ms, m.ok X w) (k : Nat) (hk : k ≤ n) : IsMs X w (some ⟨g, 0, none⟩) k k (ms.take k) := by
  have hi := h.is ho
  have hl := h.len
  refine ⟨by rw [List.length_take]; omega, Nat.le_refl _, by omega, fun m hm => ho m (List.mem_of_mem_take hm), ?_⟩
  by_cases k0 : k = 0
  · exact .inl k0
  · obtain ⟨g', off, e, hg, hC⟩ := hi.at (k := 0) (by omega)
    cases e
    refine .inr ⟨g, 0, rfl, hg, fun i hi => ?_⟩
    rw [List.length_take] at hi
    have e3 : (ms.take k).getD i ment0 = ms.getD i ment0 := by simp [List.getD, show i < k by omega]
    rw [e3]
    exact hC i (by omega)

theorem Cells7.set0 {w : World} {p : Nat} {v0 v1 v2 v3 v4 v5 v6 : Value} (h : Cells7 w p v0 v1 v2 v3 v4 v5 v6) (u : Value) : Cells7 (w.setCell ⟨p, 0, none⟩ u) p u v1 v2 v3 v4 v5 v6 := by
  obtain ⟨h0, h1, h2, h3, h4, h5, h6, hf⟩ := h
  exact ⟨World.cell?_setCell_same _ _ _ h0, (cell_set_off _ _ _ _ _ (by decide)).trans h1, (cell_set_off _ _ _ _ _ (by decide)).trans h2, (cell_set_off _ _ _ _ _ (by decide)).trans h3, (cell_set_off _ _ _ _ _ (by decide)).trans h4, (cell_set_off _ _ _ _ _ (by decide)).trans h5, (cell_set_off _ _ _ _ _ (by decide)).trans h6, fun i => by simp [hf]⟩

theorem Cells7.set1 {w : World} {p : Nat} {v0 v1 v2 v3 v4 v5 v6 : Value} (h : Cells7 w p v0 v1 v2 v3 v4 v5 v6) (u : Value) : Cells7 (w.setCell ⟨p, 1, none⟩ u) p v0 u v2 v3 v4 v5 v6 := by
  obtain ⟨h0, h1, h2, h3, h4, h5, h6, hf⟩ := h
  exact ⟨(cell_set_off _ _ _ _ _ (by decide)).trans h0, World.cell?_setCell_same _ _ _ h1, (cell_set_off _ _ _ _ _ (by decide)).trans h2, (cell_set_off _ _ _ _ _ (by decide)).trans h3, (cell_set_off _ _ _ _ _ (by decide)).trans h4, (cell_set_off _ _ _ _ _ (by decide)).trans h5, (cell_set_off _ _ _ _ _ (by decide)).trans h6, fun i => by simp [hf]⟩

theorem Cells7.set2 {w : World} {p : Nat} {v0 v1 v2 v3 v4 v5 v6 : Value} (h : Cells7 w p v0 v1 v2 v3 v4 v5 v6) (u : Value) : Cells7 (w.setCell ⟨p, 2, none⟩ u) p v0 v1 u v3 v4 v5 v6 := by
  obtain ⟨h0, h1, h2, h3, h4, h5, h6, hf⟩ := h
  exact ⟨(cell_set_off _ _ _ _ _ (by decide)).trans h0, (cell_set_off _ _ _ _ _ (by decide)).trans h1, World.cell?_setCell_same _ _ _ h2, (cell_set_off _ _ _ _ _ (by decide)).trans h3, (cell_set_off _ _ _ _ _ (by decide)).trans h4, (cell_set_off _ _ _ _ _ (by decide)).trans h5, (cell_set_off _ _ _ _ _ (by decide)).trans h6, fun i => by simp [hf]⟩

theorem Cells7.set3 {w : World} {p : Nat} {v0 v1 v2 v3 v4 v5 v6 : Value} (h : Cells7 w p v0 v1 v2 v3 v4 v5 v6) (u : Value) : Cells7 (w.setCell ⟨p, 3, none⟩ u) p v0 v1 v2 u v4 v5 v6 := by
  obtain ⟨h0, h1, h2, h3, h4, h5, h6, hf⟩ := h
  exact ⟨(cell_set_off _ _ _ _ _ (by decide)).trans h0, (cell_set_off _ _ _ _ _ (by decide)).trans h1, (cell_set_off _ _ _ _ _ (by decide)).trans h2, World.cell?_setCell_same _ _ _ h3, (cell_set_off _ _ _ _ _ (by decide)).trans h4, (cell_set_off _ _ _ _ _ (by decide)).trans h5, (cell_set_off _ _ _ _ _ (by decide)).trans h6, fun i => by simp [hf]⟩

theorem Cells7.set6 {w : World} {p : Nat} {v0 v1 v2 v3 v4 v5 v6 : Value} (h : Cells7 w p v0 v1 v2 v3 v4 v5 v6) (u : Value) : Cells7 (w.setCell ⟨p, 6, none⟩ u) p v0 v1 v2 v3 v4 v5 u := by
  obtain ⟨h0, h1, h2, h3, h4, h5, h6, hf⟩ := h
  exact ⟨(cell_set_off _ _ _ _ _ (by decide)).trans h0, (cell_set_off _ _ _ _ _ (by decide)).trans h1, (cell_set_off _ _ _ _ _ (by decide)).trans h2, (cell_set_off _ _ _ _ _ (by decide)).trans h3, (cell_set_off _ _ _ _ _ (by decide)).trans h4, (cell_set_off _ _ _ _ _ (by decide)).trans h5, World.cell?_setCell_same _ _ _ h6, fun i => by simp [hf]⟩

/-- a log of these cells -/
theorem isL_of7 {X : Nat → Prop} {w : World} {base p : Nat} {L : LogS} {ma : Option Addr} {mn mc : Nat} {da : Option Addr} {dn dc : Nat} {ea : Option Addr} {en ec : Nat} {ms : List MEnt} (h : Cells7 w p (.int .u64 L.s.i) (.int .u64 L.s.t) (.slice ma mn mc) (.slice da dn dc) (.slice ea en ec) (.int .u64 L.dirty) (.bool L.fresh))
    (hm : NumX X w ma mn mc L.s.m) (hd : DatB X w da dn dc L.s.d) (hr : RowM w base (.slice ea en ec) ms) (he : ms.map MEnt.e = L.es) (ho : ∀ m ∈ ms, m.ok X w) (hp : base ≤ p) (hn : some p ≠ (Value.slice ea en ec).ownBlock) (hx : X p) (hx4 : ∀ k, (Value.slice ea en ec).ownBlock = some k → X k) : IsL X w base p L :=
  ⟨ma, mn, mc, da, dn, dc, ea, en, ec, ms, h.1, h.2.1, h.2.2.1, h.2.2.2.1, h.2.2.2.2.1, h.2.2.2.2.2.1, h.2.2.2.2.2.2.1, h.2.2.2.2.2.2.2, hm, hd, hr, he, ho, hp, hn, hx, hx4⟩

theorem SB.of7 {w : World} {p k : Nat} {v0 v1 v2 v3 v4 v5 v6 : Value} (h : Cells7 w p v0 v1 v2 v3 v4 v5 v6) : SB 4 w p k ↔ k = p ∨ v4.ownBlock = some k := by
  constructor
  · rintro (h1 | ⟨v, hv, hb⟩)
    · exact .inl h1
    · rw [h.2.2.2.2.1] at hv
      cases hv
      exact .inr hb
  · rintro (h1 | h1)
    · exact .inl h1
    · exact .inr ⟨_, h.2.2.2.2.1, h1⟩

theorem far4 {w : World} {p g i : Nat} {v0 v1 v2 v3 u : Value} (hgp : g ≠ p) (h : w.cell? ⟨g, i, none⟩ = some u) : ((((w.setCell ⟨p, 0, none⟩ v0).setCell ⟨p, 1, none⟩ v1).setCell ⟨p, 2, none⟩ v2).setCell ⟨p, 3, none⟩ v3).cell? ⟨g, i, none⟩ = some u := by
  have e : ∀ (W : World) j v, (W.setCell ⟨p, j, none⟩ v).cell? ⟨g, i, none⟩ = W.cell? ⟨g, i, none⟩ := fun W j v => World.cell?_of_block (a := ⟨g, i, none⟩) (Below.heap_setCell _ _ _ _ hgp)
  rw [e, e, e, e]
  exact h

theorem comp_fin {X : Nat → Prop} {w w3 w5 w7 : World} {base p : Nat} {x tk : Int} {tm data : List Int} {y : Int} {v0 v1 v2 v3 v6 : Value} {b3 a5 a7 : Option Addr} {n3 d3 n5 d5 n7 d7 : Nat} {es : List MEnt} {E : List Ent}
    (hO3 : OwnU w3 w.heap.size (.slice b3 n3 d3) tm) (hR3 : ∀ z ∈ tm, 0 ≤ z ∧ z ≤ 18446744073709551615) (hB3 : Below w.heap.size w w3) (hR5 : RowM w5 w3.heap.size (.slice a5 n5 d5) es) (hB5 : Below w3.heap.size w3 w5)
    (hI7 : IsBytes w7 a7 n7 d7 data) (hY7 : ∀ z, a7 = some z → w5.heap.size ≤ z.block) (hB7 : Below w5.heap.size (w5.setCell ⟨p, 4, none⟩ (.slice a5 n5 d5)) w7)
    (h7 : Cells7 w7 p v0 v1 v2 v3 (.slice a5 n5 d5) (.int .u64 y) v6) (hO : ∀ m ∈ es, m.ok X w) (hE : es.map MEnt.e = E) (hXlt : ∀ k, X k → k < w.heap.size) (hplt : p < w.heap.size) (hxp : X p) (hp : base ≤ p) (hbase : base ≤ w.heap.size) (V : World)
    (hV : V = ((((w7.setCell ⟨p, 0, none⟩ (.int .u64 x)).setCell ⟨p, 1, none⟩ (.int .u64 tk)).setCell ⟨p, 2, none⟩ (.slice b3 n3 d3)).setCell ⟨p, 3, none⟩ (.slice a7 n7 d7)).setCell ⟨p, 6, none⟩ (.bool true)) :
    IsL (fun k => X k ∨ SB 4 V p k) V base p ⟨⟨x, tk, tm, data⟩, E, y, true⟩ ∧ SPost 4 w p V := by
  have hC : Cells7 V p (.int .u64 x) (.int .u64 tk) (.slice b3 n3 d3) (.slice a7 n7 d7) (.slice a5 n5 d5) (.int .u64 y) (.bool true) := by
    rw [hV]; exact ((((h7.set0 _).set1 _).set2 _).set3 _).set6 _
  have hs3 := hB3.size
  have hs5 := hB5.size
  have k7 : Keeps (fun k => k = p) w7 V := by
    rw [hV]; exact ((((Keeps.self _ w7).also _).also _).also _).also _ |>.also _
  have k57 : Keeps (fun k => k = p) w5 w7 := ((Keeps.self _ w5).also (i := 4) (.slice a5 n5 d5)).thenB (Nat.le_refl _) hB7
  have k5 : Keeps (fun k => k = p) w5 V := k57.trans k7
  have k3 : Keeps (fun k => k = p) w3 V := (Below.keeps hB5 _).trans k5
  have k0 : Keeps (fun k => k = p) w V := (Below.keeps hB3 _).trans k3
  have hl5 := hR5.lt
  have hl3 := hO3.lt
  have hSB : ∀ k, SB 4 V p k → k = p ∨ (Value.slice a5 n5 d5).ownBlock = some k := fun k hk => (SB.of7 hC).1 hk
  have hY : ∀ k, (X k ∨ SB 4 V p k) → X k ∨ w.heap.size ≤ k := by
    rintro k (h | h)
    · exact .inl h
    · rcases hSB k h with rfl | h
      · exact .inl hxp
      · have := (hl5 k h).1
        exact .inr (by omega)
  have hM : ∀ k, k = p → (X k ∨ SB 4 V p k) := by rintro k rfl; exact .inl hxp
  have hn5 : some p ≠ (Value.slice a5 n5 d5).ownBlock := by
    intro e
    have := (hl5 p e.symm).1
    omega
  refine ⟨isL_of7 (L := ⟨⟨x, tk, tm, data⟩, E, y, true⟩) hC ?_ ?_ ?_ hE (fun m hm => ((hO m hm).more hY).lies k0 hM) hp hn5 (.inl hxp) (fun k hk => .inr ((SB.of7 hC).2 (.inr hk))), k0.weaken (fun k hk => by subst hk; exact SB.at), fun k hk => (hSB k hk).elim (fun e => .inl (by subst e; exact SB.at)) (fun h => .inr (by have := (hl5 k h).1; omega))⟩
  · obtain ⟨a, n, c, e, hI, hy⟩ := hO3.is hR3
    cases e
    refine ⟨hI.lies k3 (.inr (fun z hz e => by have := (hy z hz).1; omega)), .inr (fun z hz hk => ?_)⟩
    have h1 := (hy z hz).1
    have h2 := (hl3 _ (hy z hz).2).2
    rcases hk with h | h
    · have := hXlt _ h; omega
    · rcases hSB _ h with h | h
      · omega
      · have := (hl5 _ h).1; omega
  · refine ⟨isB_liesX hI7 k7 (.inr (fun z hz e => by have := hY7 z hz; omega)), .inr (fun z hz hk => ?_)⟩
    have h1 := hY7 z hz
    rcases hk with h | h
    · have := hXlt _ h; omega
    · rcases hSB _ h with h | h
      · omega
      · have := (hl5 _ h).2; omega
  · refine (hR5.lies (fun g hg => k5.block g (hl5 g hg).2 (fun e => ?_))).mono (by omega)
    have := (hl5 g hg).1
    omega

end Go.Proofs.YtodmieehdleohaaGreat

namespace Go.Proofs.YtodmieehdleohaaGreat
open Go.RowKit NumMath
set_option linter.unusedVariables false
set_option maxRecDepth 100000

theorem xofMem_none (a : Option Addr) (len cap : Nat) (bs : List Int) (w : World) (h : IsBytes w a len cap bs) (hl : len ≤ 1000000000) (hN : memOf bs = none) :
    Calls Tryz.prog 151 #[.slice a len cap] w fun e w' => e = .returned (.tuple #[.slice none 0 0, .int .i64 30]) ∧ Below w.heap.size w w' := by
  refine (xofMem_any a len cap bs w h hl).mono ?_
  rintro e w' (⟨_, rfl, hb⟩ | ⟨l, a, n, c, h1, _⟩)
  · exact ⟨rfl, hb⟩
  · rw [hN] at h1; cases h1

theorem xofMem_some (a : Option Addr) (len cap : Nat) (bs l : List Int) (w : World) (h : IsBytes w a len cap bs) (hl : len ≤ 1000000000) (hN : memOf bs = some l) :
    Calls Tryz.prog 151 #[.slice a len cap] w fun e w' => ∃ b n c, e = .returned (.tuple #[.slice b n c, .int .i64 0]) ∧ OwnU w' w.heap.size (.slice b n c) l ∧ (∀ x ∈ l, 0 ≤ x ∧ x ≤ 18446744073709551615) ∧ l.length ≤ 9 ∧ Below w.heap.size w w' := by
  refine (xofMem_any a len cap bs w h hl).mono ?_
  rintro e w' (⟨h1, _⟩ | ⟨l', a, n, c, h1, rfl, ho, hr, h9, hb⟩)
  · rw [hN] at h1; cases h1
  · rw [hN] at h1
    cases h1
    exact ⟨a, n, c, rfl, ho, hr, h9, hb⟩

theorem told_succ (s : Snp) (es : List MEnt) (j k : Nat) (hj : j < es.length) (hk : j < k) : toldL s ((es.take (min (j + 1) k)).map MEnt.e) = stepT (toldL s ((es.take (min j k)).map MEnt.e)) (es.getD j ment0).e := by
  rw [show min (j + 1) k = j + 1 by omega, show min j k = j by omega, take_succ_m es j hj, List.map_append]
  exact told_snoc _ _ _

theorem told_over (s : Snp) (es : List MEnt) (j k : Nat) (hk : ¬ j < k) : toldL s ((es.take (min (j + 1) k)).map MEnt.e) = toldL s ((es.take (min j k)).map MEnt.e) := by
  rw [show min (j + 1) k = k by omega, show min j k = k by omega]

theorem numX_own {X : Nat → Prop} {w : World} {B : Nat} {b : Option Addr} {n c : Nat} {l : List Int} (h : OwnU w B (.slice b n c) l) (hr : ∀ x ∈ l, 0 ≤ x ∧ x ≤ 18446744073709551615) (hX : ∀ k, X k → k < B) : NumX X w b n c l := by
  obtain ⟨a', n', c', e, hI, hy⟩ := h.is hr
  cases e
  exact ⟨hI, .inr (fun y hy' hk => by have := (hy y hy').1; have := hX _ hk; omega)⟩

set_option maxHeartbeats 400000 in
theorem xtold_any (X : Nat → Prop) (p : Nat) (s : Snp) (ma : Option Addr) (mn mc : Nat) (a : Option Addr) (en ec : Nat) (es : List MEnt) (to : Int) (k : Nat) (w : World) (c0 : w.cell? ⟨p, 0, none⟩ = some (.int .u64 s.i)) (c2 : w.cell? ⟨p, 2, none⟩ = some (.slice ma mn mc)) (c4 : w.cell? ⟨p, 4, none⟩ = some (.slice a en ec)) (hm : NumX X w ma mn mc s.m) (hE : IsMs X w a en ec es) (hl : en ≤ 1000000) (hd : ∀ m ∈ es, m.n ≤ 1000000) (hk : ∀ j, j < en → (to < (es.getD j ment0).e.i ↔ ¬ j < k)) (hXlt : ∀ k, X k → k < w.heap.size) :
    Calls Tryz.prog 131 #[.pointer (some ⟨p, 0, none⟩), .int .u64 to] w fun e w' => ∃ b n c, e = .returned (.tuple #[.slice b n c, .int .u64 (toldL s ((es.take k).map MEnt.e)).2]) ∧ NumX X w' b n c (toldL s ((es.take k).map MEnt.e)).1 ∧ Below w.heap.size w w' := by
  have HM := hide hm
  have HE := hide hE
  have hen := hE.1
  have HEn := hide hen
  have HK := hide hk
  have HD := hide hd
  have HX := hide hXlt
  clear hm hE hd hk hen hXlt
  go_enter Tryz.func131, Tryz.ntmps131
  go_wp2
  go_quiet (first | fail)
  go_wp2
  go_loopw [6, 7, 27] (fun v at_ i wr => ∃ (j : Nat) (b : Option Addr) (n c : Nat), j ≤ en ∧ i = .int .i64 j ∧ v = .slice b n c ∧ at_ = .int .u64 (toldL s ((es.take (min j k)).map MEnt.e)).2 ∧ NumX X wr b n c (toldL s ((es.take (min j k)).map MEnt.e)).1 ∧ Below w.heap.size w wr) (fun _ _ i _ => en - (intOf i).toNat)
  case atStart => exact ⟨0, ma, mn, mc, Nat.zero_le _, rfl, rfl, by simp [toldL], by simp only [Nat.zero_min, List.take_zero, List.map_nil, toldL, List.foldl_nil]; exact HM.out.keep ⟨rfl, rfl, rfl, Nat.le_refl _, fun _ _ => rfl⟩, ⟨rfl, rfl, rfl, Nat.le_refl _, fun _ _ => rfl⟩⟩
  case round =>
    obtain ⟨j, b, n, c, hj, rfl, rfl, rfl, hN, hb⟩ := hrel
    have HN := hide hN
    have hsz := hb.size
    clear hN
    by_cases hlt : j < en
    · obtain ⟨g, off, rfl, hg, hC⟩ := HE.out.at hlt
      obtain ⟨q0, q1, q2, q3⟩ := (hC j (by have := HEn.out; omega)).same (hb.block g hg)
      have hik := HK.out j hlt
      have H1 := hide (fun (o : Obj) => (show Below w.heap.size w (wr.alloc o) from hb.trans ((new_below _ _).mono hb.size)))
      have HS := hide (told_succ s es j k (by rw [HEn.out]; exact hlt))
      have HV := hide (told_over s es j k)
      have HOk := hide (HE.out.2.2.2.1 _ (ment_mem es j (by rw [HEn.out]; exact hlt)))
      have HDn := hide (HD.out _ (ment_mem es j (by rw [HEn.out]; exact hlt)))
      generalize toldL s ((es.take (min j k)).map MEnt.e) = acc at *
      generalize es.getD j ment0 = m at *
      obtain ⟨⟨mi, mt, mk, md⟩, mb, mn', mc'⟩ := m
      obtain ⟨al, ai⟩ := acc
      dsimp only at *
      by_cases hk1 : mk = 1
      · by_cases hjk : j < k
        · have hd1 : ¬ to < mi := fun h => (hik.1 h) hjk
          cases hM : memOf md with
          | none =>
            have HS2 := hide ((HS.out hjk).trans (silent_none hM _))
            clear hik HS HV
            go_wp2_with (first
              | (go_at_call 151; go_must (refine (xofMem_none mb mn' mc' md _ (HOk.out.2.1.keep (by exact H1.out _)) (by have := HDn.out; omega) hM).mono ?_); rintro e w3 ⟨rfl, hb3⟩))
            go_roundw
            case rel => exact ⟨j + 1, b, n, c, by omega, by go_num, rfl, by rw [HS2.out], by rw [HS2.out]; exact (HN.out.keep (new_below _ _)).keep hb3, (H1.out _).trans (hb3.mono (by simp; omega))⟩
            case measure => simp [intOf]; omega
          | some l =>
            have HS2 := hide ((HS.out hjk).trans (step_told (acc := (al, ai)) (e := ⟨mi, mt, mk, md⟩) hk1 hM))
            clear hik HS HV
            go_wp2_with (first
              | (go_at_call 151; go_must (refine (xofMem_some mb mn' mc' md l _ (HOk.out.2.1.keep (by exact H1.out _)) (by have := HDn.out; omega) hM).mono ?_); rintro e w3 ⟨b3, n3, d3, rfl, ho3, hr3, h93, hb3⟩; have HB3 := hide hb3; have HO3 := hide ho3; have HR3 := hide hr3; have t0 := (hb3.cell (p := ⟨wr.heap.size, 0, none⟩) (by simp)).trans (show _ = some (Value.int .u64 mi) by simp); clear hb3 ho3 hr3 h93))
            go_quiet (first | fail)
            go_wp2
            go_roundw
            case rel => exact ⟨j + 1, b3, n3, d3, by omega, by go_num, rfl, by rw [HS2.out], by rw [HS2.out]; exact (numX_own HO3.out HR3.out (fun k hk => by have := HX.out k hk; simp; omega)).keep ⟨rfl, rfl, rfl, Nat.le_refl _, fun _ _ => rfl⟩, ((H1.out _).trans (HB3.out.mono (by simp; omega))).trans ⟨rfl, rfl, rfl, Nat.le_refl _, fun _ _ => rfl⟩⟩
            case measure => simp [intOf]; omega
        · have hd1 : to < mi := hik.2 hjk
          have HS2 := hide (HV.out hjk)
          clear hik
          go_wp2
          go_roundw
          case rel => exact ⟨j + 1, b, n, c, by omega, by go_num, rfl, by rw [HS2.out], by rw [HS2.out]; exact HN.out.keep (new_below _ _), hb.trans ((new_below _ _).mono hb.size)⟩
          case measure => simp [intOf]; omega
      · have hk2 : (mk == 1) = false := by simp [hk1]
        have HS2 : Hid (toldL s ((es.take (min (j + 1) k)).map MEnt.e) = (al, ai)) := by
          show _ = _
          by_cases hjk : j < k
          · exact (HS.out hjk).trans (silent_kind hk1 _)
          · exact HV.out hjk
        clear hik
        go_wp2
        go_roundw
        case rel => exact ⟨j + 1, b, n, c, by omega, by go_num, rfl, by rw [HS2.out], by rw [HS2.out]; exact HN.out.keep (new_below _ _), hb.trans ((new_below _ _).mono hb.size)⟩
        case measure => simp [intOf]; omega
    · have hjn : j = en := by omega
      subst hjn
      have HTk : Hid (es.take (min j k) = es.take k) := by
        show _ = _
        by_cases h : k ≤ j
        · rw [show min j k = k by omega]
        · rw [List.take_of_length_le (by rw [HEn.out]; omega), List.take_of_length_le (by rw [HEn.out]; omega)]
      go_wp2
      go_ret2
      rw [← HTk.out]
      exact ⟨b, n, c, rfl, HN.out, hb⟩

end Go.Proofs.YtodmieehdleohaaGreat

namespace Go.Proofs.YtodmieehdleohaaGreat
open Go.RowKit NumMath
set_option linter.unusedVariables false
set_option maxRecDepth 100000

theorem dat_small {L : LogS} {X : Nat → Prop} {w : World} {es : List MEnt} (hG : L.Good) (he : es.map MEnt.e = L.es) (ho : ∀ m ∈ es, m.ok X w) : ∀ m ∈ es, m.n ≤ 1000000 := fun m hm => by
  have h2 := (hG.ok m.e (by rw [← he]; exact List.mem_map_of_mem hm)).2
  have h3 := (ho m hm).2.1.1
  omega

set_option maxHeartbeats 400000 in
theorem xmem_any (X : Nat → Prop) (base p : Nat) (L : LogS) (w : World) (h : IsL X w base p L) (hG : L.Good) (hXlt : ∀ k, X k → k < w.heap.size) :
    Calls Tryz.prog 95 #[.pointer (some ⟨p, 0, none⟩)] w fun e w' => ∃ b n c, e = .returned (.tuple #[.slice b n c, .int .u64 (toldL L.s L.es).2]) ∧ NumX X w' b n c (toldL L.s L.es).1 ∧ Below w.heap.size w w' := by
  obtain ⟨ma, mn, mc, da, dn, dc, ea, en, ec, es, c0, c1, c2, c3, c4, c5, c6, hf, hm, hd', hr, he, ho, hp, hn, hx, hx4⟩ := h
  have hen := hr.len.1
  have hel : L.es.length = en := by rw [← he, List.length_map, hen]
  have HC := hide (xtold_any X p L.s ma mn mc ea en ec es 18446744073709551615 en w c0 c2 c4 hm (hr.is ho) (by have := hG.n; omega) (dat_small hG he ho) (fun j hj => by
    have h1 := (ho _ (ment_mem es j (by omega))).1.1
    constructor
    · intro h; omega
    · intro h; omega) hXlt)
  rw [List.take_of_length_le (by omega), he] at HC
  clear hm hd' hr he ho hn hx hx4 hf hG hen hel hXlt
  go_enter Tryz.func95, Tryz.ntmps95
  go_wp2_with (first
    | (go_at_call 131; go_must (refine HC.out.mono ?_); rintro e w2 ⟨b, n, c, rfl, ho2, hb2⟩))
  go_ret2
  exact ⟨b, n, c, rfl, ho2, hb2⟩

theorem xcomp_fin {X : Nat → Prop} {w w2 w5 : World} {base p : Nat} {x tk : Int} {tm data : List Int} {y : Int} {v0 v1 v2 v3 v4 v6 : Value} {b3 a5 a : Option Addr} {n3 d3 n5 d5 len cap : Nat} {es : List MEnt} {E : List Ent}
    (hN : NumX X w2 b3 n3 d3 tm) (hB2 : Below w.heap.size w w2) (hR5 : RowM w5 w2.heap.size (.slice a5 n5 d5) es) (hB5 : Below w2.heap.size w2 w5) (hD : DatB X w a len cap data)
    (h7 : Cells7 w5 p v0 v1 v2 v3 v4 (.int .u64 y) v6) (hO : ∀ m ∈ es, m.ok X w) (hE : es.map MEnt.e = E) (hplt : p < w.heap.size) (hxp : X p) (hp : base ≤ p) (hbase : base ≤ w.heap.size) (V : World)
    (hV : V = (((((w5.setCell ⟨p, 0, none⟩ (.int .u64 x)).setCell ⟨p, 1, none⟩ (.int .u64 tk)).setCell ⟨p, 2, none⟩ (.slice b3 n3 d3)).setCell ⟨p, 3, none⟩ (.slice a len cap)).setCell ⟨p, 4, none⟩ (.slice a5 n5 d5)).setCell ⟨p, 6, none⟩ (.bool true)) :
    IsL (fun k => X k ∨ SB 4 V p k) V base p ⟨⟨x, tk, tm, data⟩, E, y, true⟩ ∧ SPost 4 w p V := by
  have hC : Cells7 V p (.int .u64 x) (.int .u64 tk) (.slice b3 n3 d3) (.slice a len cap) (.slice a5 n5 d5) (.int .u64 y) (.bool true) := by
    rw [hV]; exact (((((h7.set0 _).set1 _).set2 _).set3 _).set4 _).set6 _
  have hs2 := hB2.size
  have hs5 := hB5.size
  have k5 : Keeps (fun k => k = p) w5 V := by
    rw [hV]; exact (((((Keeps.self _ w5).also _).also _).also _).also _).also _ |>.also _
  have k2 : Keeps (fun k => k = p) w2 V := (Below.keeps hB5 _).trans k5
  have k0 : Keeps (fun k => k = p) w V := (Below.keeps hB2 _).trans k2
  have hl5 := hR5.lt
  have hSB : ∀ k, SB 4 V p k → k = p ∨ (Value.slice a5 n5 d5).ownBlock = some k := fun k hk => (SB.of7 hC).1 hk
  have hY2 : ∀ k, (X k ∨ SB 4 V p k) → X k ∨ w2.heap.size ≤ k := by
    rintro k (h | h)
    · exact .inl h
    · rcases hSB k h with rfl | h
      · exact .inl hxp
      · exact .inr (hl5 k h).1
  have hY : ∀ k, (X k ∨ SB 4 V p k) → X k ∨ w.heap.size ≤ k := fun k hk => (hY2 k hk).imp id (fun h => by omega)
  have hM : ∀ k, k = p → (X k ∨ SB 4 V p k) := by rintro k rfl; exact .inl hxp
  have hn5 : some p ≠ (Value.slice a5 n5 d5).ownBlock := by
    intro e
    have := (hl5 p e.symm).1
    omega
  refine ⟨isL_of7 (L := ⟨⟨x, tk, tm, data⟩, E, y, true⟩) hC ((hN.more hY2).lies k2 hM) ((hD.more hY).lies k0 hM) ?_ hE (fun m hm => ((hO m hm).more hY).lies k0 hM) hp hn5 (.inl hxp) (fun k hk => .inr ((SB.of7 hC).2 (.inr hk))), k0.weaken (fun k hk => by subst hk; exact SB.at), fun k hk => (hSB k hk).elim (fun e => .inl (by subst e; exact SB.at)) (fun h => .inr (by have := (hl5 k h).1; omega))⟩
  refine (hR5.lies (fun g hg => k5.block g (hl5 g hg).2 (fun e => ?_))).mono (by omega)
  have := (hl5 g hg).1
  omega

set_option maxHeartbeats 400000 in
theorem xcomp_any (X : Nat → Prop) (base p : Nat) (L : LogS) (x : Int) (a : Option Addr) (len cap : Nat) (data : List Int) (w : World) (h : IsL X w base p L) (hG : L.Good) (hx0 : 0 ≤ x) (hD : DatB X w a len cap data) (hXlt : ∀ k, X k → k < w.heap.size) (hbase : base ≤ w.heap.size) :
    Calls Tryz.prog 97 #[.pointer (some ⟨p, 0, none⟩), .int .u64 x, .slice a len cap] w fun e w' => e = .returned (.int .i64 (compL L x data).1) ∧ IsL (fun k => X k ∨ SB 4 w' p k) w' base p (compL L x data).2 ∧ SPost 4 w p w' := by
  have H := hide h
  have hplt := h.at
  have hSX : Hid (∀ k, SB 4 w p k → X k) := fun k hk => (h.lt hk).2.2
  have HTm := hide (fun (W : World) (hW : Below w.heap.size w W) k hk hkl => xterm_at X base p L x k W (h.keep hW) hG hk hkl)
  obtain ⟨ma, mn, mc, da, dn, dc, ea, en, ec, es, c0, c1, c2, c3, c4, c5, c6, hf, hm, hd', hr, he, ho, hp, hn, hxp, hx4⟩ := h
  have hen := hr.len.1
  have hel : L.es.length = en := by rw [← he, List.length_map, hen]
  have i0 := hG.i0
  have i1 := hG.i1
  have hn5 : en ≤ 100000 := by have := hG.n; omega
  have HL := hide (fun (w1 : World) (hb1 : Below w.heap.size w w1) => (H.out.keep hb1).more (Y := fun k => X k ∨ SB 4 w1 p k) (fun k hk => hk.elim .inl (fun h => .inl (hSX.out k (h.same (hb1.block p hplt))))) (fun k hk => .inr hk))
  by_cases g1 : x < L.s.i + 1 ∨ L.s.i + L.es.length < x
  · rw [compL_no g1]
    rw [hel] at g1
    obtain ⟨z, y, hz, hy⟩ : ∃ z y : Bool, decide (x < L.s.i + 1) = z ∧ decide (L.s.i + (en : Int) < x) = y := ⟨_, _, rfl, rfl⟩
    have hzy : z = true ∨ (z = false ∧ y = true) := by
      rcases g1 with g | g
      · exact .inl (by rw [← hz]; exact decide_eq_true g)
      · cases z
        · exact .inr ⟨rfl, by rw [← hy]; exact decide_eq_true g⟩
        · exact .inl rfl
    clear hm hd' hr he ho hn hxp hx4 hf hel hen hG g1
    rcases hzy with rfl | ⟨rfl, rfl⟩
    all_goals
      go_enter Tryz.func97, Tryz.ntmps97
      go_wp2_with (first
        | (go_at_call 42; go_must (refine (xfirst_any p L.s.i _ (by exact c0) i0 i1).mono ?_); rintro e w' ⟨rfl, hw⟩; have hw := hw.symm; subst hw)
        | (go_at_call 43; go_must (refine (xlast_any p L.s.i ea en ec _ (by exact c0) (by exact c4) i0 i1 (by omega)).mono ?_); rintro e w' ⟨rfl, hw⟩; have hw := hw.symm; subst hw))
    · go_ret
      exact ⟨rfl, HL.out _ (Below.refl _ _), SPost.refl _ _ _⟩
    · go_ret
      exact ⟨rfl, HL.out _ (Below.refl _ _).drew, SPost.of_below hplt (Below.refl _ _).drew⟩
  obtain ⟨k, hk⟩ : ∃ k : Nat, x = L.s.i + 1 + k := ⟨(x - (L.s.i + 1)).toNat, by omega⟩
  have hkl : k < L.es.length := by omega
  have hke : k < en := by omega
  have HCm := hide (compL_yes (data := data) k hk hkl)
  have HT := hide (fun (W : World) (hW : Below w.heap.size w W) => HTm.out W hW k hk hkl)
  have HAt : ∀ j, j < en → (es.getD j ment0).e.i = L.s.i + 1 + j := fun j hj => by rw [← getD_map_e, he]; exact hG.at_ j (by omega)
  have HTo := hide (fun (W : World) (hW : Below w.heap.size w W) => xtold_any X p L.s ma mn mc ea en ec es x (k + 1) W ((hW.cell (p := ⟨p, 0, none⟩) hplt).trans c0) ((hW.cell (p := ⟨p, 2, none⟩) hplt).trans c2) ((hW.cell (p := ⟨p, 4, none⟩) hplt).trans c4) (hm.keep hW) ((hr.is ho).keep hW) (by omega) (dat_small hG he ho) (fun j hj => by rw [HAt j hj]; omega) (fun k hk => Nat.lt_of_lt_of_le (hXlt k hk) hW.size))
  rw [List.map_take, he] at HTo
  have HEn := hide (fun (W : World) (hW : Below w.heap.size w W) => xents_any X base p L es (x + 1) (k + 1) en W ea en ec ((hW.cell (p := ⟨p, 0, none⟩) hplt).trans c0) ((hW.cell (p := ⟨p, 4, none⟩) hplt).trans c4) ((hr.is ho).keep hW) he hG (by omega) (by omega) (by omega))
  have HO := hide ho
  have HEs := hide he
  have HDt := hide hD
  have H70 : Hid (Cells7 w p _ _ _ _ _ _ _) := ⟨c0, c1, c2, c3, c4, c5, c6, hf⟩
  have hz : decide (x < L.s.i + 1) = false := decide_eq_false (by omega)
  have hy : decide (L.s.i + (en : Int) < x) = false := decide_eq_false (by omega)
  have hwx : IntKind.u64.wrap (x + 1) = x + 1 := kwrap_u64 _ (by omega) (by omega)
  clear hm hd' hr he ho hn hx4 hf hel hen hG hk hkl g1 hD HAt HTm
  generalize (L.es.getD k ent0).t = tk at *
  generalize toldL L.s (L.es.take (k + 1)) = tl at *
  obtain ⟨tm, ti⟩ := tl
  dsimp only at *
  go_enter Tryz.func97, Tryz.ntmps97
  go_wp2_with (first
    | (go_at_call 42; go_must (refine (xfirst_any p L.s.i _ (by exact c0) i0 i1).mono ?_); rintro e w' ⟨rfl, hw⟩; have hw := hw.symm; subst hw)
    | (go_at_call 43; go_must (refine (xlast_any p L.s.i ea en ec _ (by exact c0) (by exact c4) i0 i1 (by omega)).mono ?_); rintro e w' ⟨rfl, hw⟩; have hw := hw.symm; subst hw)
    | (go_at_call 87; go_must (refine (HT.out _ (by exact (Below.refl _ w).drew)).mono ?_); rintro e w1 ⟨rfl, hb1⟩; have HB1 : Hid (Below w.heap.size w w1) := ((Below.refl _ w).drew).trans hb1; clear hb1)
    | (go_at_call 131; go_must (refine (HTo.out _ (by exact HB1.out)).mono ?_); rintro e w2 ⟨b3, n3, d3, rfl, hn3, hb2⟩; have HB2 := hide (HB1.out.trans (hb2.mono HB1.out.size)); have HN3 := hide hn3; have c42 := (HB2.out.cell (p := ⟨p, 4, none⟩) hplt).trans c4; clear hn3 hb2)
    | (go_at_call 133; go_must (refine (HEn.out _ (by exact HB2.out)).mono ?_); rintro e w5 ⟨a5, n5, d5, rfl, hr5, ho5, hb5⟩; have HB5 := hide hb5; have HR5 := hide hr5; have H75 := hide ((H70.out.same (HB2.out.block p hplt)).same (hb5.block p (Nat.lt_of_lt_of_le hplt HB2.out.size))); obtain ⟨s0, s1, s2, s3, s4, s5, s6, sf⟩ := H75.out; have u0 := sf 0; have u1 := sf 1; have u2 := sf 2; have u3 := sf 3; have u4 := sf 4; have u6 := sf 6; clear sf hr5 ho5 hb5))
  go_ret
  rw [HCm.out]
  obtain ⟨hL, hS⟩ := xcomp_fin (w := w) (X := X) (base := base) (E := L.es.drop (k + 1)) (x := x) (tk := tk) HN3.out HB2.out HR5.out HB5.out HDt.out H75.out (fun m hm => HO.out m (List.mem_of_mem_drop hm)) (by rw [List.map_drop, HEs.out]) hplt hxp hp hbase _ rfl
  exact ⟨rfl, hL, hS⟩

end Go.Proofs.YtodmieehdleohaaGreat
