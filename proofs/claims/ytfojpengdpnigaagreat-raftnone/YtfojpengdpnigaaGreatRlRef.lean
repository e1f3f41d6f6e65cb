/- The reference's log: NewLog, Term, Entries, Append. -/
import Derived.Test.YtfojpengdpnigaaGreatKp
import Derived.BigQuiet
namespace Go.Proofs.YtfojpengdpnigaaGreat
open Go.RowKit NumMath
set_option linter.unusedVariables false
set_option maxRecDepth 100000

set_option maxHeartbeats 400000 in
theorem xnew_any (X : Nat → Prop) (i t : Int) (ma : Option Addr) (mn mc : Nat) (m : List Int) (da : Option Addr) (dn dc : Nat) (d : List Int) (w : World) (hm : NumX X w ma mn mc m) (hd : DatB X w da dn dc d) :
    Calls Tryz.prog 12 #[.agg #[.int .u64 i, .int .u64 t, .slice ma mn mc, .slice da dn dc]] w fun e w' => ∃ p, e = .returned (.pointer (some ⟨p, 0, none⟩)) ∧ w.heap.size ≤ p ∧ IsL (fun k => X k ∨ k = p) w' w.heap.size p ⟨⟨capI i, t, m, d⟩, [], 0, false⟩ ∧ Below w.heap.size w w' := by
  have HM := hide hm
  have HD := hide hd
  clear hm hd
  by_cases hi : 4611686018427387904 < i
  · have hc : Hid (capI i = 4611686018427387904) := by show _ = _; unfold capI; rw [if_pos hi]
    go_enter Tryz.func12, Tryz.ntmps12
    go_wp2
    go_ret
    rw [hc.out]
    refine ⟨w.heap.size + 1, rfl, by omega, isL_new X _ w.heap.size (w.heap.size + 1) _ t ma mn mc m da dn dc d _ (by simp) (by omega) (HM.out.keep (new_below _ _)) (HD.out.keep (new_below _ _)), (new_below _ _).alloc (by simp) _⟩
  · have hc : Hid (capI i = i) := by show _ = _; unfold capI; rw [if_neg hi]
    go_enter Tryz.func12, Tryz.ntmps12
    go_wp2
    go_ret
    rw [hc.out]
    refine ⟨w.heap.size + 1, rfl, by omega, isL_new X _ w.heap.size (w.heap.size + 1) i t ma mn mc m da dn dc d _ (by simp) (by omega) (HM.out.keep (new_below _ _)) (HD.out.keep (new_below _ _)), (new_below _ _).alloc (by simp) _⟩

/-- the term that a log tells of an index -/
def termL (L : LogS) (x : Int) : Int × Bool := if x = L.s.i then (L.s.t, true) else if x < L.s.i + 1 ∨ L.s.i + L.es.length < x then (0, false) else ((L.es.getD (x - (L.s.i + 1)).toNat ent0).t, true)

theorem termL_at {L : LogS} {x : Int} (k : Nat) (hk : x = L.s.i + 1 + k) (h : k < L.es.length) : termL L x = ((L.es.getD k ent0).t, true) := by
  unfold termL
  rw [if_neg (by omega), if_neg (by omega), show (x - (L.s.i + 1)).toNat = k by omega]

set_option maxHeartbeats 400000 in
theorem xterm_at (X : Nat → Prop) (base p : Nat) (L : LogS) (x : Int) (k : Nat) (w : World) (h : IsL X w base p L) (hG : L.Good) (hk : x = L.s.i + 1 + k) (hkl : k < L.es.length) :
    Calls Tryz.prog 87 #[.pointer (some ⟨p, 0, none⟩), .int .u64 x] w fun e w' => e = .returned (.tuple #[.int .u64 (L.es.getD k ent0).t, .bool true]) ∧ Below w.heap.size w w' := by
  obtain ⟨ma, mn, mc, da, dn, dc, ea, en, ec, es, c0, c1, c2, c3, c4, c5, c6, hf, hm, hd', hr, he, ho, hp, hn, hxp, hx4⟩ := h
  have hen := hr.len.1
  have hel : L.es.length = en := by rw [← he, List.length_map, hen]
  have hn5 : en ≤ 100000 := by have := hG.n; omega
  obtain ⟨g, hga, hg1, hg2, hcell, hfr⟩ := hr.row (by omega)
  subst hga
  have HC : Hid (∀ j, j < en → CellM w g (j * 4) (es.getD j ment0)) := hcell
  have HAt : Hid (∀ j, j < en → (es.getD j ment0).e.i = L.s.i + 1 + j) := fun j hj => by rw [← getD_map_e, he]; exact hG.at_ j (by omega)
  have HT : Hid ((es.getD k ment0).e.t = (L.es.getD k ent0).t) := by show _ = _; rw [← he, getD_map_e]
  have hne : (x == L.s.i) = false := by simp; omega
  have HK := hide hk
  have hke : k < en := by omega
  clear hm hd' hr he ho hn hxp hx4 hf hel hen hG hcell hfr hk hkl
  generalize (L.es.getD k ent0).t = tt at *
  go_enter Tryz.func87, Tryz.ntmps87
  go_wp2
  go_loopw [25] (fun i wr => ∃ j : Nat, j ≤ k ∧ i = .int .i64 j ∧ Below w.heap.size w wr) (fun i _ => k - (intOf i).toNat)
  case atStart => exact ⟨0, Nat.zero_le _, rfl, Below.refl _ _⟩
  case round =>
    obtain ⟨j, hj, rfl, hb⟩ := hrel
    obtain ⟨q0, q1, q2, q3⟩ := (HC.out j (by omega)).same (hb.block g hg2)
    have hje : (j : Int) < (en : Int) := by omega
    have ei := HAt.out j (by omega)
    by_cases hjk : j = k
    · subst hjk
      rw [HT.out] at q1
      rw [ei] at q0
      have hq : (L.s.i + 1 + (j : Int) == x) = true := by simp [HK.out]
      generalize es.getD j ment0 = m at *
      obtain ⟨⟨mi, mt, mk, md⟩, mb, mn', mc'⟩ := m
      dsimp only at q0 q1 q2 q3
      clear ei
      go_wp2
      go_ret2
      exact ⟨rfl, hb.trans ((new_below _ _).mono hb.size)⟩
    · rw [ei] at q0
      have hq : (L.s.i + 1 + (j : Int) == x) = false := by simp [HK.out]; omega
      generalize es.getD j ment0 = m at *
      obtain ⟨⟨mi, mt, mk, md⟩, mb, mn', mc'⟩ := m
      dsimp only at q0 q1 q2 q3
      clear ei
      go_wp2
      go_roundw
      case rel => exact ⟨j + 1, by omega, by go_num, hb.trans ((new_below _ _).mono hb.size)⟩
      case measure => simp [intOf]; omega

theorem getD_drop_e (ms : List Ent) (k j : Nat) : (ms.drop k).getD j ent0 = ms.getD (k + j) ent0 := by simp [List.getD]

theorem take_succ_m (ms : List MEnt) (j : Nat) (h : j < ms.length) : ms.take (j + 1) = ms.take j ++ [ms.getD j ment0] := by
  rw [List.take_add_one, List.getElem?_eq_getElem h]
  simp [List.getD, List.getElem?_eq_getElem h]

theorem cellsM_box (w : World) (m : MEnt) (ty : TypeId) (g : Nat) (hg : w.heap.size = g) : SrcM (w.alloc (.cells #[.int .u64 m.e.i, .int .u64 m.e.t, .int .i64 m.e.k, .slice m.b m.n m.c] ty)) (some ⟨g, 0, none⟩) 1 [m] := by
  refine ⟨rfl, .inr ⟨g, 0, rfl, by subst hg; simp, fun i hi => ?_⟩⟩
  match i, hi with
  | 0, _ => exact cellM_new w m.e m.b m.n m.c g ty hg

/-- a list of entries, some of a log's own, in memory of their own -/
def PartE (X : Nat → Prop) (w : World) (base : Nat) (es : List MEnt) (e : Ending) (w' : World) : Prop := ∃ b n c, e = .returned (.slice b n c) ∧ RowM w' base (.slice b n c) es ∧ (∀ m ∈ es, m.ok X w') ∧ Below w.heap.size w w'

set_option maxHeartbeats 1000000 in
/-- all from the k-th on, if there may be as many -/
theorem xents_any (X : Nat → Prop) (base p : Nat) (L : LogS) (es : List MEnt) (x : Int) (k : Nat) (most : Nat) (w : World) (a : Option Addr) (en ec : Nat) (c0 : w.cell? ⟨p, 0, none⟩ = some (.int .u64 L.s.i)) (c4 : w.cell? ⟨p, 4, none⟩ = some (.slice a en ec)) (hr : IsMs X w a en ec es) (he : es.map MEnt.e = L.es) (hG : L.Good) (hk : x = L.s.i + 1 + k) (hm : en ≤ k + most) (hm2 : most ≤ 1000000) :
    Calls Tryz.prog 133 #[.pointer (some ⟨p, 0, none⟩), .int .u64 x, .int .i64 (most : Int)] w fun e w' => PartE X w w.heap.size (es.drop k) e w' := by
  have hen := hr.1
  have hel : L.es.length = en := by rw [← he, List.length_map, hen]
  have hn5 : en ≤ 100000 := by have := hG.n; omega
  have i0 := hG.i0
  have i1 := hG.i1
  have HI := hide hr
  have HAt : Hid (∀ j, j < en → (es.getD j ment0).e.i = L.s.i + 1 + j) := fun j hj => by rw [← getD_map_e, he]; exact hG.at_ j (by omega)
  have HK := hide hk
  have HE := hide hen
  have g1 : ¬ x < L.s.i + 1 := by omega
  clear hr he hel hen hG hk
  go_enter Tryz.func133, Tryz.ntmps133
  go_wp2_with (first
    | (go_at_call 42; go_must (refine (xfirst_any p L.s.i _ c0 i0 i1).mono ?_); rintro e w' ⟨rfl, hw⟩; have hw := hw.symm; subst hw))
  go_loopw [7, 19] (fun v i wr => ∃ j : Nat, j ≤ en ∧ i = .int .i64 j ∧ RowM wr w.heap.size v ((es.take j).drop k) ∧ Below w.heap.size w wr) (fun _ i _ => en - (intOf i).toNat)
  case atStart => exact ⟨0, Nat.zero_le _, rfl, by simp; exact rowM_nil _ _, Below.refl _ _⟩
  case round =>
    obtain ⟨j, hj, rfl, hrow, hb⟩ := hrel
    have HR := hide hrow
    have hsz := hb.size
    obtain ⟨va, vn, vc, rfl⟩ := hrow.any3
    have hvn := hrow.len.1
    rw [List.length_drop, List.length_take, HE.out] at hvn
    clear hrow
    by_cases hlt : j < en
    · obtain ⟨g, off, rfl, hg, hC⟩ := HI.out.at hlt
      obtain ⟨q0, q1, q2, q3⟩ := (hC j (by have := HE.out; omega)).same (hb.block g hg)
      have ei := HAt.out j hlt
      have HTk := hide (take_succ_m es j (by have := HE.out; omega))
      by_cases hjk : j < k
      · have hd1 : (x ≤ (es.getD j ment0).e.i) = False := eq_false (by rw [ei, HK.out]; omega)
        have HEq : Hid ((es.take (j + 1)).drop k = (es.take j).drop k) := by
          show _ = _
          rw [List.drop_of_length_le (by rw [List.length_take]; omega), List.drop_of_length_le (by rw [List.length_take]; omega)]
        generalize es.getD j ment0 = m at *
        obtain ⟨⟨mi, mt, mk, md⟩, mb, mn', mc'⟩ := m
        dsimp only at q0 q1 q2 q3 hd1
        have hd2 : decide (x ≤ mi) = false := by simp [hd1]
        clear ei hvn hC
        go_wp2
        go_roundw
        case rel => exact ⟨j + 1, by omega, by go_num, by rw [HEq.out]; exact HR.out.keep (new_below _ _), hb.trans ((new_below _ _).mono hb.size)⟩
        case measure => simp [intOf]; omega
      · have hd1 : (x ≤ (es.getD j ment0).e.i) = True := eq_true (by rw [ei, HK.out]; omega)
        have HEq : Hid ((es.take (j + 1)).drop k = (es.take j).drop k ++ [es.getD j ment0]) := by
          show _ = _
          rw [HTk.out, List.drop_append_of_le_length (by rw [List.length_take, HE.out]; omega)]
        have HSrc := hide (fun (W : World) ty g hg => cellsM_box W (es.getD j ment0) ty g hg)
        generalize es.getD j ment0 = m at *
        obtain ⟨⟨mi, mt, mk, md⟩, mb, mn', mc'⟩ := m
        dsimp only at q0 q1 q2 q3 hd1 HSrc
        have hd2 : decide (x ≤ mi) = true := by simp [hd1]
        have hvm : (vn : Int) < (most : Int) := by omega
        have hvl : vn ≤ 100000 := by omega
        have HVl := hide hvn
        clear ei hvn hC
        go_wp2_with (first
          | (at_builtin; go_must (refine wp_joinM _ rfl (.tmp 33) (.tmp 35) rfl w.heap.size _ _ rfl ((HR.out.keep (new_below _ _)).keep (new_below _ _)) (some ⟨wr.heap.size + 1, 0, none⟩) 1 1 [⟨⟨mi, mt, mk, md⟩, mb, mn', mc'⟩] rfl (HSrc.out _ _ _ (by simp)) (by rw [List.length_drop, List.length_take, HE.out]; simp; omega) (by simp; omega) ?_); intro v5 w5 hr5 hg5 hat5; have HR5 := hide hr5; have hb5 : Below w.heap.size w w5 := (hb.trans ((new_below _ _).mono hb.size)).trans (((new_below _ _).mono (by simp; omega)).trans (((HR.out.keep (new_below _ _)).keep (new_below _ _)).grown hg5 (by simp; omega))); clear hr5 hg5 hat5))
        go_roundw
        case rel => exact ⟨j + 1, by omega, by go_num, by rw [HEq.out]; exact HR5.out, hb5⟩
        case measure => simp [intOf]; omega
    · have hjn : j = en := by omega
      subst hjn
      go_wp2
      go_ret
      have h6 := HR.out
      rw [List.take_of_length_le (by rw [HE.out]; exact Nat.le_refl _)] at h6
      exact ⟨va, vn, vc, rfl, h6, fun m hm => (HI.out.2.2.2.1 m (List.mem_of_mem_drop hm)).keep hb, hb⟩

end Go.Proofs.YtfojpengdpnigaaGreat
