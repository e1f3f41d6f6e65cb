/- The reference's table of locks at offset 3 of its block. Printed by part/gen_loa.py. -/
import Derived.Test.YtcgiicmmfleinaaGreatDoorLkC
namespace Go.Proofs.YtcgiicmmfleinaaGreatDoor.O3
open Go.RowKit NumMath Go.ChangeShapes Go.WideShapes Go.Deep
set_option linter.unusedVariables false
set_option maxRecDepth 100000

variable {oc : Nat → Option Value}


/-- the reference's table at block q, as it is read -/
structure TxA (w : World) (q : Nat) (ha : Option Addr) (hn hc : Nat) (wa : Option Addr) (wn wc : Nat) (hs ws : List ML) : Prop where
  c0 : w.cell? ⟨q, 3, none⟩ = some (.slice ha hn hc)
  c1 : w.cell? ⟨q, 4, none⟩ = some (.slice wa wn wc)
  q : q < w.heap.size
  h : IsY layK w ha hn hc hs
  wt : IsY layK w wa wn wc ws
  ho : ∀ m ∈ hs, m.ok w
  wo : ∀ m ∈ ws, m.ok w

theorem TxA.keep {w w' : World} {q : Nat} {ha : Option Addr} {hn hc : Nat} {wa : Option Addr} {wn wc : Nat} {hs ws : List ML} (h : TxA w q ha hn hc wa wn wc hs ws) (hb : Below w.heap.size w w') : TxA w' q ha hn hc wa wn wc hs ws :=
  ⟨(hb.cell (p := ⟨q, 3, none⟩) h.q).trans h.c0, (hb.cell (p := ⟨q, 4, none⟩) h.q).trans h.c1, Nat.lt_of_lt_of_le h.q hb.size, h.h.keep hb, h.wt.keep hb, fun m hm => (h.ho m hm).keep hb, fun m hm => (h.wo m hm).keep hb⟩

set_option maxHeartbeats 4000000 in
theorem way_any (q : Nat) (ha : Option Addr) (hn hc : Nat) (wa : Option Addr) (wn wc : Nat) (hs ws : List ML) (x : ML) (aa : Option Addr) (an ac : Nat) (bs : List ML) (w : World) (h : TxA w q ha hn hc wa wn wc hs ws) (hx : x.ok w) (h2 : IsY layK w aa an ac bs) (ho : ∀ m ∈ bs, m.ok w) (hb1 : hn ≤ 100000) (hb2 : an ≤ 100000) :
    Calls Tryz.prog 127 #[.pointer (some ⟨q, 3, none⟩), .agg #[.int .u64 x.l.tx, .int .i64 x.l.lv, .int .i64 x.l.md, .slice x.la x.ln x.lc, .slice x.ha x.hn x.hc], .slice aa an ac] w fun e w' => ∃ v, e = .returned v ∧ OwnY layK w' w.heap.size v (wayM hs bs x) ∧ Below w.heap.size w w' := by
  have hbx := new_below w (.cells #[.int .u64 x.l.tx, .int .i64 x.l.lv, .int .i64 x.l.md, .slice x.la x.ln x.lc, .slice x.ha x.hn x.hc] 41)
  have hq := h.q
  obtain ⟨w1, hw1⟩ : ∃ w1, w1 = w.alloc (.cells #[.int .u64 x.l.tx, .int .i64 x.l.lv, .int .i64 x.l.md, .slice x.la x.ln x.lc, .slice x.ha x.hn x.hc] 41) := ⟨_, rfl⟩
  rw [← hw1] at hbx
  have hs1 : w1.heap.size = w.heap.size + 1 := by rw [hw1]; simp
  have HX1 : Hid (At5 w1 w.heap.size 0 x) := by rw [hw1]; exact at5_new w x
  have H1 := hide (h.keep hbx)
  have HXo := hide (hx.keep hbx)
  have HA := hide (h2.keep hbx)
  have HAo := hide (fun m hm => (ho m hm).keep hbx)
  have HBx := hide hbx
  have hmc : (hc : Int) ≤ 9223372036854775807 := by have := h.h.2.2.1; unfold maxLen at this; omega
  have hnc := h.h.2.1
  have hnl := h.h.1
  have HV : Hid (∀ V, Below w1.drew.heap.size w1.drew V → V.cell? ⟨q, 3, none⟩ = some (.slice ha hn hc) ∧ V.cell? ⟨q, 4, none⟩ = some (.slice wa wn wc) ∧ V.cell? ⟨w.heap.size, 0, none⟩ = some (.int .u64 x.l.tx) ∧ V.cell? ⟨w.heap.size, 1, none⟩ = some (.int .i64 x.l.lv) ∧ V.cell? ⟨w.heap.size, 2, none⟩ = some (.int .i64 x.l.md) ∧ V.cell? ⟨w.heap.size, 3, none⟩ = some (.slice x.la x.ln x.lc) ∧ V.cell? ⟨w.heap.size, 4, none⟩ = some (.slice x.ha x.hn x.hc)) := fun V hV => by
    have hV2 := below_undrew hV
    have hT := H1.out.keep hV2
    exact ⟨hT.c0, hT.c1, (HX1.out.same (hV2.block _ (by omega))).zero⟩
  have HAg := hide (against_any ha hn hc hs x w1.drew (H1.out.keep (Below.refl _ _).drew).h (H1.out.keep (Below.refl _ _).drew).ho (HXo.out.keep (Below.refl _ _).drew) hb1)
  clear h hx h2 ho hbx
  go_enter Tryz.func127, Tryz.ntmps127
  go_wp2
  rw [← hw1]
  clear hw1
  refine startX 99 (by kernel_rfl) ?_
  refine' takeX (E := 99) (i := 0) (v := _) rfl (by kernel_rfl) (by kernel_rfl) (by kernel_rfl) (by kernel_rfl) (fun _ _ _ h => h) (by rfl) (Below.refl _ _) ?_ ?_; rotate_left
  · (intro V hSV; obtain ⟨y0, y1, x0, x1, x2, x3, x4⟩ := HV.out V hSV; go_simp; all_goals (with_reducible rfl))
  (try simp only [Act.put, List.setIfInBounds_toArray, List.set_cons_zero, List.set_cons_succ])
  refine' takeX (E := 99) (i := 1) (v := _) rfl (by kernel_rfl) (by kernel_rfl) (by kernel_rfl) (by kernel_rfl) (fun _ _ _ h => h) (by rfl) (Below.refl _ _) ?_ ?_; rotate_left
  · (intro V hSV; obtain ⟨y0, y1, x0, x1, x2, x3, x4⟩ := HV.out V hSV; go_simp; all_goals (with_reducible rfl))
  (try simp only [Act.put, List.setIfInBounds_toArray, List.set_cons_zero, List.set_cons_succ])
  refine' takeX (E := 99) (i := 2) (v := _) rfl (by kernel_rfl) (by kernel_rfl) (by kernel_rfl) (by kernel_rfl) (fun _ _ _ h => h) (by rfl) (Below.refl _ _) ?_ ?_; rotate_left
  · (intro V hSV; obtain ⟨y0, y1, x0, x1, x2, x3, x4⟩ := HV.out V hSV; go_simp; all_goals (with_reducible rfl))
  (try simp only [Act.put, List.setIfInBounds_toArray, List.set_cons_zero, List.set_cons_succ])
  refine' takeX (E := 99) (i := 3) (v := _) rfl (by kernel_rfl) (by kernel_rfl) (by kernel_rfl) (by kernel_rfl) (fun _ _ _ h => h) (by rfl) (Below.refl _ _) ?_ ?_; rotate_left
  · (intro V hSV; obtain ⟨y0, y1, x0, x1, x2, x3, x4⟩ := HV.out V hSV; go_simp; all_goals (with_reducible rfl))
  (try simp only [Act.put, List.setIfInBounds_toArray, List.set_cons_zero, List.set_cons_succ])
  refine' takeX (E := 99) (i := 4) (v := _) rfl (by kernel_rfl) (by kernel_rfl) (by kernel_rfl) (by kernel_rfl) (fun _ _ _ h => h) (by rfl) (Below.refl _ _) ?_ ?_; rotate_left
  · (intro V hSV; obtain ⟨y0, y1, x0, x1, x2, x3, x4⟩ := HV.out V hSV; go_simp; all_goals (with_reducible rfl))
  (try simp only [Act.put, List.setIfInBounds_toArray, List.set_cons_zero, List.set_cons_succ])
  refine callX (i := 5) rfl (by kernel_rfl) (fun K hK => ?_)
  go_simp
  refine HAg.out.mono ?_
  rintro e w2 ⟨v2, rfl, ho2, hb2⟩
  obtain ⟨va, vn, vc, rfl⟩ := ho2.any3
  have HB2 := hide (below_undrew hb2)
  have HO2 : Hid (OwnY layK w2 w1.heap.size (.slice va vn vc) (hs.filter (fun m => standsL x.l m.l))) := ho2
  refine hK.out _ _ (fun _ => hb2) ?_
  clear hK K ho2 hb2
  (try simp only [Act.put, List.setIfInBounds_toArray, List.set_cons_zero, List.set_cons_succ])
  refine callX (i := 6) rfl (by kernel_rfl) (fun K hK => ?_)
  go_simp
  refine hK.out _ _ (fun _ => (by have t := HB2.out; exact ⟨t.os, t.tape, t.output, t.size, t.block⟩)) ?_
  clear hK K
  (try simp only [Act.put, List.setIfInBounds_toArray, List.set_cons_zero, List.set_cons_succ])
  refine doneX (by kernel_rfl) ?_ _
  have hT2 := H1.out.keep HB2.out
  have c02 := hT2.c0
  have HT2 := hide hT2
  have HX2 := hide (HX1.out.same (HB2.out.block _ (by omega)))
  have hs2 := HB2.out.size
  clear hT2 HV HAg
  go_wp2
  go_loopg [21] hn (fun gk i wr => ∃ k : Nat, gk = hn - k ∧ i = .int .i64 k ∧ k ≤ hn ∧ holdsL ((hs.take k).map ML.l) x.l = false ∧ Below w2.heap.size w2 wr)
  case atStart => exact ⟨0, rfl, rfl, Nat.zero_le _, rfl, Below.refl _ _⟩
  case round =>
    clear c02
    obtain ⟨k, rfl, rfl, hk, hH, hB⟩ := hrel
    have HB := hide hB
    have HH := hide hH
    clear hH
    have hswr := hB.size
    by_cases hlt : k < hn
    · have hlt' : (k : Int) < (hn : Int) := by omega
      obtain ⟨m, hmk⟩ := ml_at (hs := hs) (k := k) (by omega)
      obtain ⟨g, off, rfl, hg, hC⟩ := HT2.out.h.at hlt
      have d := at5_of (rangeY_same (hC k m hmk) (hB.block g hg))
      obtain ⟨d0, d1, d2, d3, d4⟩ := d
      have d0 : wr.cell? ⟨g, off + k * 5, none⟩ = some (.int .u64 m.l.tx) := d0
      have d1 : wr.cell? ⟨g, off + k * 5 + 1, none⟩ = some (.int .i64 m.l.lv) := d1
      have d2 : wr.cell? ⟨g, off + k * 5 + 2, none⟩ = some (.int .i64 m.l.md) := d2
      have d3 : wr.cell? ⟨g, off + k * 5 + 3, none⟩ = some (.slice m.la m.ln m.lc) := d3
      have d4 : wr.cell? ⟨g, off + k * 5 + 4, none⟩ = some (.slice m.ha m.hn m.hc) := d4
      have hbN := new_below wr (.cells #[.int .u64 m.l.tx, .int .i64 m.l.lv, .int .i64 m.l.md, .slice m.la m.ln m.lc, .slice m.ha m.hn m.hc] 41)
      have hb2N := hB.trans (hbN.mono hswr)
      obtain ⟨x0, x1, x2, x3, x4⟩ := (HX2.out.same (hb2N.block _ (by omega))).zero
      have HMe := hide (meets_any m x _ ((HT2.out.ho m (List.mem_of_getElem? hmk)).keep hb2N) ((HXo.out.keep HB2.out).keep hb2N))
      have HMo := hide (holds_more (x := x) hmk)
      rw [HH.out] at HMo
      have HB2N := hide hb2N
      clear hC hmk hB hbN hb2N
      by_cases ht : m.l.tx = x.l.tx
      · have ht' : (m.l.tx == x.l.tx) = true := by simp [ht]
        rw [ht'] at HMo
        clear ht
        cases hme : meetsL m.l x.l with
        | true =>
          rw [hme] at HMe HMo
          clear hme
          go_wp2_with (first
            | (go_at_call 158; go_must (refine HMe.out.mono ?_); rintro e w3 ⟨rfl, hb3⟩; have HB3 := hide (HB2N.out.trans (hb3.mono HB2N.out.size)); clear hb3))
          go_ret
          have hw : wayM hs bs x = hs.filter (fun m => standsL x.l m.l) := by
            unfold wayM
            rw [if_pos (holds_pre (k := k + 1) HMo.out), List.append_nil]
          exact ⟨_, rfl, by rw [hw]; exact (HO2.out.keep HB3.out).mono (by omega), (HBx.out.trans (HB2.out.mono (by omega))).trans (HB3.out.mono (by omega))⟩
        | false =>
          rw [hme] at HMe HMo
          clear hme
          go_wp2_with (first
            | (go_at_call 158; go_must (refine HMe.out.mono ?_); rintro e w3 ⟨rfl, hb3⟩; have HB3 := hide (HB2N.out.trans (hb3.mono HB2N.out.size)); clear hb3))
          go_roundg (hn - (k + 1))
          case measure => omega
          case rel => exact ⟨k + 1, rfl, by go_num, by omega, HMo.out, HB3.out⟩
      · have ht' : (m.l.tx == x.l.tx) = false := by simp [ht]
        rw [ht'] at HMo
        clear ht
        go_wp2
        go_roundg (hn - (k + 1))
        case measure => omega
        case rel => exact ⟨k + 1, rfl, by go_num, by omega, HMo.out, HB2N.out⟩
    · obtain rfl : k = hn := by omega
      have ek : hs.take k = hs := List.take_of_length_le (by omega)
      rw [ek] at HH
      obtain ⟨x0, x1, x2, x3, x4⟩ := (HX2.out.same (hB.block _ (by omega))).zero
      have hb1r := HB2.out.trans (hB.mono hs2)
      have HAg2 := hide (against_any aa an ac bs x wr (HA.out.keep hb1r) (fun m hm => (HAo.out m hm).keep hb1r) (HXo.out.keep hb1r) hb2)
      have HOr := hide (HO2.out.keep hB)
      have HB1r := hide hb1r
      clear hB hb1r
      go_wp2_with (first
        | (at_builtin; go_must (refine wp_joinY layK _ rfl (.tmp 37) (.tmp 40) rfl w1.heap.size _ (hs.filter (fun m => standsL x.l m.l)) rfl HO3.out ua un uc (bs.filter (fun m => standsL x.l m.l)) rfl HS3.out HBig.out (by omega) ?_); intro v5 w5 hown5 hg5 hat5; have HO5 := hide hown5; have HB5 := hide (HO3.out.grown hg5 (by omega)); obtain ⟨xa, xn, xc, rfl⟩ := hown5.any3; clear hown5 hg5 hat5)
        | (go_at_call 157; go_must (refine HAg2.out.mono ?_); rintro e w3 ⟨v3, rfl, ho3, hb3⟩; obtain ⟨ua, un, uc, rfl⟩ := ho3.any3; have HS3 := hide ho3.is.src; have HO3 := hide (HOr.out.keep hb3); have HB3 := hide (HB1r.out.trans (hb3.mono HB1r.out.size)); have hs3 := hb3.size; (have HBig : Hid ((hs.filter (fun m => standsL x.l m.l)).length + (bs.filter (fun m => standsL x.l m.l)).length ≤ 1000000000) := (by show _ ≤ _; have e1 := List.length_filter_le (fun m : ML => standsL x.l m.l) hs; have e2 := List.length_filter_le (fun m : ML => standsL x.l m.l) bs; have e3 := HA.out.1; omega)); clear ho3 hb3))
      go_ret
      have hw : wayM hs bs x = hs.filter (fun m => standsL x.l m.l) ++ bs.filter (fun m => standsL x.l m.l) := by
        unfold wayM
        rw [if_neg (by rw [HH.out]; simp)]
      exact ⟨_, rfl, by rw [hw]; exact HO5.out.mono (by omega), HBx.out.trans ((HB3.out.trans HB5.out).mono (by omega))⟩

set_option maxHeartbeats 4000000 in
theorem leave_any (q : Nat) (ha : Option Addr) (hn hc : Nat) (wa : Option Addr) (wn wc : Nat) (hs ws : List ML) (tx : Int) (x : ML) (w : World) (h : TxA w q ha hn hc wa wn wc hs ws) (hf : w.frozen? ⟨q, 4, none⟩ = false) (hx : x.ok w) (hb2 : wn ≤ 100000) :
    Calls Tryz.prog 126 #[.pointer (some ⟨q, 3, none⟩), .int .u64 tx, .agg #[.int .u64 x.l.tx, .int .i64 x.l.lv, .int .i64 x.l.md, .slice x.la x.ln x.lc, .slice x.ha x.hn x.hc]] w fun e w' => ∃ v, e = .returned (.tuple #[]) ∧ TxP w q 4 (ws.filter (stayM tx x)) w' v := by
  have hbx := new_below w (.cells #[.int .u64 x.l.tx, .int .i64 x.l.lv, .int .i64 x.l.md, .slice x.la x.ln x.lc, .slice x.ha x.hn x.hc] 41)
  have hq := h.q
  obtain ⟨w1, hw1⟩ : ∃ w1, w1 = w.alloc (.cells #[.int .u64 x.l.tx, .int .i64 x.l.lv, .int .i64 x.l.md, .slice x.la x.ln x.lc, .slice x.ha x.hn x.hc] 41) := ⟨_, rfl⟩
  rw [← hw1] at hbx
  have hs1 : w1.heap.size = w.heap.size + 1 := by rw [hw1]; simp
  have HX1 : Hid (At5 w1 w.heap.size 0 x) := by rw [hw1]; exact at5_new w x
  have H1 := hide (h.keep hbx)
  have HXo := hide (hx.keep hbx)
  have HBx := hide hbx
  have hmc : (wc : Int) ≤ 9223372036854775807 := by have := h.wt.2.2.1; unfold maxLen at this; omega
  have hnc := h.wt.2.1
  have hnl := h.wt.1
  have c11 := H1.out.c1
  rw [hw1] at c11
  have HF := hide hf
  have HSome : Hid ((w.cell? ⟨q, 4, none⟩).isSome = true) := by show _ = _; rw [h.c1]; rfl
  have hne : ¬ w.heap.size = q := by omega
  clear h hx hbx hf
  go_enter Tryz.func126, Tryz.ntmps126
  go_wp2
  rw [← hw1]
  clear hw1 c11
  go_loopg [6, 14] wn (fun gk v i wr => ∃ k : Nat, gk = wn - k ∧ i = .int .i64 k ∧ k ≤ wn ∧ OwnY layK wr w1.heap.size v ((ws.take k).filter (stayM tx x)) ∧ Below w1.heap.size w1 wr)
  case atStart => exact ⟨0, rfl, rfl, Nat.zero_le _, ownY_nil _ _, Below.refl _ _⟩
  case round =>
    obtain ⟨k, rfl, rfl, hk, hO, hB⟩ := hrel
    obtain ⟨va, vn, vc, rfl⟩ := hO.any3
    have HOw := hide hO
    have HB := hide hB
    have hsw := hB.size
    clear hO
    by_cases hlt : k < wn
    · have hlt' : (k : Int) < (wn : Int) := by omega
      obtain ⟨m, hmk⟩ := ml_at (hs := ws) (k := k) (by omega)
      obtain ⟨g, off, rfl, hg, hC⟩ := H1.out.wt.at hlt
      have d := at5_of (rangeY_same (hC k m hmk) (hB.block g hg))
      obtain ⟨d0, d1, d2, d3, d4⟩ := d
      have d0 : wr.cell? ⟨g, off + k * 5, none⟩ = some (.int .u64 m.l.tx) := d0
      have d1 : wr.cell? ⟨g, off + k * 5 + 1, none⟩ = some (.int .i64 m.l.lv) := d1
      have d2 : wr.cell? ⟨g, off + k * 5 + 2, none⟩ = some (.int .i64 m.l.md) := d2
      have d3 : wr.cell? ⟨g, off + k * 5 + 3, none⟩ = some (.slice m.la m.ln m.lc) := d3
      have d4 : wr.cell? ⟨g, off + k * 5 + 4, none⟩ = some (.slice m.ha m.hn m.hc) := d4
      have hbN := new_below wr (.cells #[.int .u64 m.l.tx, .int .i64 m.l.lv, .int .i64 m.l.md, .slice m.la m.ln m.lc, .slice m.ha m.hn m.hc] 41)
      have hb1N := hB.trans (hbN.mono hsw)
      have HBx2 : Hid (∀ V, Below (wr.heap.size + 1) (wr.alloc (.cells #[.int .u64 m.l.tx, .int .i64 m.l.lv, .int .i64 m.l.md, .slice m.la m.ln m.lc, .slice m.ha m.hn m.hc] 41)) V → At5 V wr.heap.size 0 m ∧ At5 V w.heap.size 0 x) := fun V hV => ⟨(at5_new wr m).same (hV.block _ (by omega)), HX1.out.same ((hV.block _ (by omega)).trans ((hbN.block _ (by omega)).trans (hB.block _ (by omega))))⟩
      obtain ⟨x0, x1, x2, x3, x4⟩ := (HBx2.out _ (Below.refl _ _)).2.zero
      have HSm := hide (same_any m x _ ((H1.out.wo m (List.mem_of_getElem? hmk)).keep hb1N) (HXo.out.keep hb1N))
      have HFm := hide (filter_more (stayM tx x) hmk)
      have HBN := hide hbN
      have HBig : Hid (((ws.take k).filter (stayM tx x)).length + [m].length ≤ 1000000000) := by
        show _ ≤ _
        have := List.length_filter_le (stayM tx x) (ws.take k)
        rw [List.length_take] at this
        simp only [List.length_singleton]; omega
      clear hC hmk hB hbN hb1N
      by_cases ht : m.l.tx = tx
      · have ht' : (m.l.tx == tx) = true := by simp [ht]
        have htn : (m.l.tx != tx) = false := by simp [ht]
        cases hsm : decide (m.l = x.l) with
        | true =>
          rw [hsm] at HSm
          have HF2 : Hid ((ws.take (k + 1)).filter (stayM tx x) = (ws.take k).filter (stayM tx x) ++ [m]) := by
            show _ = _
            have e : stayM tx x m = true := by unfold stayM; rw [hsm]; simp
            rw [HFm.out, e]; simp
          clear ht hsm
          go_wp2_with (first
            | (at_builtin; go_must (refine wp_joinY layK _ rfl (.tmp 27) (.tmp 29) rfl w1.heap.size _ ((ws.take k).filter (stayM tx x)) rfl HO4.out (some ⟨w2.heap.size, 0, none⟩) 1 1 [m] rfl HS4.out HBig.out (by simp; omega) ?_); intro v5 w5 hown5 hg5 hat5; have HO5 := hide hown5; have HB5 := hide (HO4.out.grown hg5 (by simp; omega)); obtain ⟨xa, xn, xc, rfl⟩ := hown5.any3; clear hown5 hg5 hat5)
            | (go_at_call 32; go_must (refine HSm.out.mono ?_); rintro e w2 ⟨rfl, hb2⟩; have HB2 := hide hb2; obtain ⟨y0, y1, y2, y3, y4⟩ := (HBx2.out w2 (hb2.mono (by simp))).1.zero; have hs2 := hb2.size; simp only [World.size_alloc] at hs2; have HO4 := hide ((HOw.out.keep (HBN.out.trans (hb2.mono (by simp)))).keep (new_below w2 (.cells #[.int .u64 m.l.tx, .int .i64 m.l.lv, .int .i64 m.l.md, .slice m.la m.ln m.lc, .slice m.ha m.hn m.hc] 41))); have HS4 := hide (ownY_one (L := layK) w2 0 #[.int .u64 m.l.tx, .int .i64 m.l.lv, .int .i64 m.l.md, .slice m.la m.ln m.lc, .slice m.ha m.hn m.hc] m (Nat.zero_le _) rfl).is.src; clear hb2))
          go_roundg (wn - (k + 1))
          case measure => omega
          case rel =>
            have hbb := (HBN.out.trans (HB2.out.mono (by simp))).trans ((new_below w2 (.cells #[.int .u64 m.l.tx, .int .i64 m.l.lv, .int .i64 m.l.md, .slice m.la m.ln m.lc, .slice m.ha m.hn m.hc] 41)).mono (by omega))
            exact ⟨k + 1, rfl, by go_num, by omega, by rw [HF2.out]; exact HO5.out, (HB.out.trans (hbb.mono hsw)).trans HB5.out⟩
        | false =>
          rw [hsm] at HSm
          have HF2 : Hid ((ws.take (k + 1)).filter (stayM tx x) = (ws.take k).filter (stayM tx x)) := by
            show _ = _
            have e : stayM tx x m = false := by unfold stayM; rw [hsm, htn]; rfl
            rw [HFm.out, e]; simp
          clear ht hsm
          go_wp2_with (first
            | (go_at_call 32; go_must (refine HSm.out.mono ?_); rintro e w2 ⟨rfl, hb2⟩; have HB2 := hide hb2; clear hb2))
          go_roundg (wn - (k + 1))
          case measure => omega
          case rel =>
            have hbb := HBN.out.trans (HB2.out.mono (by simp))
            exact ⟨k + 1, rfl, by go_num, by omega, by rw [HF2.out]; exact HOw.out.keep hbb, HB.out.trans (hbb.mono hsw)⟩
      · have ht' : (m.l.tx == tx) = false := by simp [ht]
        have htn : (m.l.tx != tx) = true := by simp [ht]
        have HF2 : Hid ((ws.take (k + 1)).filter (stayM tx x) = (ws.take k).filter (stayM tx x) ++ [m]) := by
          show _ = _
          have e : stayM tx x m = true := by unfold stayM; simp [ht]
          rw [HFm.out, e]; simp
        have HO4 := hide ((HOw.out.keep HBN.out).keep (new_below (wr.alloc (.cells #[.int .u64 m.l.tx, .int .i64 m.l.lv, .int .i64 m.l.md, .slice m.la m.ln m.lc, .slice m.ha m.hn m.hc] 41)) (.cells #[.int .u64 m.l.tx, .int .i64 m.l.lv, .int .i64 m.l.md, .slice m.la m.ln m.lc, .slice m.ha m.hn m.hc] 41)))
        have HS4 := hide (ownY_one (L := layK) (wr.alloc (.cells #[.int .u64 m.l.tx, .int .i64 m.l.lv, .int .i64 m.l.md, .slice m.la m.ln m.lc, .slice m.ha m.hn m.hc] 41)) 0 #[.int .u64 m.l.tx, .int .i64 m.l.lv, .int .i64 m.l.md, .slice m.la m.ln m.lc, .slice m.ha m.hn m.hc] m (Nat.zero_le _) rfl).is.src
        simp only [World.size_alloc] at HS4
        clear ht
        go_wp2_with (first
          | (at_builtin; go_must (refine wp_joinY layK _ rfl (.tmp 27) (.tmp 29) rfl w1.heap.size _ ((ws.take k).filter (stayM tx x)) rfl HO4.out (some ⟨wr.heap.size + 1, 0, none⟩) 1 1 [m] rfl HS4.out HBig.out (by simp; omega) ?_); intro v5 w5 hown5 hg5 hat5; have HO5 := hide hown5; have HB5 := hide (HO4.out.grown hg5 (by simp; omega)); obtain ⟨xa, xn, xc, rfl⟩ := hown5.any3; clear hown5 hg5 hat5))
        go_roundg (wn - (k + 1))
        case measure => omega
        case rel =>
          have hbb := HBN.out.trans ((new_below (wr.alloc (.cells #[.int .u64 m.l.tx, .int .i64 m.l.lv, .int .i64 m.l.md, .slice m.la m.ln m.lc, .slice m.ha m.hn m.hc] 41)) (.cells #[.int .u64 m.l.tx, .int .i64 m.l.lv, .int .i64 m.l.md, .slice m.la m.ln m.lc, .slice m.ha m.hn m.hc] 41)).mono (by simp))
          exact ⟨k + 1, rfl, by go_num, by omega, by rw [HF2.out]; exact HO5.out, (HB.out.trans (hbb.mono hsw)).trans HB5.out⟩
    · obtain rfl : k = wn := by omega
      have ek : ws.take k = ws := List.take_of_length_le (by omega)
      rw [ek] at HOw
      have hbw := HBx.out.trans (hB.mono (by omega))
      have cw := (H1.out.keep hB).c1
      have fw : wr.frozen? ⟨q, 4, none⟩ = false := (hbw.frozen (p := ⟨q, 4, none⟩) hq).trans HF.out
      have HBw := hide hbw
      clear hB hbw
      go_wp2
      go_end0
      exact ⟨_, rfl, txP_set HBw.out hq (HOw.out.mono (by omega)) HSome.out⟩

set_option maxHeartbeats 8000000 in
theorem xedges_any (q : Nat) (ha : Option Addr) (hn hc : Nat) (wa : Option Addr) (wn wc : Nat) (hs ws : List ML) (w : World) (h : TxA w q ha hn hc wa wn wc hs ws) (hb1 : hn ≤ 1000) (hb2 : wn ≤ 1000) :
    Calls Tryz.prog 129 #[.pointer (some ⟨q, 3, none⟩)] w fun e w' => ∃ v, e = .returned v ∧ OwnY layE w' w.heap.size v (edgesL (hs.map ML.l) (ws.map ML.l)) ∧ Below w.heap.size w w' := by
  have hq := h.q
  have H := hide h
  have hmc : (wc : Int) ≤ 9223372036854775807 := by have := h.wt.2.2.1; unfold maxLen at this; omega
  have hnc := h.wt.2.1
  have hnl := h.wt.1
  have hhl := h.h.1
  have c1 := h.c1
  clear h
  go_enter Tryz.func129, Tryz.ntmps129
  go_wp2
  clear c1
  go_loopg [3, 17] wn (fun gk v i wr => ∃ k : Nat, gk = wn - k ∧ i = .int .i64 k ∧ k ≤ wn ∧ OwnY layE wr w.heap.size v (edK hs ws k) ∧ Below w.heap.size w wr)
  case atStart => exact ⟨0, rfl, rfl, Nat.zero_le _, ownY_nil _ _, Below.refl _ _⟩
  case round =>
    obtain ⟨k, rfl, rfl, hk, hO, hB⟩ := hrel
    obtain ⟨oa, on, oc, rfl⟩ := hO.any3
    have HOw := hide hO
    have HB := hide hB
    have hsw := hB.size
    clear hO
    by_cases hlt : k < wn
    · have hlt' : (k : Int) < (wn : Int) := by omega
      obtain ⟨m, hmk⟩ := ml_at (hs := ws) (k := k) (by omega)
      have hT := H.out.keep hB
      obtain ⟨b, hcut, hcs⟩ := isY_cut layK hT.wt k (by omega)
      have hcut2 : ∀ W, (Instr.sliceAt 33 (.slice wa wn wc) none (some (.int .i64 (k : Int))) none).run Tryz.prog W = .ok (.slice b k wc) W := hcut
      clear hcut
      obtain ⟨g, off, e9, hg, hC⟩ := hT.wt.at hlt
      have d := at5_of (hC k m hmk)
      subst e9
      obtain ⟨d0, d1, d2, d3, d4⟩ := d
      have d0 : wr.cell? ⟨g, off + k * 5, none⟩ = some (.int .u64 m.l.tx) := d0
      have d1 : wr.cell? ⟨g, off + k * 5 + 1, none⟩ = some (.int .i64 m.l.lv) := d1
      have d2 : wr.cell? ⟨g, off + k * 5 + 2, none⟩ = some (.int .i64 m.l.md) := d2
      have d3 : wr.cell? ⟨g, off + k * 5 + 3, none⟩ = some (.slice m.la m.ln m.lc) := d3
      have d4 : wr.cell? ⟨g, off + k * 5 + 4, none⟩ = some (.slice m.ha m.hn m.hc) := d4
      obtain ⟨W1, hW1⟩ : ∃ W1, W1 = wr.alloc (.cells #[.int .u64 m.l.tx, .int .i64 m.l.lv, .int .i64 m.l.md, .slice m.la m.ln m.lc, .slice m.ha m.hn m.hc] 41) := ⟨_, rfl⟩
      have hbN : Below wr.heap.size wr W1 := by rw [hW1]; exact new_below _ _
      have hs1 : W1.heap.size = wr.heap.size + 1 := by rw [hW1]; simp
      have HN1 : Hid (At5 W1 wr.heap.size 0 m) := by rw [hW1]; exact at5_new wr m
      have hbd : Below wr.heap.size wr W1.drew := hbN.drew
      have HWy := hide (way_any q ha hn hc (some ⟨g, off, none⟩) wn wc hs ws m b k wc (ws.take k) W1.drew (hT.keep hbd) ((hT.wo m (List.mem_of_getElem? hmk)).keep hbd) (hcs.keep hbd) (fun m' hm' => (hT.wo m' (List.mem_of_mem_take hm')).keep hbd) (by omega) (by omega))
      have HV : Hid (∀ V, Below W1.drew.heap.size W1.drew V → V.cell? ⟨q, 4, none⟩ = some (.slice (some ⟨g, off, none⟩) wn wc) ∧ V.cell? ⟨wr.heap.size, 0, none⟩ = some (.int .u64 m.l.tx) ∧ V.cell? ⟨wr.heap.size, 1, none⟩ = some (.int .i64 m.l.lv) ∧ V.cell? ⟨wr.heap.size, 2, none⟩ = some (.int .i64 m.l.md) ∧ V.cell? ⟨wr.heap.size, 3, none⟩ = some (.slice m.la m.ln m.lc) ∧ V.cell? ⟨wr.heap.size, 4, none⟩ = some (.slice m.ha m.hn m.hc)) := fun V hV => by
        have hV2 := below_undrew hV
        exact ⟨((hT.keep hbN).keep hV2).c1, (HN1.out.same (hV2.block _ (by omega))).zero⟩
      have HMk := hide hmk
      have HBN := hide (HB.out.trans (hbN.mono hsw))
      have HO1 := hide (HOw.out.keep hbN)
      clear hC hmk hB hT hcs hbd hbN
      go_wp2
      rw [← hW1]
      clear hW1
      refine startX 99 (by kernel_rfl) ?_
      refine' takeX (E := 99) (i := 0) (v := _) rfl (by kernel_rfl) (by kernel_rfl) (by kernel_rfl) (by kernel_rfl) (fun _ _ _ h => h) (by rfl) (Below.refl _ _) ?_ ?_; rotate_left
      · (intro V hSV; obtain ⟨y1, x0, x1, x2, x3, x4⟩ := HV.out V hSV; go_simp; all_goals (with_reducible rfl))
      (try simp only [Act.put, List.setIfInBounds_toArray, List.set_cons_zero, List.set_cons_succ])
      refine' takeX (E := 99) (i := 1) (v := _) rfl (by kernel_rfl) (by kernel_rfl) (by kernel_rfl) (by kernel_rfl) (fun _ _ _ h => h) (by rfl) (Below.refl _ _) ?_ ?_; rotate_left
      · (intro V hSV; obtain ⟨y1, x0, x1, x2, x3, x4⟩ := HV.out V hSV; go_simp; all_goals (with_reducible rfl))
      (try simp only [Act.put, List.setIfInBounds_toArray, List.set_cons_zero, List.set_cons_succ])
      refine' takeX (E := 99) (i := 2) (v := _) rfl (by kernel_rfl) (by kernel_rfl) (by kernel_rfl) (by kernel_rfl) (fun _ _ _ h => h) (by rfl) (Below.refl _ _) ?_ ?_; rotate_left
      · (intro V hSV; obtain ⟨y1, x0, x1, x2, x3, x4⟩ := HV.out V hSV; go_simp; all_goals (with_reducible rfl))
      (try simp only [Act.put, List.setIfInBounds_toArray, List.set_cons_zero, List.set_cons_succ])
      refine' takeX (E := 99) (i := 3) (v := _) rfl (by kernel_rfl) (by kernel_rfl) (by kernel_rfl) (by kernel_rfl) (fun _ _ _ h => h) (by rfl) (Below.refl _ _) ?_ ?_; rotate_left
      · (intro V hSV; obtain ⟨y1, x0, x1, x2, x3, x4⟩ := HV.out V hSV; go_simp; all_goals (with_reducible rfl))
      (try simp only [Act.put, List.setIfInBounds_toArray, List.set_cons_zero, List.set_cons_succ])
      refine' takeX (E := 99) (i := 4) (v := _) rfl (by kernel_rfl) (by kernel_rfl) (by kernel_rfl) (by kernel_rfl) (fun _ _ _ h => h) (by rfl) (Below.refl _ _) ?_ ?_; rotate_left
      · (intro V hSV; obtain ⟨y1, x0, x1, x2, x3, x4⟩ := HV.out V hSV; go_simp; all_goals (with_reducible rfl))
      (try simp only [Act.put, List.setIfInBounds_toArray, List.set_cons_zero, List.set_cons_succ])
      refine' takeX (E := 99) (i := 5) (v := _) rfl (by kernel_rfl) (by kernel_rfl) (by kernel_rfl) (by kernel_rfl) (fun _ _ _ h => h) (by rfl) (Below.refl _ _) ?_ ?_; rotate_left
      · (intro V hSV; obtain ⟨y1, x0, x1, x2, x3, x4⟩ := HV.out V hSV; go_simp; all_goals (with_reducible rfl))
      (try simp only [Act.put, List.setIfInBounds_toArray, List.set_cons_zero, List.set_cons_succ])
      refine' takeX (E := 99) (i := 6) (v := _) rfl (by kernel_rfl) (by kernel_rfl) (by kernel_rfl) (by kernel_rfl) (fun _ _ _ h => h) (by rfl) (Below.refl _ _) ?_ ?_; rotate_left
      · (intro V hSV; obtain ⟨y1, x0, x1, x2, x3, x4⟩ := HV.out V hSV; go_simp; all_goals (with_reducible rfl))
      (try simp only [Act.put, List.setIfInBounds_toArray, List.set_cons_zero, List.set_cons_succ])
      refine' takeX (E := 99) (i := 7) (v := _) rfl (by kernel_rfl) (by kernel_rfl) (by kernel_rfl) (by kernel_rfl) (fun _ _ _ h => h) (by rfl) (Below.refl _ _) ?_ ?_; rotate_left
      · (intro V hSV; obtain ⟨y1, x0, x1, x2, x3, x4⟩ := HV.out V hSV; go_simp; all_goals (with_reducible rfl))
      (try simp only [Act.put, List.setIfInBounds_toArray, List.set_cons_zero, List.set_cons_succ])
      refine' takeX (E := 99) (i := 10) (v := _) rfl (by kernel_rfl) (by kernel_rfl) (by kernel_rfl) (by kernel_rfl) (fun _ _ _ h => h) (by rfl) (Below.refl _ _) ?_ ?_; rotate_left
      · (intro V hSV; obtain ⟨y1, x0, x1, x2, x3, x4⟩ := HV.out V hSV; go_simp; all_goals (with_reducible rfl))
      (try simp only [Act.put, List.setIfInBounds_toArray, List.set_cons_zero, List.set_cons_succ])
      refine callX (i := 8) rfl (by kernel_rfl) (fun K hK => ?_)
      go_simp
      refine HWy.out.mono ?_
      rintro e w2 ⟨v2, rfl, ho2, hb2⟩
      obtain ⟨va, vn, vc, rfl⟩ := ho2.any3
      have hvl := ho2.len
      have HL2 := hide (show OwnY layK w2 W1.heap.size (.slice va vn vc) (wayM hs (ws.take k) m) from ho2)
      have HB2 := hide (below_undrew hb2)
      refine hK.out _ _ (fun _ => hb2) ?_
      clear hK K ho2 hb2
      (try simp only [Act.put, List.setIfInBounds_toArray, List.set_cons_zero, List.set_cons_succ])
      refine callX (i := 9) rfl (by kernel_rfl) (fun K hK => ?_)
      go_simp
      refine hK.out _ _ (fun _ => (by have t := HB2.out; exact ⟨t.os, t.tape, t.output, t.size, t.block⟩)) ?_
      clear hK K
      (try simp only [Act.put, List.setIfInBounds_toArray, List.set_cons_zero, List.set_cons_succ])
      refine doneX (by kernel_rfl) ?_ _
      have hs2 := HB2.out.size
      have HO2 := hide (HO1.out.keep HB2.out)
      have HN2 := hide (HN1.out.same (HB2.out.block _ (by omega)))
      have HBw2 := hide (HBN.out.trans (HB2.out.mono HBN.out.size))
      have hvm : (vc : Int) ≤ 9223372036854775807 := by have := hvl.2.2; unfold maxLen at this; omega
      obtain ⟨N1, hN1⟩ : ∃ N, N = wr.heap.size := ⟨_, rfl⟩
      rw [← hN1] at hs1 HN2 HV ⊢
      have hN1s := hsw
      rw [← hN1] at hN1s
      have hob : ∀ g, (Value.slice oa on oc).ownBlock = some g → g < N1 := fun g hg => by rw [hN1]; exact (HOw.out.lt g hg).2
      have HOb := hide hob
      clear HV HWy HOw HB HO1 HN1 hN1 d0 d1 d2 d3 d4 hsw hg hob
      go_wp2
      go_loopg [3, 32] vn (fun gk v i wx => ∃ j : Nat, gk = vn - j ∧ i = .int .i64 j ∧ j ≤ vn ∧ OwnY layE wx w.heap.size v (edJ hs ws k m j) ∧ Below w.heap.size w wx ∧ (∀ g, v.ownBlock = some g → g < N1 ∨ w2.heap.size ≤ g) ∧ (∀ b, N1 ≤ b → b < w2.heap.size → wx.heap[b]? = w2.heap[b]?) ∧ w2.heap.size ≤ wx.heap.size)
      case atStart => exact ⟨0, rfl, rfl, Nat.zero_le _, HO2.out, HBw2.out, fun g hg => .inl (HOb.out g hg), fun b _ _ => rfl, Nat.le_refl _⟩
      case round =>
        clear HO2 HOb
        obtain ⟨j, rfl, rfl, hj, hO, hB, hob, hkb, hsx⟩ := hrel
        obtain ⟨oa, on, oc, rfl⟩ := hO.any3
        have hol := hO.len
        have HOw := hide hO
        have HB := hide hB
        have HOb := hide hob
        have HKb := hide hkb
        have hom : (oc : Int) ≤ 9223372036854775807 := by have := hol.2.2; unfold maxLen at this; omega
        have hLw : OwnY layK wr W1.heap.size (.slice va vn vc) (wayM hs (ws.take k) m) := HL2.out.lies (fun g hg => hkb g (by have := (HL2.out.lt g hg).1; omega) (HL2.out.lt g hg).2)
        have hNw := HN2.out.same (hkb N1 (Nat.le_refl _) (by omega))
        by_cases hjl : j < vn
        · have hjl' : (j : Int) < (vn : Int) := by omega
          obtain ⟨m', hmj⟩ := ml_at (hs := wayM hs (ws.take k) m) (k := j) (by omega)
          obtain ⟨gl, offl, el, hgl, hCl⟩ := hLw.is.at hjl
          have d := at5_of (hCl j m' hmj)
          subst el
          obtain ⟨d0, d1, d2, d3, d4⟩ := d
          have d0 : wr.cell? ⟨gl, offl + j * 5, none⟩ = some (.int .u64 m'.l.tx) := d0
          have d1 : wr.cell? ⟨gl, offl + j * 5 + 1, none⟩ = some (.int .i64 m'.l.lv) := d1
          have d2 : wr.cell? ⟨gl, offl + j * 5 + 2, none⟩ = some (.int .i64 m'.l.md) := d2
          have d3 : wr.cell? ⟨gl, offl + j * 5 + 3, none⟩ = some (.slice m'.la m'.ln m'.lc) := d3
          have d4 : wr.cell? ⟨gl, offl + j * 5 + 4, none⟩ = some (.slice m'.ha m'.hn m'.hc) := d4
          have HEm := hide (edJ_more hmj)
          rw [dd_known] at HEm
          obtain ⟨W9, hW9⟩ : ∃ W9, W9 = (wr.alloc (.cells #[.int .u64 m'.l.tx, .int .i64 m'.l.lv, .int .i64 m'.l.md, .slice m'.la m'.ln m'.lc, .slice m'.ha m'.hn m'.hc] 41)).alloc (.cells #[.int .u64 m.l.tx, .int .u64 m'.l.tx] 222) := ⟨_, rfl⟩
          have hb9 : Below wr.heap.size wr W9 := by rw [hW9]; exact ((Below.refl _ wr).alloc (Nat.le_refl _) _).alloc (by simp) _
          have hs9 : W9.heap.size = wr.heap.size + 2 := by rw [hW9]; simp
          have HC9 : Hid (W9.rangeAt (wr.heap.size + 1) 0 [.int .u64 m.l.tx, .int .u64 m'.l.tx]) := by rw [hW9]; exact rangeY_new (wr.alloc (.cells #[.int .u64 m'.l.tx, .int .i64 m'.l.lv, .int .i64 m'.l.md, .slice m'.la m'.ln m'.lc, .slice m'.ha m'.hn m'.hc] 41)) (wr.heap.size + 1) #[.int .u64 m.l.tx, .int .u64 m'.l.tx] 222 (by simp)
          have xN : (wr.alloc (.cells #[.int .u64 m'.l.tx, .int .i64 m'.l.lv, .int .i64 m'.l.md, .slice m'.la m'.ln m'.lc, .slice m'.ha m'.hn m'.hc] 41)).cell? ⟨N1, 0, none⟩ = some (.int .u64 m.l.tx) := ((new_below wr _).cell (p := ⟨N1, 0, none⟩) (by show N1 < _; omega)).trans hNw.c0
          have HO9 := hide (HOw.out.keep hb9)
          have HB9 := hide hb9
          have hneN : ¬ wr.heap.size = N1 := by omega
          have hneN2 : ¬ N1 = wr.heap.size := by omega
          clear hCl hmj hO hB hob hkb hLw hNw hb9
          go_wp2
          rw [← hW9]
          clear hW9 xN d0 d1 d2 d3 d4 hneN hneN2
          obtain ⟨n0, hn0⟩ : ∃ n0, n0 = wr.heap.size := ⟨_, rfl⟩
          rw [← hn0] at hs9 HC9 ⊢
          have hsn : w2.heap.size ≤ n0 := by rw [hn0]; exact hsx
          have HB9n : Hid (∀ b, b < n0 → W9.heap[b]? = wr.heap[b]?) := fun b hb => HB9.out.block b (by rw [← hn0]; exact hb)
          have HOn : Hid (∀ g, (Value.slice oa on oc).ownBlock = some g → g < n0) := fun g hg => by rw [hn0]; exact (HOw.out.lt g hg).2
          have HBw9 : Hid (Below w.heap.size w W9) := HB.out.trans (HB9.out.mono (by have := HB.out.size; omega))
          have HKb9 : Hid (∀ b, N1 ≤ b → b < w2.heap.size → W9.heap[b]? = w2.heap[b]?) := fun b h1 h2 => (HB9.out.block b (by omega)).trans (HKb.out b h1 h2)
          clear hn0 HB9n HB HB9 HKb HOw
          go_loopg [9, 43] on (fun gk b i wy => ∃ z : Nat, gk = on - z ∧ b = .bool (knownE ((edJ hs ws k m j).take z) (m.l.tx, m'.l.tx)) ∧ i = .int .i64 z ∧ z ≤ on ∧ Below W9.heap.size W9 wy)
          case atStart => exact ⟨0, rfl, rfl, rfl, Nat.zero_le _, Below.refl _ _⟩
          case round =>
            obtain ⟨z, rfl, rfl, rfl, hz, hBy⟩ := hrel
            have HBy := hide hBy
            have hsy := hBy.size
            by_cases hzl : z < on
            · have hzl' : (z : Int) < (on : Int) := by omega
              obtain ⟨p1, p2, hpp⟩ := pair_at (l := edJ hs ws k m j) (j := z) (by omega)
              rcases (HO9.out.keep hBy).form with ⟨e, e0⟩ | ⟨go, co, e, -, hgo, -, -, hCo, -⟩
              · exfalso; rw [e0] at hpp; simp at hpp
              cases e
              have f := hCo z _ hpp
              rw [Nat.zero_add] at f
              obtain ⟨f0, f1⟩ := rangeE f
              have f0 : wr.cell? ⟨go, z * 2, none⟩ = some (.int .u64 p1) := f0
              have f1 : wr.cell? ⟨go, z * 2 + 1, none⟩ = some (.int .u64 p2) := f1
              have hcw := rangeY_same HC9.out (hBy.block (n0 + 1) (by omega))
              have c0 : wr.cell? ⟨n0 + 1, 0, none⟩ = some (.int .u64 m.l.tx) := hcw 0 _ rfl
              have c1 : wr.cell? ⟨n0 + 1, 1, none⟩ = some (.int .u64 m'.l.tx) := hcw 1 _ rfl
              have hne : ¬ wr.heap.size = n0 + 1 := by omega
              have hne2 : ¬ n0 + 1 = wr.heap.size := by omega
              have c0n := fun o => ((new_below wr o).cell (p := ⟨n0 + 1, 0, none⟩) (by show n0 + 1 < wr.heap.size; omega)).trans c0
              have c1n := fun o => ((new_below wr o).cell (p := ⟨n0 + 1, 1, none⟩) (by show n0 + 1 < wr.heap.size; omega)).trans c1
              have HKm := hide (known_more hpp (m.l.tx, m'.l.tx))
              have HNb : Hid (∀ o, Below W9.heap.size W9 (wr.alloc o)) := fun o => HBy.out.trans ((new_below wr o).mono hsy)
              clear f hcw hCo hpp hBy
              cases ham : knownE ((edJ hs ws k m j).take z) (m.l.tx, m'.l.tx) with
              | true =>
                rw [ham] at HKm
                clear ham
                go_wp2
                go_roundg ((edJ hs ws k m j).length - (z + 1))
                case measure => omega
                case rel => exact ⟨z + 1, rfl, by rw [HKm.out]; simp, by go_num, by omega, HNb.out _⟩
              | false =>
                rw [ham] at HKm
                clear ham
                cases hee : ((p1, p2) == (m.l.tx, m'.l.tx)) with
                | true =>
                  rw [hee] at HKm
                  have hee2 : (p1, p2) = (m.l.tx, m'.l.tx) := eq_of_beq hee
                  obtain ⟨rfl, rfl⟩ := Prod.mk.inj hee2
                  clear hee hee2
                  go_wp2
                  go_roundg ((edJ hs ws k m j).length - (z + 1))
                  case measure => omega
                  case rel => exact ⟨z + 1, rfl, by rw [HKm.out]; simp, by go_num, by omega, HNb.out _⟩
                | false =>
                  rw [hee] at HKm
                  have hee2 : ¬ (p1 = m.l.tx ∧ p2 = m'.l.tx) := fun e => (beq_eq_false_iff_ne.1 hee) (by rw [e.1, e.2])
                  clear hee
                  by_cases h1 : p1 = m.l.tx
                  · subst h1
                    have h2 : ¬ p2 = m'.l.tx := fun e => hee2 ⟨rfl, e⟩
                    have h2' : (p2 == m'.l.tx) = false := by simp [h2]
                    go_wp2
                    go_roundg ((edJ hs ws k m j).length - (z + 1))
                    case measure => omega
                    case rel => exact ⟨z + 1, rfl, by rw [HKm.out]; simp, by go_num, by omega, HNb.out _⟩
                  · have h1' : (p1 == m.l.tx) = false := by simp [h1]
                    go_wp2
                    go_roundg ((edJ hs ws k m j).length - (z + 1))
                    case measure => omega
                    case rel => exact ⟨z + 1, rfl, by rw [HKm.out]; simp, by go_num, by omega, HNb.out _⟩
            · obtain rfl : z = on := by omega
              have ez : (edJ hs ws k m j).take z = edJ hs ws k m j := List.take_of_length_le (by omega)
              rw [ez]
              have hcw := rangeY_same HC9.out (hBy.block (n0 + 1) (by omega))
              have c0 : wr.cell? ⟨n0 + 1, 0, none⟩ = some (.int .u64 m.l.tx) := hcw 0 _ rfl
              have c1 : wr.cell? ⟨n0 + 1, 1, none⟩ = some (.int .u64 m'.l.tx) := hcw 1 _ rfl
              have HOy := hide (HO9.out.keep hBy)
              have HBwy := hide (HBw9.out.trans (hBy.mono HBw9.out.size))
              have HKby : Hid (∀ b, N1 ≤ b → b < w2.heap.size → wr.heap[b]? = w2.heap[b]?) := fun b h1 h2 => (hBy.block b (by omega)).trans (HKb9.out b h1 h2)
              have hswy := HBwy.out.size
              clear hcw hBy
              cases hkn : knownE (edJ hs ws k m j) (m.l.tx, m'.l.tx) with
              | true =>
                rw [hkn, if_pos rfl] at HEm
                clear hkn
                go_wp2
                go_roundg (vn - (j + 1))
                case measure => omega
                case rel => exact ⟨j + 1, rfl, by go_num, by omega, by rw [HEm.out]; exact HOy.out, HBwy.out, HOb.out, HKby.out, by omega⟩
              | false =>
                rw [hkn, if_neg (by simp)] at HEm
                clear hkn
                have hbA := new_below wr (.cells #[.int .u64 m.l.tx, .int .u64 m'.l.tx] 222)
                have HOA := hide (HOy.out.keep hbA)
                have HSA := hide (ownY_one (L := layE) wr 0 #[.int .u64 m.l.tx, .int .u64 m'.l.tx] (m.l.tx, m'.l.tx) (Nat.zero_le _) rfl).is.src
                have HBA := hide hbA
                have HBig : Hid ((edJ hs ws k m j).length + [(m.l.tx, m'.l.tx)].length ≤ 1000000000) := by
                  show _ ≤ _
                  have := edJ_len hs ws k m j (by omega) (by omega) (by omega)
                  simp only [List.length_singleton]; omega
                clear hbA
                go_wp2_with (first
                  | (at_builtin; go_must (refine wp_joinY layE _ rfl (.tmp 56) (.tmp 58) rfl w.heap.size _ (edJ hs ws k m j) rfl HOA.out (some ⟨wr.heap.size, 0, none⟩) 1 1 [(m.l.tx, m'.l.tx)] rfl HSA.out HBig.out (by simp; omega) ?_); intro v5 w5 hown5 hg5 hat5; have HO5 := hide hown5; have HG5 := hide hg5; have HA5 := hide hat5; obtain ⟨xa, xn, xc, rfl⟩ := hown5.any3; clear hown5 hg5 hat5))
                go_roundg (vn - (j + 1))
                case measure => omega
                case rel =>
                  have hsz5 := HG5.out.size
                  simp only [World.size_alloc] at hsz5
                  refine ⟨j + 1, rfl, by go_num, by omega, by rw [HEm.out]; exact HO5.out, (HBwy.out.trans (HBA.out.mono hswy)).trans (HOA.out.grown HG5.out (by simp; omega)), fun g hg => ?_, fun b h1 h2 => ?_, by omega⟩
                  · rcases HA5.out with e | ⟨g2, e, hg2⟩
                    · rw [e] at hg; exact HOb.out g hg
                    · rw [e] at hg
                      have := Option.some.inj hg
                      simp only [World.size_alloc] at hg2
                      exact .inr (by omega)
                  · refine ((HG5.out.block b (by simp; omega) (fun e => ?_)).trans (HBA.out.block b (by omega))).trans (HKby.out b h1 h2)
                    rcases HOb.out b e.symm with h3 | h3 <;> omega
        · obtain rfl : j = vn := by omega
          have HEa := hide (edJ_all HMk.out (j := j) (Nat.le_of_eq HL2.out.len.1))
          rw [HEa.out] at HOw
          clear hO hB hob hkb hLw hNw
          go_wp2
          go_roundg (wn - (k + 1))
          case measure => omega
          case rel => exact ⟨k + 1, rfl, by go_num, by omega, HOw.out, HB.out⟩
    · obtain rfl : k = wn := by omega
      clear hB
      go_wp2
      go_ret
      refine ⟨_, rfl, ?_, HB.out⟩
      have e : edK hs ws k = edgesL (hs.map ML.l) (ws.map ML.l) := by
        unfold edK edgesL
        rw [List.take_of_length_le (by omega)]
      rw [← e]
      exact HOw.out

/-- the reference's table at block q; what its locks point to lies in the start world w0 -/
structure TxT (oc : Nat → Option Value) (w0 w : World) (q : Nat) (ha : Option Addr) (hn hc : Nat) (wa : Option Addr) (wn wc : Nat) (hs ws : List ML) : Prop where
  c0 : w.cell? ⟨q, 3, none⟩ = some (.slice ha hn hc)
  c1 : w.cell? ⟨q, 4, none⟩ = some (.slice wa wn wc)
  lt : q < w.heap.size
  fz : ∀ j, w.frozen? ⟨q, j, none⟩ = false
  h : IsY layK w ha hn hc hs
  wt : IsY layK w wa wn wc ws
  b0 : Below w0.heap.size w0 w
  q0 : w0.heap.size ≤ q
  ho : ∀ m ∈ hs, m.ok w0
  wo : ∀ m ∈ ws, m.ok w0
  oh : hn = 0 ∨ ∀ y, ha = some y → y.block ≠ q
  ow : wn = 0 ∨ ∀ y, wa = some y → y.block ≠ q
  fh : ha = none ∨ ∃ g off, ha = some ⟨g, off, none⟩
  fw : wa = none ∨ ∃ g off, wa = some ⟨g, off, none⟩
  oc : ∀ j, j ≠ 3 → j ≠ 4 → w.cell? ⟨q, j, none⟩ = oc j

theorem TxT.a {w0 w : World} {q : Nat} {ha : Option Addr} {hn hc : Nat} {wa : Option Addr} {wn wc : Nat} {hs ws : List ML} (h : TxT oc w0 w q ha hn hc wa wn wc hs ws) : TxA w q ha hn hc wa wn wc hs ws :=
  ⟨h.c0, h.c1, h.lt, h.h, h.wt, fun m hm => (h.ho m hm).keep h.b0, fun m hm => (h.wo m hm).keep h.b0⟩

theorem TxT.keep {w0 w w' : World} {q : Nat} {ha : Option Addr} {hn hc : Nat} {wa : Option Addr} {wn wc : Nat} {hs ws : List ML} (h : TxT oc w0 w q ha hn hc wa wn wc hs ws) (hb : Below w.heap.size w w') : TxT oc w0 w' q ha hn hc wa wn wc hs ws :=
  ⟨(hb.cell (p := ⟨q, 3, none⟩) h.lt).trans h.c0, (hb.cell (p := ⟨q, 4, none⟩) h.lt).trans h.c1, Nat.lt_of_lt_of_le h.lt hb.size, fun j => (hb.frozen (p := ⟨q, j, none⟩) h.lt).trans (h.fz j), h.h.keep hb, h.wt.keep hb, h.b0.trans (hb.mono h.b0.size), h.q0, h.ho, h.wo, h.oh, h.ow, h.fh, h.fw, fun j h3 h4 => (hb.cell (p := ⟨q, j, none⟩) h.lt).trans (h.oc j h3 h4)⟩

theorem TxT.setW {w0 w w' : World} {q : Nat} {ha : Option Addr} {hn hc : Nat} {wa : Option Addr} {wn wc : Nat} {hs ws : List ML} (h : TxT oc w0 w q ha hn hc wa wn wc hs ws) {a : Option Addr} {n c : Nat} {l : List ML} (hp : TxP w q 4 l w' (.slice a n c)) (hl : ∀ m ∈ l, m.ok w0) : TxT oc w0 w' q ha hn hc a n c hs l :=
  ⟨(hp.oc 3 (by omega)).trans h.c0, hp.c, Nat.lt_of_lt_of_le h.lt hp.kp.size, fun j => (hp.fz j).trans (h.fz j), h.h.lies hp.kp h.oh, hp.o.is, h.b0.trans (hp.kp.below h.b0.size (fun k (e : k = q) => by have := h.q0; omega)), h.q0, h.ho, hl, h.oh, .inr (fun y hy e => by have := ownY_at hp.o y hy; have := h.lt; omega), h.fh, ownY_form hp.o, fun j h3 h4 => (hp.oc j h4).trans (h.oc j h3 h4)⟩

theorem TxT.setH {w0 w w' : World} {q : Nat} {ha : Option Addr} {hn hc : Nat} {wa : Option Addr} {wn wc : Nat} {hs ws : List ML} (h : TxT oc w0 w q ha hn hc wa wn wc hs ws) {a : Option Addr} {n c : Nat} {l : List ML} (hp : TxP w q 3 l w' (.slice a n c)) (hl : ∀ m ∈ l, m.ok w0) : TxT oc w0 w' q a n c wa wn wc l ws :=
  ⟨hp.c, (hp.oc 4 (by omega)).trans h.c1, Nat.lt_of_lt_of_le h.lt hp.kp.size, fun j => (hp.fz j).trans (h.fz j), hp.o.is, h.wt.lies hp.kp h.ow, h.b0.trans (hp.kp.below h.b0.size (fun k (e : k = q) => by have := h.q0; omega)), h.q0, hl, h.wo, .inr (fun y hy e => by have := ownY_at hp.o y hy; have := h.lt; omega), h.ow, ownY_form hp.o, h.fw, fun j h3 h4 => (hp.oc j h3).trans (h.oc j h3 h4)⟩

/-- what a call leaves of the reference's table -/
structure TxN (oc : Nat → Option Value) (w0 w : World) (q : Nat) (ha wa : Option Addr) (t : Tab) (w' : World) (ha' : Option Addr) (hn' hc' : Nat) (wa' : Option Addr) (wn' wc' : Nat) (hs' ws' : List ML) : Prop where
  tt : TxT oc w0 w' q ha' hn' hc' wa' wn' wc' hs' ws'
  eh : hs'.map ML.l = t.held
  ew : ws'.map ML.l = t.wait
  kp : Keeps (fun k => k = q) w w'
  ph : ha' = ha ∨ ∀ y, ha' = some y → w.heap.size ≤ y.block ∧ y.block < w'.heap.size
  pw : wa' = wa ∨ ∀ y, wa' = some y → w.heap.size ≤ y.block ∧ y.block < w'.heap.size

set_option maxHeartbeats 4000000 in
theorem xfree_any (w0 : World) (q : Nat) (ha : Option Addr) (hn hc : Nat) (wa : Option Addr) (wn wc : Nat) (hs ws : List ML) (tx : Int) (w : World) (h : TxT oc w0 w q ha hn hc wa wn wc hs ws) (hb1 : hn ≤ 1000) (hb2 : wn ≤ 1000) :
    Calls Tryz.prog 84 #[.pointer (some ⟨q, 3, none⟩), .int .u64 tx] w fun e w' => ∃ ha' hn' hc' wa' wn' wc' hs' ws', e = .returned (.int .i64 ((freeL ⟨hs.map ML.l, ws.map ML.l⟩ tx).2 : Nat)) ∧ TxN oc w0 w q ha wa (freeL ⟨hs.map ML.l, ws.map ML.l⟩ tx).1 w' ha' hn' hc' wa' wn' wc' hs' ws' := by
  have hq := h.lt
  have H := hide h
  have hmc : (hc : Int) ≤ 9223372036854775807 := by have := h.h.2.2.1; unfold maxLen at this; omega
  have hnc := h.h.2.1
  have hnl := h.h.1
  have c0 := h.c0
  clear h
  go_enter Tryz.func84, Tryz.ntmps84
  go_wp2
  clear c0
  go_loopg [5, 14] hn (fun gk v i wr => ∃ k : Nat, gk = hn - k ∧ i = .int .i64 k ∧ k ≤ hn ∧ OwnY layK wr w.heap.size v ((hs.take k).filter (fun m => m.l.tx != tx)) ∧ Below w.heap.size w wr)
  case atStart => exact ⟨0, rfl, rfl, Nat.zero_le _, ownY_nil _ _, Below.refl _ _⟩
  case round =>
    obtain ⟨k, rfl, rfl, hk, hO, hB⟩ := hrel
    obtain ⟨va, vn, vc, rfl⟩ := hO.any3
    have HOw := hide hO
    have HB := hide hB
    have hsw := hB.size
    have hvl := hO.len
    clear hO
    by_cases hlt : k < hn
    · have hlt' : (k : Int) < (hn : Int) := by omega
      obtain ⟨m, hmk⟩ := ml_at (hs := hs) (k := k) (by omega)
      obtain ⟨g, off, e9, hg, hC⟩ := H.out.h.at hlt
      have d := at5_of (rangeY_same (hC k m hmk) (hB.block g hg))
      subst e9
      obtain ⟨d0, d1, d2, d3, d4⟩ := d
      have d0 : wr.cell? ⟨g, off + k * 5, none⟩ = some (.int .u64 m.l.tx) := d0
      have d1 : wr.cell? ⟨g, off + k * 5 + 1, none⟩ = some (.int .i64 m.l.lv) := d1
      have d2 : wr.cell? ⟨g, off + k * 5 + 2, none⟩ = some (.int .i64 m.l.md) := d2
      have d3 : wr.cell? ⟨g, off + k * 5 + 3, none⟩ = some (.slice m.la m.ln m.lc) := d3
      have d4 : wr.cell? ⟨g, off + k * 5 + 4, none⟩ = some (.slice m.ha m.hn m.hc) := d4
      have hbN := new_below wr (.cells #[.int .u64 m.l.tx, .int .i64 m.l.lv, .int .i64 m.l.md, .slice m.la m.ln m.lc, .slice m.ha m.hn m.hc] 41)
      have HFm := hide (filter_more (fun m : ML => m.l.tx != tx) hmk)
      have HBN := hide hbN
      have HBig : Hid (((hs.take k).filter (fun m => m.l.tx != tx)).length + [m].length ≤ 1000000000) := by
        show _ ≤ _
        have := List.length_filter_le (fun m : ML => m.l.tx != tx) (hs.take k)
        rw [List.length_take] at this
        simp only [List.length_singleton]; omega
      clear hC hmk hB hbN
      by_cases ht : m.l.tx = tx
      · have ht' : (m.l.tx == tx) = true := by simp [ht]
        have HF2 : Hid ((hs.take (k + 1)).filter (fun m => m.l.tx != tx) = (hs.take k).filter (fun m => m.l.tx != tx)) := by
          show _ = _
          rw [HFm.out]; simp [ht]
        clear ht
        go_wp2
        go_roundg (hn - (k + 1))
        case measure => omega
        case rel => exact ⟨k + 1, rfl, by go_num, by omega, by rw [HF2.out]; exact HOw.out.keep HBN.out, HB.out.trans (HBN.out.mono hsw)⟩
      · have ht' : (m.l.tx == tx) = false := by simp [ht]
        have HF2 : Hid ((hs.take (k + 1)).filter (fun m => m.l.tx != tx) = (hs.take k).filter (fun m => m.l.tx != tx) ++ [m]) := by
          show _ = _
          rw [HFm.out]; simp [ht]
        have HO4 := hide ((HOw.out.keep HBN.out).keep (new_below (wr.alloc (.cells #[.int .u64 m.l.tx, .int .i64 m.l.lv, .int .i64 m.l.md, .slice m.la m.ln m.lc, .slice m.ha m.hn m.hc] 41)) (.cells #[.int .u64 m.l.tx, .int .i64 m.l.lv, .int .i64 m.l.md, .slice m.la m.ln m.lc, .slice m.ha m.hn m.hc] 41)))
        have HS4 := hide (ownY_one (L := layK) (wr.alloc (.cells #[.int .u64 m.l.tx, .int .i64 m.l.lv, .int .i64 m.l.md, .slice m.la m.ln m.lc, .slice m.ha m.hn m.hc] 41)) 0 #[.int .u64 m.l.tx, .int .i64 m.l.lv, .int .i64 m.l.md, .slice m.la m.ln m.lc, .slice m.ha m.hn m.hc] m (Nat.zero_le _) rfl).is.src
        simp only [World.size_alloc] at HS4
        clear ht
        go_wp2_with (first
          | (at_builtin; go_must (refine wp_joinY layK _ rfl (.tmp 22) (.tmp 24) rfl w.heap.size _ ((hs.take k).filter (fun m => m.l.tx != tx)) rfl HO4.out (some ⟨wr.heap.size + 1, 0, none⟩) 1 1 [m] rfl HS4.out HBig.out (by simp; omega) ?_); intro v5 w5 hown5 hg5 hat5; have HO5 := hide hown5; have HB5 := hide (HO4.out.grown hg5 (by simp; omega)); obtain ⟨xa, xn, xc, rfl⟩ := hown5.any3; clear hown5 hg5 hat5))
        go_roundg (hn - (k + 1))
        case measure => omega
        case rel =>
          have hbb := HBN.out.trans ((new_below (wr.alloc (.cells #[.int .u64 m.l.tx, .int .i64 m.l.lv, .int .i64 m.l.md, .slice m.la m.ln m.lc, .slice m.ha m.hn m.hc] 41)) (.cells #[.int .u64 m.l.tx, .int .i64 m.l.lv, .int .i64 m.l.md, .slice m.la m.ln m.lc, .slice m.ha m.hn m.hc] 41)).mono (by simp))
          exact ⟨k + 1, rfl, by go_num, by omega, by rw [HF2.out]; exact HO5.out, (HB.out.trans (hbb.mono hsw)).trans HB5.out⟩
    · obtain rfl : k = hn := by omega
      have ek : hs.take k = hs := List.take_of_length_le (by omega)
      rw [ek] at HOw hvl
      have hTr := H.out.keep hB
      have cw := hTr.c0
      have fw := hTr.fz 3
      have hp := txP_set (w := w) (q := q) (i := 3) hB hq HOw.out (by rw [H.out.c0]; rfl)
      have hT1 := H.out.setH hp (fun m hm => H.out.ho m (List.mem_filter.1 hm).1)
      have HLv := hide (leave_any q va vn vc wa wn wc _ ws tx ml0 _ hT1.a (hT1.fz 4) (ml0_ok _) (by omega))
      have HP := hide hp
      have HT1 := hide hT1
      have hlen : (((freeL ⟨hs.map ML.l, ws.map ML.l⟩ tx).2 : Nat) : Int) = (k : Int) - (vn : Int) := by
        unfold freeL
        dsimp only
        rw [← held_l, List.length_map, List.length_map]
        have := List.length_filter_le (fun m : ML => m.l.tx != tx) hs
        omega
      have HLen := hide hlen
      have hvn : vn ≤ k := by have := List.length_filter_le (fun m : ML => m.l.tx != tx) hs; omega
      clear hB hTr hp hT1 hlen
      have hl0 : ml0.l = lck0 := rfl
      go_wp2_with (first
        | (go_at_call 126; go_must (refine HLv.out.mono ?_); rintro e w5 ⟨v5, rfl, hp5⟩; obtain ⟨xa, xn, xc, rfl⟩ := hp5.o.any3; have HP5 := hide hp5; clear hp5))
      go_ret
      have hT5 := HT1.out.setW HP5.out (fun m hm => HT1.out.wo m (List.mem_filter.1 hm).1)
      refine ⟨va, vn, vc, xa, xn, xc, _, _, ?_, hT5, held_l hs tx, ?_, ?_, .inr (fun y hy => ?_), .inr (fun y hy => ?_)⟩
      · show Ending.returned (.int .i64 ((k : Int) - (vn : Int))) = _
        rw [HLen.out]
      · rw [leaveM_l]; rfl
      · exact kp_then HP.out.kp (fun k hk _ => hk) HP5.out.kp
      · have h1 := ownY_at HOw.out y hy
        exact ⟨h1.1, Nat.lt_of_lt_of_le h1.2 (by simpa [World.setCell] using HP5.out.kp.size)⟩
      · have := ownY_at HP5.out.o y hy
        have := HP.out.kp.size
        omega

def AskPost (oc : Nat → Option Value) (w0 w : World) (q : Nat) (ha wa : Option Addr) (r : Tab × Bool × Int) (e : Ending) (w' : World) : Prop :=
  e = .returned (.tuple #[.bool r.2.1, .int .i64 r.2.2]) ∧ ∃ ha' hn' hc' wa' wn' wc' hs' ws', TxN oc w0 w q ha wa r.1 w' ha' hn' hc' wa' wn' wc' hs' ws'

theorem txN_same {w0 w w' : World} {q : Nat} {ha : Option Addr} {hn hc : Nat} {wa : Option Addr} {wn wc : Nat} {hs ws : List ML} (h : TxT oc w0 w q ha hn hc wa wn wc hs ws) (hb : Below w.heap.size w w') : TxN oc w0 w q ha wa ⟨hs.map ML.l, ws.map ML.l⟩ w' ha hn hc wa wn wc hs ws :=
  ⟨h.keep hb, rfl, rfl, Below.keeps hb _, .inl rfl, .inl rfl⟩

set_option maxHeartbeats 8000000 in
theorem xask_any (w0 : World) (q : Nat) (ha : Option Addr) (hn hc : Nat) (wa : Option Addr) (wn wk : Nat) (hs ws : List ML) (x : ML) (w : World) (h : TxT oc w0 w q ha hn hc wa wn wk hs ws) (hx : x.ok w0) (hb1 : hn ≤ 199) (hb2 : wn ≤ 199) :
    Calls Tryz.prog 83 #[.pointer (some ⟨q, 3, none⟩), .agg #[.int .u64 x.l.tx, .int .i64 x.l.lv, .int .i64 x.l.md, .slice x.la x.ln x.lc, .slice x.ha x.hn x.hc]] w fun e w' => AskPost oc w0 w q ha wa (askL ⟨hs.map ML.l, ws.map ML.l⟩ x.l) e w' := by
  obtain ⟨w1, hw1⟩ : ∃ w1, w1 = w.alloc (.cells #[.int .u64 x.l.tx, .int .i64 x.l.lv, .int .i64 x.l.md, .slice x.la x.ln x.lc, .slice x.ha x.hn x.hc] 41) := ⟨_, rfl⟩
  have hbx : Below w.heap.size w w1 := by rw [hw1]; exact new_below _ _
  have hs1 : w1.heap.size = w.heap.size + 1 := by rw [hw1]; simp
  have HX1 : Hid (At5 w1 w.heap.size 0 x) := by rw [hw1]; exact at5_new w x
  have hq := h.lt
  have H1 := hide (h.keep hbx)
  have H0 := hide h
  have HBx := hide hbx
  have hxo : x.ok w1 := hx.keep H1.out.b0
  have HXo := hide hx
  have hmc : (hc : Int) ≤ 9223372036854775807 := by have := h.h.2.2.1; unfold maxLen at this; omega
  have hnc := h.h.2.1
  have hnl := h.h.1
  have hwl := h.wt.1
  obtain ⟨x0, x1, x2, x3, x4⟩ := HX1.out.zero
  have HBe := hide (below_any x.ha x.hn x.hc x.l.hi x.la x.ln x.lc x.l.lo w1 hxo.hi hxo.lo)
  obtain ⟨r, hr⟩ : ∃ r, askL ⟨hs.map ML.l, ws.map ML.l⟩ x.l = r := ⟨_, rfl⟩
  have HR := hide hr
  rw [hr]
  obtain ⟨zb, hzb⟩ : ∃ z, badL x.l = z := ⟨_, rfl⟩
  obtain ⟨ze, hze⟩ : ∃ z, belowL x.l.hi x.l.lo = z := ⟨_, rfl⟩
  have HZb := hide hzb
  have hzb2 := hzb
  unfold badL at hzb2
  rw [hze] at hzb2 HBe
  have HZb2 := hide hzb2
  clear h hx hbx hr hzb hzb2 hze hxo
  go_enter Tryz.func83, Tryz.ntmps83
  go_upto_region 1 with fail
  rw [← hw1]
  clear hw1
  go_cut [38] (fun s wx => s = .bool zb ∧ Hid (wx = w1))
  case first =>
    by_cases t0 : x.l.tx = 0
    · have t0' : (x.l.tx == 0) = true := by simp [t0]
      have HZ2 := hide (show zb = true by rw [← HZb2.out, t0']; simp)
      clear t0
      go_wp2
      go_meet
      exact ⟨by rw [HZ2.out], hide rfl⟩
    · have t0' : (x.l.tx == 0) = false := by simp [t0]
      by_cases l0 : x.l.lv ≠ 0 ∧ x.l.lv ≠ 1
      · have l0' : (x.l.lv == 0) = false := by simp [l0.1]
        have l1' : (x.l.lv == 1) = false := by simp [l0.2]
        have l0n : (x.l.lv != 0) = true := by simp [l0.1]
        have l1n : (x.l.lv != 1) = true := by simp [l0.2]
        have HZ2 := hide (show zb = true by rw [← HZb2.out]; simp [l0.1, l0.2])
        clear l0
        go_wp2
        go_meet
        exact ⟨by rw [HZ2.out], hide rfl⟩
      · have hlv : ((x.l.lv != 0) && (x.l.lv != 1)) = false := by
          by_cases e0 : x.l.lv = 0
          · simp [e0]
          · have e1 : x.l.lv = 1 := Classical.byContradiction (fun e1 => l0 ⟨e0, e1⟩)
            simp [e1]
        by_cases m0 : x.l.md < 1
        · have HZ2 := hide (show zb = true by rw [← HZb2.out]; simp [m0])
          by_cases e0 : x.l.lv = 0
          · have e0n : (x.l.lv != 0) = false := by simp [e0]
            clear e0 l0 hlv
            go_wp2
            go_meet
            exact ⟨by rw [HZ2.out], hide rfl⟩
          · have e0n : (x.l.lv != 0) = true := by simp [e0]
            have e1n : (x.l.lv != 1) = false := by have e1 : x.l.lv = 1 := Classical.byContradiction (fun e1 => l0 ⟨e0, e1⟩); simp [e1]
            clear e0 l0 hlv
            go_wp2
            go_meet
            exact ⟨by rw [HZ2.out], hide rfl⟩
        · by_cases m4 : 4 < x.l.md
          · have HZ2 := hide (show zb = true by rw [← HZb2.out]; simp [m4])
            by_cases e0 : x.l.lv = 0
            · have e0n : (x.l.lv != 0) = false := by simp [e0]
              clear e0 l0 hlv
              go_wp2
              go_meet
              exact ⟨by rw [HZ2.out], hide rfl⟩
            · have e0n : (x.l.lv != 0) = true := by simp [e0]
              have e1n : (x.l.lv != 1) = false := by have e1 : x.l.lv = 1 := Classical.byContradiction (fun e1 => l0 ⟨e0, e1⟩); simp [e1]
              clear e0 l0 hlv
              go_wp2
              go_meet
              exact ⟨by rw [HZ2.out], hide rfl⟩
          · have HZ2 := hide (show zb = ze by rw [← HZb2.out, t0', hlv]; simp [m0, m4])
            by_cases e0 : x.l.lv = 0
            · have e0n : (x.l.lv != 0) = false := by simp [e0]
              clear e0 l0 hlv
              go_wp2_with (first
                | (go_at_call 124; go_must (refine HBe.out.mono ?_); rintro e w2 ⟨rfl, hw⟩; have hw := hw.symm; subst hw))
              go_meet
              exact ⟨by rw [HZ2.out], hide rfl⟩
            · have e0n : (x.l.lv != 0) = true := by simp [e0]
              have e1n : (x.l.lv != 1) = false := by have e1 : x.l.lv = 1 := Classical.byContradiction (fun e1 => l0 ⟨e0, e1⟩); simp [e1]
              clear e0 l0 hlv
              go_wp2_with (first
                | (go_at_call 124; go_must (refine HBe.out.mono ?_); rintro e w2 ⟨rfl, hw⟩; have hw := hw.symm; subst hw))
              go_meet
              exact ⟨by rw [HZ2.out], hide rfl⟩
  case rest =>
    obtain ⟨rfl, hwc⟩ := hcut
    have hwc := hwc.out
    subst wc
    cases zb with
    | true =>
      have HR2 := hide (show r = (⟨hs.map ML.l, ws.map ML.l⟩, false, 1) by rw [← HR.out]; unfold askL; rw [if_pos HZb.out])
      go_wp2
      go_ret2
      refine ⟨?_, ha, hn, hc, wa, wn, wk, hs, ws, ?_⟩
      · rw [HR2.out]; rfl
      · rw [HR2.out]; exact txN_same H0.out HBx.out
    | false =>
      have c0 := H1.out.c0
      clear x0 x1 x2 x3 x4 HBe
      go_wp2
      clear c0
      go_loopg [44] hn (fun gk i wr => ∃ k : Nat, gk = hn - k ∧ i = .int .i64 k ∧ k ≤ hn ∧ ((hs.take k).map ML.l).any (fun y => coversL y x.l) = false ∧ Below w1.heap.size w1 wr)
      case atStart => exact ⟨0, rfl, rfl, Nat.zero_le _, rfl, Below.refl _ _⟩
      case round =>
        obtain ⟨k, rfl, rfl, hk, hA, hB⟩ := hrel
        have HA := hide hA
        have HB := hide hB
        have hsw := hB.size
        clear hA
        by_cases hlt : k < hn
        · have hlt' : (k : Int) < (hn : Int) := by omega
          obtain ⟨m, hmk⟩ := ml_at (hs := hs) (k := k) (by omega)
          obtain ⟨g, off, e9, hg, hC⟩ := H1.out.h.at hlt
          have d := at5_of (rangeY_same (hC k m hmk) (hB.block g hg))
          subst e9
          obtain ⟨d0, d1, d2, d3, d4⟩ := d
          have d0 : wr.cell? ⟨g, off + k * 5, none⟩ = some (.int .u64 m.l.tx) := d0
          have d1 : wr.cell? ⟨g, off + k * 5 + 1, none⟩ = some (.int .i64 m.l.lv) := d1
          have d2 : wr.cell? ⟨g, off + k * 5 + 2, none⟩ = some (.int .i64 m.l.md) := d2
          have d3 : wr.cell? ⟨g, off + k * 5 + 3, none⟩ = some (.slice m.la m.ln m.lc) := d3
          have d4 : wr.cell? ⟨g, off + k * 5 + 4, none⟩ = some (.slice m.ha m.hn m.hc) := d4
          have hbN := new_below wr (.cells #[.int .u64 m.l.tx, .int .i64 m.l.lv, .int .i64 m.l.md, .slice m.la m.ln m.lc, .slice m.ha m.hn m.hc] 41)
          have hb1N := hB.trans (hbN.mono hsw)
          have hT := H1.out.keep hb1N
          obtain ⟨x0, x1, x2, x3, x4⟩ := (HX1.out.same (hb1N.block _ (by omega))).zero
          have HCv := hide (covers_any m x _ (hT.a.ho m (List.mem_of_getElem? hmk)) (HXo.out.keep hT.b0))
          have HAm := hide (any_more (fun y => coversL y x.l) hmk)
          rw [HA.out] at HAm
          have HB1N := hide hb1N
          clear hC hmk hB hbN hb1N hT
          cases hcv : coversL m.l x.l with
          | true =>
            rw [hcv] at HCv HAm
            have HR2 := hide (show r = (⟨hs.map ML.l, ws.map ML.l⟩, true, 0) by rw [← HR.out]; unfold askL; rw [if_neg (by rw [HZb.out]; simp), if_pos (any_pre (k := k + 1) _ HAm.out)])
            clear hcv
            go_wp2_with (first
              | (go_at_call 125; go_must (refine HCv.out.mono ?_); rintro e w2 ⟨rfl, hb2⟩; have HB2 := hide (HB1N.out.trans (hb2.mono HB1N.out.size)); clear hb2))
            go_ret2
            refine ⟨?_, some ⟨g, off, none⟩, hn, hc, wa, wn, wk, hs, ws, ?_⟩
            · rw [HR2.out]; rfl
            · rw [HR2.out]; exact txN_same H0.out (HBx.out.trans (HB2.out.mono (by omega)))
          | false =>
            rw [hcv] at HCv HAm
            clear hcv
            go_wp2_with (first
              | (go_at_call 125; go_must (refine HCv.out.mono ?_); rintro e w2 ⟨rfl, hb2⟩; have HB2 := hide (HB1N.out.trans (hb2.mono HB1N.out.size)); clear hb2))
            go_roundg (hn - (k + 1))
            case measure => omega
            case rel => exact ⟨k + 1, rfl, by go_num, by omega, HAm.out, HB2.out⟩
        · obtain rfl : k = hn := by omega
          have ek : hs.take k = hs := List.take_of_length_le (by omega)
          rw [ek] at HA
          have hT := H1.out.keep hB
          have HTr := hide hT
          obtain ⟨x0, x1, x2, x3, x4⟩ := (HX1.out.same (hB.block _ (by omega))).zero
          have HLv := hide (leave_any q ha k hc wa wn wk hs ws x.l.tx x wr hT.a (hT.fz 4) (HXo.out.keep hT.b0) (by omega))
          have HXr := hide (HX1.out.same (hB.block _ (by omega)))
          clear hT
          go_upto_region 11 with (first
            | (go_at_call 126; go_must (refine HLv.out.mono ?_); rintro e w2 ⟨v2, rfl, hp2⟩; obtain ⟨wa2, wn2, wc2, rfl⟩ := hp2.o.any3; have HP2 := hide hp2; clear hp2))
          have hT2 := HTr.out.setW HP2.out (fun m hm => HTr.out.wo m ((List.mem_filter.1 hm).1))
          have hln2 := List.length_filter_le (stayM x.l.tx x) ws
          have HW2 := hide (leaveM_l ws x.l.tx x)
          obtain ⟨ws2, hws2⟩ : ∃ l, ws.filter (stayM x.l.tx x) = l := ⟨_, rfl⟩
          rw [hws2] at HP2 hT2 HW2 hln2
          have hwl2 := hT2.wt.1
          have hnc2 := hT2.wt.2.1
          have hwn2 : wn2 ≤ 199 := by omega
          have HX2 := hide (HXr.out.same (HP2.out.kp.block w.heap.size (by omega) (by omega)))
          have HT2 := hide hT2
          have hsz2 := HP2.out.kp.size
          have HAh := hide (ahead_cases (ws2.map ML.l) x.l)
          obtain ⟨k0, hk0⟩ : ∃ n, (aheadL (ws2.map ML.l) x.l).length = n := ⟨_, rfl⟩
          rw [hk0] at HAh
          have hk0' : k0 ≤ wn2 := by have := HAh.out.2.1; rw [List.length_map] at this; omega
          clear hT2 hws2 hk0 hln2 x0 x1 x2 x3 x4 HLv hB
          go_loopg [8] k0 (fun gk i wx => ∃ j : Nat, gk = k0 - j ∧ i = .int .i64 j ∧ j ≤ k0 ∧ Below w2.heap.size w2 wx)
          case atStart => exact ⟨0, rfl, rfl, Nat.zero_le _, Below.refl _ _⟩
          case round =>
            obtain ⟨j, rfl, rfl, hj, hB3⟩ := hrel
            go_upto_region 11 with fail
            go_cut [75] from 57 to 77 (fun s wx => s = .bool (decide (j < k0)) ∧ Hid (Below w2.heap.size w2 wx))
            case first =>
              have hsz3 := hB3.size
              have HB3a := hide hB3
              by_cases hlt : j < wn2
              · have hlt' : (j : Int) < (wn2 : Int) := by omega
                obtain ⟨m, hmk⟩ := ml_at (hs := ws2) (k := j) (by omega)
                have HZ : Hid ((!(decide (m.l = x.l))) = decide (j < k0)) := by
                  have hg : (ws2.map ML.l)[j]? = some m.l := by rw [List.getElem?_map, hmk]; rfl
                  show _ = _
                  by_cases hjk : j < k0
                  · have := HAh.out.2.2.1 j hjk
                    rw [hg] at this
                    have : m.l ≠ x.l := fun e => this (by rw [e])
                    simp [this, hjk]
                  · have ejk : j = k0 := by omega
                    rcases HAh.out.2.2.2 with e | e
                    · rw [List.length_map] at e; omega
                    · rw [← ejk, hg] at e
                      have : m.l = x.l := by simpa using e
                      simp [this, hjk]
                obtain ⟨g2, off2, e9, hg2, hC2⟩ := HT2.out.wt.at hlt
                have hmo := HT2.out.wo m (List.mem_of_getElem? hmk)
                have HV : Hid (∀ V, Below wr.drew.heap.size wr.drew V → V.cell? ⟨q, 4, none⟩ = some (.slice wa2 wn2 wc2) ∧ V.cell? ⟨g2, off2 + j * 5, none⟩ = some (.int .u64 m.l.tx) ∧ V.cell? ⟨g2, off2 + j * 5 + 1, none⟩ = some (.int .i64 m.l.lv) ∧ V.cell? ⟨g2, off2 + j * 5 + 2, none⟩ = some (.int .i64 m.l.md) ∧ V.cell? ⟨g2, off2 + j * 5 + 3, none⟩ = some (.slice m.la m.ln m.lc) ∧ V.cell? ⟨g2, off2 + j * 5 + 4, none⟩ = some (.slice m.ha m.hn m.hc) ∧ V.cell? ⟨w.heap.size, 0, none⟩ = some (.int .u64 x.l.tx) ∧ V.cell? ⟨w.heap.size, 1, none⟩ = some (.int .i64 x.l.lv) ∧ V.cell? ⟨w.heap.size, 2, none⟩ = some (.int .i64 x.l.md) ∧ V.cell? ⟨w.heap.size, 3, none⟩ = some (.slice x.la x.ln x.lc) ∧ V.cell? ⟨w.heap.size, 4, none⟩ = some (.slice x.ha x.hn x.hc)) := fun V hV => by
                  have hV2 := HB3a.out.trans ((below_undrew hV).mono hsz3)
                  have hT := HT2.out.keep hV2
                  obtain ⟨d0, d1, d2, d3, d4⟩ := at5_of (rangeY_same (hC2 j m hmk) (hV2.block g2 hg2))
                  exact ⟨hT.c1, d0, d1, d2, d3, d4, (HX2.out.same (hV2.block _ (by omega))).zero⟩
                have hTd := HT2.out.keep (HB3a.out.trans ((Below.refl wr.heap.size wr).drew.mono hsz3))
                have HSm := hide (same_any m x wr.drew (hmo.keep hTd.b0) (HXo.out.keep hTd.b0))
                subst e9
                clear hC2 hmk hTd hmo hB3
                refine startX 99 (by kernel_rfl) ?_
                refine' takeX (E := 99) (i := 0) (v := _) rfl (by kernel_rfl) (by kernel_rfl) (by kernel_rfl) (by kernel_rfl) (fun _ _ _ h => h) (by rfl) (Below.refl _ _) ?_ ?_; rotate_left
                · (intro V hSV; obtain ⟨y1, d0, d1, d2, d3, d4, x0, x1, x2, x3, x4⟩ := HV.out V hSV; go_simp; all_goals (with_reducible rfl))
                (try simp only [Act.put, List.setIfInBounds_toArray, List.set_cons_zero, List.set_cons_succ])
                refine' takeX (E := 99) (i := 1) (v := _) rfl (by kernel_rfl) (by kernel_rfl) (by kernel_rfl) (by kernel_rfl) (fun _ _ _ h => h) (by rfl) (Below.refl _ _) ?_ ?_; rotate_left
                · (intro V hSV; obtain ⟨y1, d0, d1, d2, d3, d4, x0, x1, x2, x3, x4⟩ := HV.out V hSV; go_simp; all_goals (with_reducible rfl))
                (try simp only [Act.put, List.setIfInBounds_toArray, List.set_cons_zero, List.set_cons_succ])
                refine' takeX (E := 99) (i := 2) (v := _) rfl (by kernel_rfl) (by kernel_rfl) (by kernel_rfl) (by kernel_rfl) (fun _ _ _ h => h) (by rfl) (Below.refl _ _) ?_ ?_; rotate_left
                · (intro V hSV; obtain ⟨y1, d0, d1, d2, d3, d4, x0, x1, x2, x3, x4⟩ := HV.out V hSV; go_simp; all_goals (with_reducible rfl))
                (try simp only [Act.put, List.setIfInBounds_toArray, List.set_cons_zero, List.set_cons_succ])
                refine' takeX (E := 99) (i := 3) (v := _) rfl (by kernel_rfl) (by kernel_rfl) (by kernel_rfl) (by kernel_rfl) (fun _ _ _ h => h) (by rfl) (Below.refl _ _) ?_ ?_; rotate_left
                · (intro V hSV; obtain ⟨y1, d0, d1, d2, d3, d4, x0, x1, x2, x3, x4⟩ := HV.out V hSV; go_simp; all_goals (with_reducible rfl))
                (try simp only [Act.put, List.setIfInBounds_toArray, List.set_cons_zero, List.set_cons_succ])
                refine' takeX (E := 99) (i := 4) (v := _) rfl (by kernel_rfl) (by kernel_rfl) (by kernel_rfl) (by kernel_rfl) (fun _ _ _ h => h) (by rfl) (Below.refl _ _) ?_ ?_; rotate_left
                · (intro V hSV; obtain ⟨y1, d0, d1, d2, d3, d4, x0, x1, x2, x3, x4⟩ := HV.out V hSV; go_simp; all_goals (with_reducible rfl))
                (try simp only [Act.put, List.setIfInBounds_toArray, List.set_cons_zero, List.set_cons_succ])
                refine' takeX (E := 99) (i := 5) (v := _) rfl (by kernel_rfl) (by kernel_rfl) (by kernel_rfl) (by kernel_rfl) (fun _ _ _ h => h) (by rfl) (Below.refl _ _) ?_ ?_; rotate_left
                · (intro V hSV; obtain ⟨y1, d0, d1, d2, d3, d4, x0, x1, x2, x3, x4⟩ := HV.out V hSV; go_simp; all_goals (with_reducible rfl))
                (try simp only [Act.put, List.setIfInBounds_toArray, List.set_cons_zero, List.set_cons_succ])
                refine' takeX (E := 99) (i := 6) (v := _) rfl (by kernel_rfl) (by kernel_rfl) (by kernel_rfl) (by kernel_rfl) (fun _ _ _ h => h) (by rfl) (Below.refl _ _) ?_ ?_; rotate_left
                · (intro V hSV; obtain ⟨y1, d0, d1, d2, d3, d4, x0, x1, x2, x3, x4⟩ := HV.out V hSV; go_simp; all_goals (with_reducible rfl))
                (try simp only [Act.put, List.setIfInBounds_toArray, List.set_cons_zero, List.set_cons_succ])
                refine' takeX (E := 99) (i := 7) (v := _) rfl (by kernel_rfl) (by kernel_rfl) (by kernel_rfl) (by kernel_rfl) (fun _ _ _ h => h) (by rfl) (Below.refl _ _) ?_ ?_; rotate_left
                · (intro V hSV; obtain ⟨y1, d0, d1, d2, d3, d4, x0, x1, x2, x3, x4⟩ := HV.out V hSV; go_simp; all_goals (with_reducible rfl))
                (try simp only [Act.put, List.setIfInBounds_toArray, List.set_cons_zero, List.set_cons_succ])
                refine' takeX (E := 99) (i := 8) (v := _) rfl (by kernel_rfl) (by kernel_rfl) (by kernel_rfl) (by kernel_rfl) (fun _ _ _ h => h) (by rfl) (Below.refl _ _) ?_ ?_; rotate_left
                · (intro V hSV; obtain ⟨y1, d0, d1, d2, d3, d4, x0, x1, x2, x3, x4⟩ := HV.out V hSV; go_simp; all_goals (with_reducible rfl))
                (try simp only [Act.put, List.setIfInBounds_toArray, List.set_cons_zero, List.set_cons_succ])
                refine' takeX (E := 99) (i := 9) (v := _) rfl (by kernel_rfl) (by kernel_rfl) (by kernel_rfl) (by kernel_rfl) (fun _ _ _ h => h) (by rfl) (Below.refl _ _) ?_ ?_; rotate_left
                · (intro V hSV; obtain ⟨y1, d0, d1, d2, d3, d4, x0, x1, x2, x3, x4⟩ := HV.out V hSV; go_simp; all_goals (with_reducible rfl))
                (try simp only [Act.put, List.setIfInBounds_toArray, List.set_cons_zero, List.set_cons_succ])
                refine' takeX (E := 99) (i := 10) (v := _) rfl (by kernel_rfl) (by kernel_rfl) (by kernel_rfl) (by kernel_rfl) (fun _ _ _ h => h) (by rfl) (Below.refl _ _) ?_ ?_; rotate_left
                · (intro V hSV; obtain ⟨y1, d0, d1, d2, d3, d4, x0, x1, x2, x3, x4⟩ := HV.out V hSV; go_simp; all_goals (with_reducible rfl))
                (try simp only [Act.put, List.setIfInBounds_toArray, List.set_cons_zero, List.set_cons_succ])
                refine' takeX (E := 99) (i := 11) (v := _) rfl (by kernel_rfl) (by kernel_rfl) (by kernel_rfl) (by kernel_rfl) (fun _ _ _ h => h) (by rfl) (Below.refl _ _) ?_ ?_; rotate_left
                · (intro V hSV; obtain ⟨y1, d0, d1, d2, d3, d4, x0, x1, x2, x3, x4⟩ := HV.out V hSV; go_simp; all_goals (with_reducible rfl))
                (try simp only [Act.put, List.setIfInBounds_toArray, List.set_cons_zero, List.set_cons_succ])
                refine' takeX (E := 99) (i := 12) (v := _) rfl (by kernel_rfl) (by kernel_rfl) (by kernel_rfl) (by kernel_rfl) (fun _ _ _ h => h) (by rfl) (Below.refl _ _) ?_ ?_; rotate_left
                · (intro V hSV; obtain ⟨y1, d0, d1, d2, d3, d4, x0, x1, x2, x3, x4⟩ := HV.out V hSV; go_simp; all_goals (with_reducible rfl))
                (try simp only [Act.put, List.setIfInBounds_toArray, List.set_cons_zero, List.set_cons_succ])
                refine' takeX (E := 99) (i := 13) (v := _) rfl (by kernel_rfl) (by kernel_rfl) (by kernel_rfl) (by kernel_rfl) (fun _ _ _ h => h) (by rfl) (Below.refl _ _) ?_ ?_; rotate_left
                · (intro V hSV; obtain ⟨y1, d0, d1, d2, d3, d4, x0, x1, x2, x3, x4⟩ := HV.out V hSV; go_simp; all_goals (with_reducible rfl))
                (try simp only [Act.put, List.setIfInBounds_toArray, List.set_cons_zero, List.set_cons_succ])
                refine' takeX (E := 99) (i := 14) (v := _) rfl (by kernel_rfl) (by kernel_rfl) (by kernel_rfl) (by kernel_rfl) (fun _ _ _ h => h) (by rfl) (Below.refl _ _) ?_ ?_; rotate_left
                · (intro V hSV; obtain ⟨y1, d0, d1, d2, d3, d4, x0, x1, x2, x3, x4⟩ := HV.out V hSV; go_simp; all_goals (with_reducible rfl))
                (try simp only [Act.put, List.setIfInBounds_toArray, List.set_cons_zero, List.set_cons_succ])
                refine' takeX (E := 99) (i := 15) (v := _) rfl (by kernel_rfl) (by kernel_rfl) (by kernel_rfl) (by kernel_rfl) (fun _ _ _ h => h) (by rfl) (Below.refl _ _) ?_ ?_; rotate_left
                · (intro V hSV; obtain ⟨y1, d0, d1, d2, d3, d4, x0, x1, x2, x3, x4⟩ := HV.out V hSV; go_simp; all_goals (with_reducible rfl))
                (try simp only [Act.put, List.setIfInBounds_toArray, List.set_cons_zero, List.set_cons_succ])
                refine callX (i := 16) rfl (by kernel_rfl) (fun K hK => ?_)
                go_simp
                refine HSm.out.mono ?_
                rintro e w3 ⟨rfl, hb3⟩
                have HB4 := hide (HB3a.out.trans ((below_undrew hb3).mono hsz3))
                refine hK.out _ _ (fun _ => hb3) ?_
                clear hK K
                (try simp only [Act.put, List.setIfInBounds_toArray, List.set_cons_zero, List.set_cons_succ])
                refine callX (i := 17) rfl (by kernel_rfl) (fun K hK => ?_)
                go_simp
                refine hK.out _ _ (fun _ => hb3) ?_
                clear hK K
                (try simp only [Act.put, List.setIfInBounds_toArray, List.set_cons_zero, List.set_cons_succ])
                refine callX (i := 18) rfl (by kernel_rfl) (fun K hK => ?_)
                go_simp
                refine hK.out _ _ (fun _ => hb3) ?_
                clear hK K
                (try simp only [Act.put, List.setIfInBounds_toArray, List.set_cons_zero, List.set_cons_succ])
                refine doneX (by kernel_rfl) ?_ _
                clear HV HSm hb3
                go_wp2
                go_meet
                exact ⟨by rw [← HZ.out], HB4⟩
              · have hlt' : decide ((j : Int) < (wn2 : Int)) = false := by simp; omega
                have HZ : Hid (decide (j < k0) = false) := by show _ = _; simp; omega
                have c13 := (HT2.out.keep hB3).c1
                go_quiet (fail)
                go_wp2
                go_meet
                exact ⟨by rw [HZ.out], hide (below_drewN HB3a.out _)⟩
            case rest =>
              obtain ⟨rfl, HB3⟩ := hcut
              have HB3w := hide hB3
              by_cases hjk : j < k0
              · have hjk' : decide (j < k0) = true := by simp [hjk]
                rw [hjk']
                go_wp2
                go_roundg (k0 - (j + 1))
                case measure => omega
                case rel => exact ⟨j + 1, rfl, by go_num, by omega, HB3.out⟩
              · have hjk' : decide (j < k0) = false := by simp [hjk]
                rw [hjk']
                obtain rfl : j = k0 := by omega
                go_upto_region 13 with fail
                have hB5 := HB3.out
                have hsz5 := hB5.size
                obtain ⟨zw, hzw⟩ : ∃ z, decide (wayL (hs.map ML.l) (aheadL (leaveL (ws.map ML.l) x.l.tx x.l) x.l) x.l = []) = z := ⟨_, rfl⟩
                have HZw := hide hzw
                have HR1 : Hid (r = if zw = true then (if 400 ≤ hs.length then (⟨hs.map ML.l, leaveL (ws2.map ML.l) x.l.tx lck0⟩, false, 132) else (⟨hs.map ML.l ++ [x.l], leaveL (ws2.map ML.l) x.l.tx lck0⟩, true, 0)) else (if cycleW (edgesL (hs.map ML.l) (queuedL (ws2.map ML.l) x.l)) x.l.tx = [] then (⟨hs.map ML.l, queuedL (ws2.map ML.l) x.l⟩, false, 0) else (⟨hs.map ML.l, leaveL (queuedL (ws2.map ML.l) x.l) x.l.tx lck0⟩, false, 131))) := by
                  show _ = _
                  rw [← HR.out, ← hzw]
                  unfold askL
                  rw [if_neg (by rw [HZb.out]; simp), if_neg (by rw [HA.out]; simp)]
                  dsimp only
                  rw [← HW2.out, List.length_map]
                  by_cases e : wayL (hs.map ML.l) (aheadL (ws2.map ML.l) x.l) x.l = []
                  · rw [if_pos e, if_pos (decide_eq_true e)]
                  · rw [if_neg e, if_neg (fun e2 => e (of_decide_eq_true e2))]
                clear hzw
                go_cut [88] from 78 to 151 (fun s wx => s = .bool zw ∧ Hid (Below w2.heap.size w2 wx))
                case first =>
                  have HB3a := hide hB5
                  have hTd := HT2.out.keep (hB5.trans ((Below.refl wc.heap.size wc).drew.mono hsz5))
                  obtain ⟨cb, hcb, hcY⟩ := isY_cut layK hTd.wt j (by omega)
                  have hcb : ∀ W, (Instr.sliceAt 33 (.slice wa2 wn2 wc2) none (some (.int .i64 (j : Int))) none).run Tryz.prog W = .ok (.slice cb j wc2) W := hcb
                  have HWy := hide (way_any q ha k hc wa2 wn2 wc2 hs ws2 x cb j wc2 (ws2.take j) wc.drew hTd.a (HXo.out.keep hTd.b0) hcY (fun m hm => (hTd.wo m (List.mem_of_mem_take hm)).keep hTd.b0) (by omega) (by omega))
                  have HV : Hid (∀ V, Below wc.drew.heap.size wc.drew V → V.cell? ⟨q, 4, none⟩ = some (.slice wa2 wn2 wc2) ∧ V.cell? ⟨w.heap.size, 0, none⟩ = some (.int .u64 x.l.tx) ∧ V.cell? ⟨w.heap.size, 1, none⟩ = some (.int .i64 x.l.lv) ∧ V.cell? ⟨w.heap.size, 2, none⟩ = some (.int .i64 x.l.md) ∧ V.cell? ⟨w.heap.size, 3, none⟩ = some (.slice x.la x.ln x.lc) ∧ V.cell? ⟨w.heap.size, 4, none⟩ = some (.slice x.ha x.hn x.hc)) := fun V hV => by
                    have hV2 := HB3a.out.trans ((below_undrew hV).mono hsz5)
                    have hT := HT2.out.keep hV2
                    exact ⟨hT.c1, (HX2.out.same (hV2.block _ (by omega))).zero⟩
                  have HWl : Hid ((wayM hs (ws2.take j) x).length = (wayL (hs.map ML.l) (aheadL (leaveL (ws.map ML.l) x.l.tx x.l) x.l) x.l).length) := by
                    show _ = _
                    rw [← HW2.out, HAh.out.1, ← List.map_take, ← wayM_l, List.length_map]
                  clear hTd hcY hB3 hB5
                  refine startX 99 (by kernel_rfl) ?_
                  refine' takeX (E := 99) (i := 0) (v := _) rfl (by kernel_rfl) (by kernel_rfl) (by kernel_rfl) (by kernel_rfl) (fun _ _ _ h => h) (by rfl) (Below.refl _ _) ?_ ?_; rotate_left
                  · (intro V hSV; obtain ⟨y1, x0, x1, x2, x3, x4⟩ := HV.out V hSV; go_simp; all_goals (with_reducible rfl))
                  (try simp only [Act.put, List.setIfInBounds_toArray, List.set_cons_zero, List.set_cons_succ])
                  refine' takeX (E := 99) (i := 1) (v := _) rfl (by kernel_rfl) (by kernel_rfl) (by kernel_rfl) (by kernel_rfl) (fun _ _ _ h => h) (by rfl) (Below.refl _ _) ?_ ?_; rotate_left
                  · (intro V hSV; obtain ⟨y1, x0, x1, x2, x3, x4⟩ := HV.out V hSV; go_simp; all_goals (with_reducible rfl))
                  (try simp only [Act.put, List.setIfInBounds_toArray, List.set_cons_zero, List.set_cons_succ])
                  refine' takeX (E := 99) (i := 2) (v := _) rfl (by kernel_rfl) (by kernel_rfl) (by kernel_rfl) (by kernel_rfl) (fun _ _ _ h => h) (by rfl) (Below.refl _ _) ?_ ?_; rotate_left
                  · (intro V hSV; obtain ⟨y1, x0, x1, x2, x3, x4⟩ := HV.out V hSV; go_simp; all_goals (with_reducible rfl))
                  (try simp only [Act.put, List.setIfInBounds_toArray, List.set_cons_zero, List.set_cons_succ])
                  refine' takeX (E := 99) (i := 3) (v := _) rfl (by kernel_rfl) (by kernel_rfl) (by kernel_rfl) (by kernel_rfl) (fun _ _ _ h => h) (by rfl) (Below.refl _ _) ?_ ?_; rotate_left
                  · (intro V hSV; obtain ⟨y1, x0, x1, x2, x3, x4⟩ := HV.out V hSV; go_simp; all_goals (with_reducible rfl))
                  (try simp only [Act.put, List.setIfInBounds_toArray, List.set_cons_zero, List.set_cons_succ])
                  refine' takeX (E := 99) (i := 4) (v := _) rfl (by kernel_rfl) (by kernel_rfl) (by kernel_rfl) (by kernel_rfl) (fun _ _ _ h => h) (by rfl) (Below.refl _ _) ?_ ?_; rotate_left
                  · (intro V hSV; obtain ⟨y1, x0, x1, x2, x3, x4⟩ := HV.out V hSV; go_simp; all_goals (with_reducible rfl))
                  (try simp only [Act.put, List.setIfInBounds_toArray, List.set_cons_zero, List.set_cons_succ])
                  refine' takeX (E := 99) (i := 5) (v := _) rfl (by kernel_rfl) (by kernel_rfl) (by kernel_rfl) (by kernel_rfl) (fun _ _ _ h => h) (by rfl) (Below.refl _ _) ?_ ?_; rotate_left
                  · (intro V hSV; obtain ⟨y1, x0, x1, x2, x3, x4⟩ := HV.out V hSV; go_simp; all_goals (with_reducible rfl))
                  (try simp only [Act.put, List.setIfInBounds_toArray, List.set_cons_zero, List.set_cons_succ])
                  refine' takeX (E := 99) (i := 6) (v := _) rfl (by kernel_rfl) (by kernel_rfl) (by kernel_rfl) (by kernel_rfl) (fun _ _ _ h => h) (by rfl) (Below.refl _ _) ?_ ?_; rotate_left
                  · (intro V hSV; obtain ⟨y1, x0, x1, x2, x3, x4⟩ := HV.out V hSV; go_simp; all_goals (with_reducible rfl))
                  (try simp only [Act.put, List.setIfInBounds_toArray, List.set_cons_zero, List.set_cons_succ])
                  refine' takeX (E := 99) (i := 7) (v := _) rfl (by kernel_rfl) (by kernel_rfl) (by kernel_rfl) (by kernel_rfl) (fun _ _ _ h => h) (by rfl) (Below.refl _ _) ?_ ?_; rotate_left
                  · (intro V hSV; obtain ⟨y1, x0, x1, x2, x3, x4⟩ := HV.out V hSV; go_simp; all_goals (with_reducible rfl))
                  (try simp only [Act.put, List.setIfInBounds_toArray, List.set_cons_zero, List.set_cons_succ])
                  refine callX (i := 8) rfl (by kernel_rfl) (fun K hK => ?_)
                  go_simp
                  refine HWy.out.mono ?_
                  rintro e w3 ⟨v3, rfl, ho3, hb3⟩
                  obtain ⟨va, vn, vc, rfl⟩ := ho3.any3
                  have hvl := ho3.len
                  have HB4 := hide (HB3a.out.trans ((below_undrew hb3).mono hsz5))
                  refine hK.out _ _ (fun _ => hb3) ?_
                  clear hK K ho3
                  (try simp only [Act.put, List.setIfInBounds_toArray, List.set_cons_zero, List.set_cons_succ])
                  refine callX (i := 9) rfl (by kernel_rfl) (fun K hK => ?_)
                  go_simp
                  refine hK.out _ _ (fun _ => hb3) ?_
                  clear hK K
                  (try simp only [Act.put, List.setIfInBounds_toArray, List.set_cons_zero, List.set_cons_succ])
                  refine callX (i := 10) rfl (by kernel_rfl) (fun K hK => ?_)
                  go_simp
                  refine hK.out _ _ (fun _ => hb3) ?_
                  clear hK K
                  (try simp only [Act.put, List.setIfInBounds_toArray, List.set_cons_zero, List.set_cons_succ])
                  refine doneX (by kernel_rfl) ?_ _
                  have HZ3 : Hid (((vn : Int) == 0) = zw) := by
                    show _ = _
                    rw [← HZw.out]
                    have e1 := HWl.out
                    by_cases e : wayL (hs.map ML.l) (aheadL (leaveL (ws.map ML.l) x.l.tx x.l) x.l) x.l = []
                    · rw [e] at e1 ⊢
                      simp only [List.length_nil] at e1
                      have : vn = 0 := by omega
                      simp [this]
                    · have : 0 < (wayL (hs.map ML.l) (aheadL (leaveL (ws.map ML.l) x.l.tx x.l) x.l) x.l).length := List.length_pos_iff.2 e
                      have : ¬ vn = 0 := by omega
                      simp [e, this]
                  clear HV HWy hb3
                  go_wp2
                  go_meet
                  exact ⟨by rw [← HZ3.out], HB4⟩
                case rest =>
                  obtain ⟨rfl, HB6⟩ := hcut
                  have hB6 := HB6.out
                  have hsz6 := hB6.size
                  have hT6 := HT2.out.keep hB6
                  have HX6 := hide (HX2.out.same (hB6.block _ (by omega)))
                  obtain ⟨x0, x1, x2, x3, x4⟩ := HX6.out.zero
                  have HT6 := hide hT6
                  have HK6 : Hid (Keeps (fun k => k = q) w _) := hide (kp_then (kp_then (Below.keeps (HBx.out.trans (HB.out.mono (by omega))) _) (fun k hk _ => hk) HP2.out.kp) (fun k hk _ => hk) (Below.keeps hB6 _))
                  cases zw with
                  | true =>
                    have HL6 := hide (leave_any q ha k hc wa2 wn2 wc2 hs ws2 x.l.tx ml0 _ hT6.a (hT6.fz 4) (ml0_ok _) (by omega))
                    have hl0 : ml0.l = lck0 := rfl
                    clear hT6 hB5 hB3
                    go_upto_region 15 with (first
                      | (go_at_call 126; go_must (refine HL6.out.mono ?_); rintro e w7 ⟨v7, rfl, hp7⟩; obtain ⟨wa7, wn7, wc7, rfl⟩ := hp7.o.any3; have HP7 := hide hp7; clear hp7))
                    have hT7 := HT6.out.setW HP7.out (fun m hm => HT6.out.wo m (List.mem_filter.1 hm).1)
                    have hsz7 := HP7.out.kp.size
                    have HK7 := hide (kp_then HK6.out (fun k hk _ => hk) HP7.out.kp)
                    have c07 := hT7.c0
                    have HT7 := hide hT7
                    clear hT7 x0 x1 x2 x3 x4
                    by_cases h4 : 400 ≤ k
                    · omega
                    · have h4' : ¬ (400 : Int) ≤ (k : Int) := by omega
                      have HR4 := hide (show r = (⟨hs.map ML.l ++ [x.l], leaveL (ws2.map ML.l) x.l.tx lck0⟩, true, 0) by rw [HR1.out, if_pos trivial, if_neg (by omega)])
                      have HX7 := hide (HX6.out.same (HP7.out.kp.block w.heap.size (by have := HK6.out.size; omega) (by omega)))
                      obtain ⟨cb, hcb, hcY, hcf⟩ := isY_cut3 layK HT7.out.h HT7.out.fh k (Nat.le_refl _)
                      have hcb : ∀ W, (Instr.sliceAt 33 (.slice ha k hc) none (some (.int .i64 (k : Int))) (some (.int .i64 (k : Int)))).run Tryz.prog W = .ok (.slice cb k k) W := hcb
                      rw [List.take_of_length_le (by omega)] at hcY
                      have HCY := hide hcY
                      have HCF := hide hcf
                      have HV : Hid (∀ V, Below w7.drew.heap.size w7.drew V → V.cell? ⟨q, 3, none⟩ = some (.slice ha k hc) ∧ V.cell? ⟨w.heap.size, 0, none⟩ = some (.int .u64 x.l.tx) ∧ V.cell? ⟨w.heap.size, 1, none⟩ = some (.int .i64 x.l.lv) ∧ V.cell? ⟨w.heap.size, 2, none⟩ = some (.int .i64 x.l.md) ∧ V.cell? ⟨w.heap.size, 3, none⟩ = some (.slice x.la x.ln x.lc) ∧ V.cell? ⟨w.heap.size, 4, none⟩ = some (.slice x.ha x.hn x.hc)) := fun V hV => by
                        have hV2 := below_undrew hV
                        exact ⟨(HT7.out.keep hV2).c0, (HX7.out.same (hV2.block _ (by have := HK7.out.size; have := HBx.out.size; omega))).zero⟩
                      have HN7 : Hid (Below w7.drew.heap.size w7.drew (w7.drew.alloc (.cells #[.int .u64 x.l.tx, .int .i64 x.l.lv, .int .i64 x.l.md, .slice x.la x.ln x.lc, .slice x.ha x.hn x.hc] 41))) := new_below _ _
                      have HOne := hide (ownY_one (L := layK) w7.drew w7.drew.heap.size #[.int .u64 x.l.tx, .int .i64 x.l.lv, .int .i64 x.l.md, .slice x.la x.ln x.lc, .slice x.ha x.hn x.hc] x (Nat.le_refl _) rfl)
                      clear hcY hcf
                      go_upto_region 17 with fail
                      clear c07
                      refine startX 21 (by kernel_rfl) ?_
                      refine' takeX (E := 21) (i := 0) (v := _) rfl (by kernel_rfl) (by kernel_rfl) (by kernel_rfl) (by kernel_rfl) (fun _ _ _ h => h) (by rfl) (Below.refl _ _) ?_ ?_; rotate_left
                      · (intro V hSV; obtain ⟨y1, x0, x1, x2, x3, x4⟩ := HV.out V hSV; go_simp; all_goals (with_reducible rfl))
                      (try simp only [Act.put, List.setIfInBounds_toArray, List.set_cons_zero, List.set_cons_succ])
                      refine' takeX (E := 21) (i := 1) (v := _) rfl (by kernel_rfl) (by kernel_rfl) (by kernel_rfl) (by kernel_rfl) (fun _ _ _ h => h) (by rfl) (Below.refl _ _) ?_ ?_; rotate_left
                      · (intro V hSV; obtain ⟨y1, x0, x1, x2, x3, x4⟩ := HV.out V hSV; go_simp; all_goals (with_reducible rfl))
                      (try simp only [Act.put, List.setIfInBounds_toArray, List.set_cons_zero, List.set_cons_succ])
                      refine' takeX (E := 21) (i := 2) (v := _) rfl (by kernel_rfl) (by kernel_rfl) (by kernel_rfl) (by kernel_rfl) (fun _ _ _ h => h) (by rfl) (Below.refl _ _) ?_ ?_; rotate_left
                      · (intro V hSV; obtain ⟨y1, x0, x1, x2, x3, x4⟩ := HV.out V hSV; go_simp; all_goals (with_reducible rfl))
                      (try simp only [Act.put, List.setIfInBounds_toArray, List.set_cons_zero, List.set_cons_succ])
                      refine' takeX (E := 21) (i := 3) (v := _) rfl (by kernel_rfl) (by kernel_rfl) (by kernel_rfl) (by kernel_rfl) (fun _ _ _ h => h) (by rfl) (Below.refl _ _) ?_ ?_; rotate_left
                      · (intro V hSV; obtain ⟨y1, x0, x1, x2, x3, x4⟩ := HV.out V hSV; go_simp; all_goals (with_reducible rfl))
                      (try simp only [Act.put, List.setIfInBounds_toArray, List.set_cons_zero, List.set_cons_succ])
                      refine' takeX (E := 21) (i := 4) (v := _) rfl (by kernel_rfl) (by kernel_rfl) (by kernel_rfl) (by kernel_rfl) (fun _ _ _ h => h) (by rfl) (Below.refl _ _) ?_ ?_; rotate_left
                      · (intro V hSV; obtain ⟨y1, x0, x1, x2, x3, x4⟩ := HV.out V hSV; go_simp; all_goals (with_reducible rfl))
                      (try simp only [Act.put, List.setIfInBounds_toArray, List.set_cons_zero, List.set_cons_succ])
                      refine' takeX (E := 21) (i := 5) (v := _) rfl (by kernel_rfl) (by kernel_rfl) (by kernel_rfl) (by kernel_rfl) (fun _ _ _ h => h) (by rfl) (Below.refl _ _) ?_ ?_; rotate_left
                      · (intro V hSV; obtain ⟨y1, x0, x1, x2, x3, x4⟩ := HV.out V hSV; go_simp; all_goals (with_reducible rfl))
                      (try simp only [Act.put, List.setIfInBounds_toArray, List.set_cons_zero, List.set_cons_succ])
                      refine' takeX (E := 21) (i := 6) (v := _) rfl (by kernel_rfl) (by kernel_rfl) (by kernel_rfl) (by kernel_rfl) (fun _ _ _ h => h) (by rfl) (Below.refl _ _) ?_ ?_; rotate_left
                      · (intro V hSV; obtain ⟨y1, x0, x1, x2, x3, x4⟩ := HV.out V hSV; go_simp; all_goals (with_reducible rfl))
                      (try simp only [Act.put, List.setIfInBounds_toArray, List.set_cons_zero, List.set_cons_succ])
                      refine' takeX (E := 21) (i := 7) (v := _) rfl (by kernel_rfl) (by kernel_rfl) (by kernel_rfl) (by kernel_rfl) (fun _ _ _ h => h) (by rfl) (Below.refl _ _) ?_ ?_; rotate_left
                      · (intro V hSV; obtain ⟨y1, x0, x1, x2, x3, x4⟩ := HV.out V hSV; go_simp; all_goals (with_reducible rfl))
                      (try simp only [Act.put, List.setIfInBounds_toArray, List.set_cons_zero, List.set_cons_succ])
                      refine' takeX (E := 21) (i := 8) (v := _) rfl (by kernel_rfl) (by kernel_rfl) (by kernel_rfl) (by kernel_rfl) (fun _ _ _ h => h) (by rfl) (Below.refl _ _) ?_ ?_; rotate_left
                      · (intro V hSV; obtain ⟨y1, x0, x1, x2, x3, x4⟩ := HV.out V hSV; go_simp; all_goals (with_reducible rfl))
                      (try simp only [Act.put, List.setIfInBounds_toArray, List.set_cons_zero, List.set_cons_succ])
                      refine' takeX (E := 21) (i := 9) (v := _) rfl (by kernel_rfl) (by kernel_rfl) (by kernel_rfl) (by kernel_rfl) (fun _ _ _ h => h) (by rfl) (Below.refl _ _) ?_ ?_; rotate_left
                      · (intro V hSV; obtain ⟨y1, x0, x1, x2, x3, x4⟩ := HV.out V hSV; go_simp; all_goals (with_reducible rfl))
                      (try simp only [Act.put, List.setIfInBounds_toArray, List.set_cons_zero, List.set_cons_succ])
                      refine' takeX (E := 21) (i := 10) (v := _) rfl (by kernel_rfl) (by kernel_rfl) (by kernel_rfl) (by kernel_rfl) (fun _ _ _ h => h) (by rfl) (Below.refl _ _) ?_ ?_; rotate_left
                      · (intro V hSV; obtain ⟨y1, x0, x1, x2, x3, x4⟩ := HV.out V hSV; go_simp; all_goals (with_reducible rfl))
                      (try simp only [Act.put, List.setIfInBounds_toArray, List.set_cons_zero, List.set_cons_succ])
                      refine' takeX (E := 21) (i := 11) (v := _) rfl (by kernel_rfl) (by kernel_rfl) (by kernel_rfl) (by kernel_rfl) (fun _ _ _ h => h) (by rfl) (Below.refl _ _) ?_ ?_; rotate_left
                      · (intro V hSV; obtain ⟨y1, x0, x1, x2, x3, x4⟩ := HV.out V hSV; go_simp; all_goals (with_reducible rfl))
                      (try simp only [Act.put, List.setIfInBounds_toArray, List.set_cons_zero, List.set_cons_succ])
                      refine' takeX (E := 21) (i := 12) (v := _) rfl (by kernel_rfl) (by kernel_rfl) (by kernel_rfl) (by kernel_rfl) (fun _ _ _ h => h) (by rfl) (Below.refl _ _) ?_ ?_; rotate_left
                      · (intro V hSV; obtain ⟨y1, x0, x1, x2, x3, x4⟩ := HV.out V hSV; go_simp; all_goals (with_reducible rfl))
                      (try simp only [Act.put, List.setIfInBounds_toArray, List.set_cons_zero, List.set_cons_succ])
                      refine' takeX (E := 21) (i := 13) (v := _) rfl (by kernel_rfl) (by kernel_rfl) (by kernel_rfl) (by kernel_rfl) (fun _ _ _ h => h) (by rfl) (Below.refl _ _) ?_ ?_; rotate_left
                      · (intro V hSV; obtain ⟨y1, x0, x1, x2, x3, x4⟩ := HV.out V hSV; go_simp; all_goals (with_reducible rfl))
                      (try simp only [Act.put, List.setIfInBounds_toArray, List.set_cons_zero, List.set_cons_succ])
                      refine' takeX (E := 21) (i := 14) (v := _) rfl (by kernel_rfl) (by kernel_rfl) (by kernel_rfl) (by kernel_rfl) (fun _ _ _ h => h) (by rfl) (Below.refl _ _) ?_ ?_; rotate_left
                      · (intro V hSV; obtain ⟨y1, x0, x1, x2, x3, x4⟩ := HV.out V hSV; go_simp; all_goals (with_reducible rfl))
                      (try simp only [Act.put, List.setIfInBounds_toArray, List.set_cons_zero, List.set_cons_succ])
                      refine' takeX (E := 21) (i := 15) (v := _) rfl (by kernel_rfl) (by kernel_rfl) (by kernel_rfl) (by kernel_rfl) (fun _ _ _ h => h) (by rfl) (Below.refl _ _) ?_ ?_; rotate_left
                      · (intro V hSV; obtain ⟨y1, x0, x1, x2, x3, x4⟩ := HV.out V hSV; go_simp; all_goals (with_reducible rfl))
                      (try simp only [Act.put, List.setIfInBounds_toArray, List.set_cons_zero, List.set_cons_succ])
                      refine' takeX (E := 21) (i := 16) (v := _) rfl (by kernel_rfl) (by kernel_rfl) (by kernel_rfl) (by kernel_rfl) (fun _ _ _ h => h) (by rfl) (Below.refl _ _) ?_ ?_; rotate_left
                      · (intro V hSV; obtain ⟨y1, x0, x1, x2, x3, x4⟩ := HV.out V hSV; go_simp; all_goals (with_reducible rfl))
                      (try simp only [Act.put, List.setIfInBounds_toArray, List.set_cons_zero, List.set_cons_succ])
                      refine callX (i := 17) rfl (by kernel_rfl) (fun K hK => ?_)
                      go_simp
                      refine hK.out _ _ (fun _ => HN7.out) ?_
                      clear hK K
                      (try simp only [Act.put, List.setIfInBounds_toArray, List.set_cons_zero, List.set_cons_succ])
                      refine callX (i := 18) rfl (by kernel_rfl) (fun K hK => ?_)
                      refine step_growY layK _ (by rfl) (.tmp 115) (.tmp 117) (by rfl) cb k hs (by rfl) (HCY.out.keep (below_undrew HN7.out)) (fun _ => HCF.out) (some ⟨w7.drew.heap.size, 0, none⟩) 1 1 [x] (by rfl) HOne.out.is.src (by omega) (by simp; omega) ?_
                      intro v8 w8 hown8 hg8
                      obtain ⟨a8, n8, c8, rfl⟩ := hown8.any3
                      have HO8 := hide hown8
                      have hb8 := below_noneY hg8
                      have HB8 := hide hb8
                      have hb78 := HN7.out.trans (hb8.mono HN7.out.size)
                      have hT8 := HT7.out.keep (below_undrew hb78)
                      have c08 := hT8.c0
                      have f08 := hT8.fz 3
                      refine hK.out _ _ (fun _ => hb78) ?_
                      clear hK K hown8 hg8
                      (try simp only [Act.put, List.setIfInBounds_toArray, List.set_cons_zero, List.set_cons_succ])
                      refine callX (i := 19) rfl (by kernel_rfl) (fun K hK => ?_)
                      go_simp
                      refine hK.out _ _ (fun _ => hb78) ?_
                      clear hK K
                      (try simp only [Act.put, List.setIfInBounds_toArray, List.set_cons_zero, List.set_cons_succ])
                      refine callX (i := 20) rfl (by kernel_rfl) (fun K hK => ?_)
                      go_simp
                      refine hK.out _ _ (fun _ => hb78) ?_
                      clear hK K
                      (try simp only [Act.put, List.setIfInBounds_toArray, List.set_cons_zero, List.set_cons_succ])
                      refine callX (i := 21) rfl (by kernel_rfl) (fun K hK => ?_)
                      go_simp
                      refine hK.out _ _ (fun h => absurd rfl h) ?_
                      clear hK K
                      (try simp only [Act.put, List.setIfInBounds_toArray, List.set_cons_zero, List.set_cons_succ])
                      refine doneX (by kernel_rfl) ?_ _
                      have hT7N := HT7.out.keep (below_undrew HN7.out)
                      have hp8 := txP_set (q := q) (i := 3) HB8.out hT7N.lt HO8.out (congrArg Option.isSome hT7N.c0)
                      have HT9 := hide (hT7N.setH hp8 (fun m hm => by rcases List.mem_append.1 hm with e | e; exact HT7.out.ho m e; rw [List.mem_singleton.1 e]; exact HXo.out))
                      have HP9 := hide hp8
                      have HN7s := hide (below_undrew HN7.out).size
                      have HK9 := hide (kp_then (kp_then HK7.out (fun k hk _ => hk) (Below.keeps (below_undrew HN7.out) _)) (fun k hk _ => hk) hp8.kp)
                      clear hT8 hb8 hb78 c08 f08 HV hp8 hT7N
                      go_wp2
                      go_ret2
                      refine ⟨?_, a8, n8, c8, wa7, wn7, wc7, hs ++ [x], ws2.filter (stayM x.l.tx ml0), ?_⟩
                      · rw [HR4.out]; rfl
                      · rw [HR4.out]
                        exact ⟨HT9.out, by rw [List.map_append]; rfl, leaveM_l _ _ _, HK9.out, .inr (fun y hy => ⟨Nat.le_trans HK7.out.size (Nat.le_trans HN7s.out (ownY_at HO8.out y hy).1), by simpa [World.setCell] using (ownY_at HO8.out y hy).2⟩), .inr (fun y hy => ⟨by have h1 := (ownY_at HP7.out.o y hy).1; have h2 := HK6.out.size; omega, by simp only [size_setK]; exact Nat.lt_of_lt_of_le (ownY_at HP7.out.o y hy).2 (Nat.le_trans HN7s.out HB8.out.size)⟩)⟩
                  | false =>
                    have c16 := hT6.c1
                    have HSz := hide hs1
                    by_cases hjn : j = wn2
                    · have hjn' : ((j : Int) == (wn2 : Int)) = true := by simp [hjn]
                      have HQ : Hid ((ws2 ++ [x]).map ML.l = queuedL (ws2.map ML.l) x.l) := by
                        show _ = _
                        have hnm : x.l ∉ ws2.map ML.l := by
                          intro hm
                          obtain ⟨i, hi⟩ := List.getElem?_of_mem hm
                          have hil : i < (ws2.map ML.l).length := by
                            rcases Nat.lt_or_ge i (ws2.map ML.l).length with h | h
                            · exact h
                            · rw [List.getElem?_eq_none h] at hi; cases hi
                          rw [List.length_map] at hil
                          exact HAh.out.2.2.1 i (by omega) hi
                        unfold queuedL
                        rw [if_neg hnm, List.map_append]; rfl
                      obtain ⟨cb, hcb, hcY, hcf⟩ := isY_cut3 layK HT6.out.wt HT6.out.fw j (by omega)
                      have hcb : ∀ W, (Instr.sliceAt 33 (.slice wa2 wn2 wc2) none (some (.int .i64 (j : Int))) (some (.int .i64 (j : Int)))).run Tryz.prog W = .ok (.slice cb j j) W := hcb
                      rw [List.take_of_length_le (by omega)] at hcY
                      have HCY := hide hcY
                      have HCF := hide hcf
                      have HV : Hid (∀ V, Below wc.drew.heap.size wc.drew V → V.cell? ⟨q, 4, none⟩ = some (.slice wa2 wn2 wc2) ∧ V.cell? ⟨w.heap.size, 0, none⟩ = some (.int .u64 x.l.tx) ∧ V.cell? ⟨w.heap.size, 1, none⟩ = some (.int .i64 x.l.lv) ∧ V.cell? ⟨w.heap.size, 2, none⟩ = some (.int .i64 x.l.md) ∧ V.cell? ⟨w.heap.size, 3, none⟩ = some (.slice x.la x.ln x.lc) ∧ V.cell? ⟨w.heap.size, 4, none⟩ = some (.slice x.ha x.hn x.hc)) := fun V hV => by
                        have hV2 := below_undrew hV
                        exact ⟨(HT6.out.keep hV2).c1, (HX6.out.same (hV2.block _ (by have := HK6.out.size; have := HBx.out.size; omega))).zero⟩
                      have HN7 : Hid (Below wc.drew.heap.size wc.drew (wc.drew.alloc (.cells #[.int .u64 x.l.tx, .int .i64 x.l.lv, .int .i64 x.l.md, .slice x.la x.ln x.lc, .slice x.ha x.hn x.hc] 41))) := new_below _ _
                      have HOne := hide (ownY_one (L := layK) wc.drew wc.drew.heap.size #[.int .u64 x.l.tx, .int .i64 x.l.lv, .int .i64 x.l.md, .slice x.la x.ln x.lc, .slice x.ha x.hn x.hc] x (Nat.le_refl _) rfl)
                      have HJ := hide hjn
                      clear hcY hcf hT6 hB5 hB3 x0 x1 x2 x3 x4 hjn
                      go_upto_region 20 with fail
                      clear c16
                      refine startX 13 (by kernel_rfl) ?_
                      refine' takeX (E := 13) (i := 0) (v := _) rfl (by kernel_rfl) (by kernel_rfl) (by kernel_rfl) (by kernel_rfl) (fun _ _ _ h => h) (by rfl) (Below.refl _ _) ?_ ?_; rotate_left
                      · (intro V hSV; obtain ⟨y1, x0, x1, x2, x3, x4⟩ := HV.out V hSV; go_simp; all_goals (with_reducible rfl))
                      (try simp only [Act.put, List.setIfInBounds_toArray, List.set_cons_zero, List.set_cons_succ])
                      refine' takeX (E := 13) (i := 1) (v := _) rfl (by kernel_rfl) (by kernel_rfl) (by kernel_rfl) (by kernel_rfl) (fun _ _ _ h => h) (by rfl) (Below.refl _ _) ?_ ?_; rotate_left
                      · (intro V hSV; obtain ⟨y1, x0, x1, x2, x3, x4⟩ := HV.out V hSV; go_simp; all_goals (with_reducible rfl))
                      (try simp only [Act.put, List.setIfInBounds_toArray, List.set_cons_zero, List.set_cons_succ])
                      refine' takeX (E := 13) (i := 2) (v := _) rfl (by kernel_rfl) (by kernel_rfl) (by kernel_rfl) (by kernel_rfl) (fun _ _ _ h => h) (by rfl) (Below.refl _ _) ?_ ?_; rotate_left
                      · (intro V hSV; obtain ⟨y1, x0, x1, x2, x3, x4⟩ := HV.out V hSV; go_simp; all_goals (with_reducible rfl))
                      (try simp only [Act.put, List.setIfInBounds_toArray, List.set_cons_zero, List.set_cons_succ])
                      refine' takeX (E := 13) (i := 3) (v := _) rfl (by kernel_rfl) (by kernel_rfl) (by kernel_rfl) (by kernel_rfl) (fun _ _ _ h => h) (by rfl) (Below.refl _ _) ?_ ?_; rotate_left
                      · (intro V hSV; obtain ⟨y1, x0, x1, x2, x3, x4⟩ := HV.out V hSV; go_simp; all_goals (with_reducible rfl))
                      (try simp only [Act.put, List.setIfInBounds_toArray, List.set_cons_zero, List.set_cons_succ])
                      refine' takeX (E := 13) (i := 4) (v := _) rfl (by kernel_rfl) (by kernel_rfl) (by kernel_rfl) (by kernel_rfl) (fun _ _ _ h => h) (by rfl) (Below.refl _ _) ?_ ?_; rotate_left
                      · (intro V hSV; obtain ⟨y1, x0, x1, x2, x3, x4⟩ := HV.out V hSV; go_simp; all_goals (with_reducible rfl))
                      (try simp only [Act.put, List.setIfInBounds_toArray, List.set_cons_zero, List.set_cons_succ])
                      refine' takeX (E := 13) (i := 5) (v := _) rfl (by kernel_rfl) (by kernel_rfl) (by kernel_rfl) (by kernel_rfl) (fun _ _ _ h => h) (by rfl) (Below.refl _ _) ?_ ?_; rotate_left
                      · (intro V hSV; obtain ⟨y1, x0, x1, x2, x3, x4⟩ := HV.out V hSV; go_simp; all_goals (with_reducible rfl))
                      (try simp only [Act.put, List.setIfInBounds_toArray, List.set_cons_zero, List.set_cons_succ])
                      refine' takeX (E := 13) (i := 6) (v := _) rfl (by kernel_rfl) (by kernel_rfl) (by kernel_rfl) (by kernel_rfl) (fun _ _ _ h => h) (by rfl) (Below.refl _ _) ?_ ?_; rotate_left
                      · (intro V hSV; obtain ⟨y1, x0, x1, x2, x3, x4⟩ := HV.out V hSV; go_simp; all_goals (with_reducible rfl))
                      (try simp only [Act.put, List.setIfInBounds_toArray, List.set_cons_zero, List.set_cons_succ])
                      refine' takeX (E := 13) (i := 7) (v := _) rfl (by kernel_rfl) (by kernel_rfl) (by kernel_rfl) (by kernel_rfl) (fun _ _ _ h => h) (by rfl) (Below.refl _ _) ?_ ?_; rotate_left
                      · (intro V hSV; obtain ⟨y1, x0, x1, x2, x3, x4⟩ := HV.out V hSV; go_simp; all_goals (with_reducible rfl))
                      (try simp only [Act.put, List.setIfInBounds_toArray, List.set_cons_zero, List.set_cons_succ])
                      refine' takeX (E := 13) (i := 8) (v := _) rfl (by kernel_rfl) (by kernel_rfl) (by kernel_rfl) (by kernel_rfl) (fun _ _ _ h => h) (by rfl) (Below.refl _ _) ?_ ?_; rotate_left
                      · (intro V hSV; obtain ⟨y1, x0, x1, x2, x3, x4⟩ := HV.out V hSV; go_simp; all_goals (with_reducible rfl))
                      (try simp only [Act.put, List.setIfInBounds_toArray, List.set_cons_zero, List.set_cons_succ])
                      refine callX (i := 9) rfl (by kernel_rfl) (fun K hK => ?_)
                      go_simp
                      refine hK.out _ _ (fun _ => HN7.out) ?_
                      clear hK K
                      (try simp only [Act.put, List.setIfInBounds_toArray, List.set_cons_zero, List.set_cons_succ])
                      refine callX (i := 10) rfl (by kernel_rfl) (fun K hK => ?_)
                      refine step_growY layK _ (by rfl) (.tmp 135) (.tmp 137) (by rfl) cb j ws2 (by rfl) (HCY.out.keep (below_undrew HN7.out)) (fun _ => HCF.out) (some ⟨wc.drew.heap.size, 0, none⟩) 1 1 [x] (by rfl) HOne.out.is.src (by omega) (by simp; omega) ?_
                      intro v8 w8 hown8 hg8
                      obtain ⟨a8, n8, c8, rfl⟩ := hown8.any3
                      have HO8 := hide hown8
                      have hb8 := below_noneY hg8
                      have HB8 := hide hb8
                      have hb78 := HN7.out.trans (hb8.mono HN7.out.size)
                      have hT8 := HT6.out.keep (below_undrew hb78)
                      have c08 := hT8.c1
                      have f08 := hT8.fz 4
                      refine hK.out _ _ (fun _ => hb78) ?_
                      clear hK K hown8 hg8
                      (try simp only [Act.put, List.setIfInBounds_toArray, List.set_cons_zero, List.set_cons_succ])
                      refine callX (i := 11) rfl (by kernel_rfl) (fun K hK => ?_)
                      go_simp
                      refine hK.out _ _ (fun _ => hb78) ?_
                      clear hK K
                      (try simp only [Act.put, List.setIfInBounds_toArray, List.set_cons_zero, List.set_cons_succ])
                      refine callX (i := 12) rfl (by kernel_rfl) (fun K hK => ?_)
                      go_simp
                      refine hK.out _ _ (fun _ => hb78) ?_
                      clear hK K
                      (try simp only [Act.put, List.setIfInBounds_toArray, List.set_cons_zero, List.set_cons_succ])
                      refine callX (i := 13) rfl (by kernel_rfl) (fun K hK => ?_)
                      go_simp
                      refine hK.out _ _ (fun h => absurd rfl h) ?_
                      clear hK K
                      (try simp only [Act.put, List.setIfInBounds_toArray, List.set_cons_zero, List.set_cons_succ])
                      refine doneX (by kernel_rfl) ?_ _
                      have hT7N := HT6.out.keep (below_undrew HN7.out)
                      have hp8 := txP_set (q := q) (i := 4) HB8.out hT7N.lt HO8.out (congrArg Option.isSome hT7N.c1)
                      have HTa := hide (hT7N.setW hp8 (fun m hm => by rcases List.mem_append.1 hm with e | e; exact HT6.out.wo m e; rw [List.mem_singleton.1 e]; exact HXo.out))
                      have HKa := hide (kp_then (kp_then HK6.out (fun k hk _ => hk) (Below.keeps (below_undrew HN7.out) _)) (fun k hk _ => hk) hp8.kp)
                      have HXa := hide ((HX6.out.same ((below_undrew HN7.out).block w.heap.size (by have := HK6.out.size; have := HBx.out.size; omega))).same (hp8.kp.block w.heap.size (Nat.lt_of_lt_of_le (by have := HK6.out.size; have := HBx.out.size; omega) (below_undrew HN7.out).size) (by omega)))
                      have HPw : Hid (a8 = wa ∨ ∀ y, a8 = some y → w.heap.size ≤ y.block ∧ y.block < w8.heap.size) := hide (.inr (fun y hy => ⟨Nat.le_trans HK6.out.size (Nat.le_trans (below_undrew HN7.out).size (ownY_at HO8.out y hy).1), (ownY_at HO8.out y hy).2⟩))
                      have hlt9 := Nat.lt_of_lt_of_le (show w.heap.size < wc.heap.size by have := HK6.out.size; have := HBx.out.size; omega) (Nat.le_trans (below_undrew HN7.out).size hp8.kp.size)
                      have hn8 : n8 ≤ 200 := by have := HTa.out.wt.1; rw [List.length_append, List.length_singleton] at this; omega
                      clear hT8 hb8 hb78 c08 f08 HV hp8 hT7N
                      obtain ⟨w9, hw9⟩ : ∃ w9, w9 = w8.setCell ⟨q, 4, none⟩ (.slice a8 n8 c8) := ⟨_, rfl⟩
                      have HPw : Hid (a8 = wa ∨ ∀ y, a8 = some y → w.heap.size ≤ y.block ∧ y.block < w9.heap.size) := by rw [hw9]; simp only [size_setK]; exact HPw.out
                      rw [← hw9] at HTa HKa HXa hlt9 ⊢
                      clear hw9
                      go_upto_region 21 with fail
                      have HEd := hide (xedges_any q ha k hc a8 n8 c8 hs (ws2 ++ [x]) w9.drew (HTa.out.keep (Below.refl _ _).drew).a (by omega) (by omega))
                      have HLe := hide (ed_len200 hs (ws2 ++ [x]) (by omega) (by have := HTa.out.wt.1; omega))
                      obtain ⟨zc, hzc⟩ : ∃ z, decide (cycleW (edgesL (hs.map ML.l) ((ws2 ++ [x]).map ML.l)) x.l.tx = []) = z := ⟨_, rfl⟩
                      have HZc := hide hzc
                      have HR5 : Hid (r = if zc = true then (⟨hs.map ML.l, (ws2 ++ [x]).map ML.l⟩, false, 0) else (⟨hs.map ML.l, leaveL ((ws2 ++ [x]).map ML.l) x.l.tx lck0⟩, false, 131)) := by
                        show _ = _
                        rw [HR1.out, if_neg (by decide), ← hzc, ← HQ.out]
                        by_cases e : cycleW (edgesL (hs.map ML.l) ((ws2 ++ [x]).map ML.l)) x.l.tx = []
                        · rw [if_pos e, if_pos (decide_eq_true e)]
                        · rw [if_neg e, if_neg (fun e2 => e (of_decide_eq_true e2))]
                      clear hzc
                      go_cut [146] from 141 to 151 (fun s wx => s = .bool (!zc) ∧ Hid (Below w9.heap.size w9 wx))
                      case first =>
                        have HV : Hid (∀ V, Below w9.drew.heap.size w9.drew V → V.cell? ⟨w.heap.size, 0, none⟩ = some (.int .u64 x.l.tx)) := fun V hV => by
                          have hV2 := below_undrew hV
                          exact (HXa.out.same (hV2.block _ (by have := HKa.out.size; have := HSz.out; omega))).zero.1
                        refine startX 99 (by kernel_rfl) ?_
                        refine' takeX (E := 99) (i := 0) (v := _) rfl (by kernel_rfl) (by kernel_rfl) (by kernel_rfl) (by kernel_rfl) (fun _ _ _ h => h) (by rfl) (Below.refl _ _) ?_ ?_; rotate_left
                        · (intro V hSV; obtain x0 := HV.out V hSV; go_simp; all_goals (with_reducible rfl))
                        (try simp only [Act.put, List.setIfInBounds_toArray, List.set_cons_zero, List.set_cons_succ])
                        refine' takeX (E := 99) (i := 2) (v := _) rfl (by kernel_rfl) (by kernel_rfl) (by kernel_rfl) (by kernel_rfl) (fun _ _ _ h => h) (by rfl) (Below.refl _ _) ?_ ?_; rotate_left
                        · (intro V hSV; obtain x0 := HV.out V hSV; go_simp; all_goals (with_reducible rfl))
                        (try simp only [Act.put, List.setIfInBounds_toArray, List.set_cons_zero, List.set_cons_succ])
                        refine' takeX (E := 99) (i := 3) (v := _) rfl (by kernel_rfl) (by kernel_rfl) (by kernel_rfl) (by kernel_rfl) (fun _ _ _ h => h) (by rfl) (Below.refl _ _) ?_ ?_; rotate_left
                        · (intro V hSV; obtain x0 := HV.out V hSV; go_simp; all_goals (with_reducible rfl))
                        (try simp only [Act.put, List.setIfInBounds_toArray, List.set_cons_zero, List.set_cons_succ])
                        refine callX (i := 1) rfl (by kernel_rfl) (fun K hK => ?_)
                        go_simp
                        refine HEd.out.mono ?_
                        rintro e w3 ⟨v3, rfl, ho3, hb3⟩
                        obtain ⟨va, vn, vc, rfl⟩ := ho3.any3
                        have hvl := ho3.is.1
                        have HCy := hide (cycleN_any va vn vc _ x.l.tx w3 ho3.is (by have := HLe.out; omega))
                        have HB4 := hide (below_undrew hb3)
                        refine hK.out _ _ (fun _ => hb3) ?_
                        clear hK K ho3 hvl
                        (try simp only [Act.put, List.setIfInBounds_toArray, List.set_cons_zero, List.set_cons_succ])
                        refine callX (i := 4) rfl (by kernel_rfl) (fun K hK => ?_)
                        go_simp
                        refine HCy.out.mono ?_
                        rintro e w4 ⟨v4, rfl, ho4, hb4, hnil⟩
                        obtain ⟨ca, cn, cc, rfl⟩ := ho4.any3
                        have hb5 := hb3.trans (hb4.mono hb3.size)
                        have HB5 := hide (below_undrew hb5)
                        have HC5 : Hid (ca.isNone = zc) := by
                          show _ = _
                          rw [← HZc.out]
                          by_cases e : cycleW (edgesL (hs.map ML.l) ((ws2 ++ [x]).map ML.l)) x.l.tx = []
                          · have := hnil e
                            cases this
                            rw [decide_eq_true e]; rfl
                          · rcases ho4.form with ⟨e1, e2⟩ | ⟨g, cap, e1, -⟩
                            · exact absurd e2 e
                            · cases e1; rw [decide_eq_false e]; rfl
                        refine hK.out _ _ (fun _ => hb5) ?_
                        clear hK K ho4 hnil
                        (try simp only [Act.put, List.setIfInBounds_toArray, List.set_cons_zero, List.set_cons_succ])
                        have HC6 := HC5
                        cases ca with
                        | none =>
                          refine callX (i := 5) rfl (by kernel_rfl) (fun K hK => ?_)
                          go_simp
                          refine hK.out _ _ (fun _ => hb5) ?_
                          clear hK K
                          (try simp only [Act.put, List.setIfInBounds_toArray, List.set_cons_zero, List.set_cons_succ])
                          refine doneX (by kernel_rfl) ?_ _
                          go_wp2
                          go_meet
                          exact ⟨by rw [← HC5.out]; rfl, HB5⟩
                        | some y =>
                          refine callX (i := 5) rfl (by kernel_rfl) (fun K hK => ?_)
                          go_simp
                          refine hK.out _ _ (fun _ => hb5) ?_
                          clear hK K
                          (try simp only [Act.put, List.setIfInBounds_toArray, List.set_cons_zero, List.set_cons_succ])
                          refine doneX (by kernel_rfl) ?_ _
                          go_wp2
                          go_meet
                          exact ⟨by rw [← HC5.out]; rfl, HB5⟩
                      case rest =>
                        obtain ⟨rfl, HBc⟩ := hcut
                        have hBc := HBc.out
                        have hTc := HTa.out.keep hBc
                        have HTc := hide hTc
                        have HKc := hide (kp_then HKa.out (fun k hk _ => hk) (Below.keeps hBc _))
                        have HXc := hide (HXa.out.same (hBc.block _ (by have := HKa.out.size; have := HSz.out; omega)))
                        cases zc with
                        | true =>
                          have HR6 := hide (show r = (⟨hs.map ML.l, (ws2 ++ [x]).map ML.l⟩, false, 0) from HR5.out.trans (if_pos rfl))
                          clear hTc hBc
                          go_wp2
                          go_ret2
                          refine ⟨?_, ha, k, hc, a8, n8, c8, hs, ws2 ++ [x], ?_⟩
                          · rw [HR6.out]; rfl
                          · rw [HR6.out]; exact ⟨HTc.out, rfl, rfl, HKc.out, .inl rfl, HPw.out.imp id (fun h y hy => ⟨(h y hy).1, Nat.lt_of_lt_of_le (h y hy).2 HBc.out.size⟩)⟩
                        | false =>
                          have HR6 := hide (show r = (⟨hs.map ML.l, leaveL ((ws2 ++ [x]).map ML.l) x.l.tx lck0⟩, false, 131) from HR5.out.trans (if_neg (by simp)))
                          have HLc := hide (leave_any q ha k hc a8 n8 c8 hs (ws2 ++ [x]) x.l.tx ml0 _ hTc.a (hTc.fz 4) (ml0_ok _) (by omega))
                          obtain ⟨x0, x1, x2, x3, x4⟩ := HXc.out.zero
                          have hl0 : ml0.l = lck0 := rfl
                          clear hTc hBc
                          go_wp2_with (first
                            | (go_at_call 126; go_must (refine HLc.out.mono ?_); rintro e w7 ⟨v7, rfl, hp7⟩; obtain ⟨wa7, wn7, wc7, rfl⟩ := hp7.o.any3; have HP7 := hide hp7; clear hp7))
                          go_ret2
                          refine ⟨?_, ha, k, hc, wa7, wn7, wc7, hs, (ws2 ++ [x]).filter (stayM x.l.tx ml0), ?_⟩
                          · rw [HR6.out]; rfl
                          · rw [HR6.out]
                            exact ⟨HTc.out.setW HP7.out (fun m hm => HTc.out.wo m (List.mem_filter.1 hm).1), rfl, leaveM_l _ _ _, kp_then HKc.out (fun k hk _ => hk) HP7.out.kp, .inl rfl, .inr (fun y hy => by have := ownY_at HP7.out.o y hy; have := HKc.out.size; omega)⟩
                    · have hjn' : ((j : Int) == (wn2 : Int)) = false := by simp; omega
                      have HQ : Hid (ws2.map ML.l = queuedL (ws2.map ML.l) x.l) := by
                        show _ = _
                        have hm : x.l ∈ ws2.map ML.l := by
                          rcases HAh.out.2.2.2 with e | e
                          · rw [List.length_map] at e; omega
                          · exact List.mem_of_getElem? e
                        unfold queuedL
                        rw [if_pos hm]
                      have HTa := HT6
                      have HKa := HK6
                      have HXa := HX6
                      have HPw : Hid (wa2 = wa ∨ ∀ y, wa2 = some y → w.heap.size ≤ y.block ∧ y.block < wc.heap.size) := hide (.inr (fun y hy => by have := ownY_at HP2.out.o y hy; have := hB5.size; have := hB3.size; omega))
                      clear hT6 hB5 hB3 x0 x1 x2 x3 x4
                      go_upto_region 21 with fail
                      have HEd := hide (xedges_any q ha k hc wa2 wn2 wc2 hs (ws2) wc.drew (HTa.out.keep (Below.refl _ _).drew).a (by omega) (by omega))
                      have HLe := hide (ed_len200 hs (ws2) (by omega) (by have := HTa.out.wt.1; omega))
                      obtain ⟨zc, hzc⟩ : ∃ z, decide (cycleW (edgesL (hs.map ML.l) ((ws2).map ML.l)) x.l.tx = []) = z := ⟨_, rfl⟩
                      have HZc := hide hzc
                      have HR5 : Hid (r = if zc = true then (⟨hs.map ML.l, (ws2).map ML.l⟩, false, 0) else (⟨hs.map ML.l, leaveL ((ws2).map ML.l) x.l.tx lck0⟩, false, 131)) := by
                        show _ = _
                        rw [HR1.out, if_neg (by decide), ← hzc, ← HQ.out]
                        by_cases e : cycleW (edgesL (hs.map ML.l) ((ws2).map ML.l)) x.l.tx = []
                        · rw [if_pos e, if_pos (decide_eq_true e)]
                        · rw [if_neg e, if_neg (fun e2 => e (of_decide_eq_true e2))]
                      clear hzc
                      go_cut [146] from 141 to 151 (fun s wx => s = .bool (!zc) ∧ Hid (Below wc.heap.size wc wx))
                      case first =>
                        have HV : Hid (∀ V, Below wc.drew.heap.size wc.drew V → V.cell? ⟨w.heap.size, 0, none⟩ = some (.int .u64 x.l.tx)) := fun V hV => by
                          have hV2 := below_undrew hV
                          exact (HXa.out.same (hV2.block _ (by have := HKa.out.size; have := HSz.out; omega))).zero.1
                        refine startX 99 (by kernel_rfl) ?_
                        refine' takeX (E := 99) (i := 0) (v := _) rfl (by kernel_rfl) (by kernel_rfl) (by kernel_rfl) (by kernel_rfl) (fun _ _ _ h => h) (by rfl) (Below.refl _ _) ?_ ?_; rotate_left
                        · (intro V hSV; obtain x0 := HV.out V hSV; go_simp; all_goals (with_reducible rfl))
                        (try simp only [Act.put, List.setIfInBounds_toArray, List.set_cons_zero, List.set_cons_succ])
                        refine' takeX (E := 99) (i := 2) (v := _) rfl (by kernel_rfl) (by kernel_rfl) (by kernel_rfl) (by kernel_rfl) (fun _ _ _ h => h) (by rfl) (Below.refl _ _) ?_ ?_; rotate_left
                        · (intro V hSV; obtain x0 := HV.out V hSV; go_simp; all_goals (with_reducible rfl))
                        (try simp only [Act.put, List.setIfInBounds_toArray, List.set_cons_zero, List.set_cons_succ])
                        refine' takeX (E := 99) (i := 3) (v := _) rfl (by kernel_rfl) (by kernel_rfl) (by kernel_rfl) (by kernel_rfl) (fun _ _ _ h => h) (by rfl) (Below.refl _ _) ?_ ?_; rotate_left
                        · (intro V hSV; obtain x0 := HV.out V hSV; go_simp; all_goals (with_reducible rfl))
                        (try simp only [Act.put, List.setIfInBounds_toArray, List.set_cons_zero, List.set_cons_succ])
                        refine callX (i := 1) rfl (by kernel_rfl) (fun K hK => ?_)
                        go_simp
                        refine HEd.out.mono ?_
                        rintro e w3 ⟨v3, rfl, ho3, hb3⟩
                        obtain ⟨va, vn, vc, rfl⟩ := ho3.any3
                        have hvl := ho3.is.1
                        have HCy := hide (cycleN_any va vn vc _ x.l.tx w3 ho3.is (by have := HLe.out; omega))
                        have HB4 := hide (below_undrew hb3)
                        refine hK.out _ _ (fun _ => hb3) ?_
                        clear hK K ho3 hvl
                        (try simp only [Act.put, List.setIfInBounds_toArray, List.set_cons_zero, List.set_cons_succ])
                        refine callX (i := 4) rfl (by kernel_rfl) (fun K hK => ?_)
                        go_simp
                        refine HCy.out.mono ?_
                        rintro e w4 ⟨v4, rfl, ho4, hb4, hnil⟩
                        obtain ⟨ca, cn, cc, rfl⟩ := ho4.any3
                        have hb5 := hb3.trans (hb4.mono hb3.size)
                        have HB5 := hide (below_undrew hb5)
                        have HC5 : Hid (ca.isNone = zc) := by
                          show _ = _
                          rw [← HZc.out]
                          by_cases e : cycleW (edgesL (hs.map ML.l) ((ws2).map ML.l)) x.l.tx = []
                          · have := hnil e
                            cases this
                            rw [decide_eq_true e]; rfl
                          · rcases ho4.form with ⟨e1, e2⟩ | ⟨g, cap, e1, -⟩
                            · exact absurd e2 e
                            · cases e1; rw [decide_eq_false e]; rfl
                        refine hK.out _ _ (fun _ => hb5) ?_
                        clear hK K ho4 hnil
                        (try simp only [Act.put, List.setIfInBounds_toArray, List.set_cons_zero, List.set_cons_succ])
                        have HC6 := HC5
                        cases ca with
                        | none =>
                          refine callX (i := 5) rfl (by kernel_rfl) (fun K hK => ?_)
                          go_simp
                          refine hK.out _ _ (fun _ => hb5) ?_
                          clear hK K
                          (try simp only [Act.put, List.setIfInBounds_toArray, List.set_cons_zero, List.set_cons_succ])
                          refine doneX (by kernel_rfl) ?_ _
                          go_wp2
                          go_meet
                          exact ⟨by rw [← HC5.out]; rfl, HB5⟩
                        | some y =>
                          refine callX (i := 5) rfl (by kernel_rfl) (fun K hK => ?_)
                          go_simp
                          refine hK.out _ _ (fun _ => hb5) ?_
                          clear hK K
                          (try simp only [Act.put, List.setIfInBounds_toArray, List.set_cons_zero, List.set_cons_succ])
                          refine doneX (by kernel_rfl) ?_ _
                          go_wp2
                          go_meet
                          exact ⟨by rw [← HC5.out]; rfl, HB5⟩
                      case rest =>
                        obtain ⟨rfl, HBc⟩ := hcut
                        have hBc := HBc.out
                        have hTc := HTa.out.keep hBc
                        have HTc := hide hTc
                        have HKc := hide (kp_then HKa.out (fun k hk _ => hk) (Below.keeps hBc _))
                        have HXc := hide (HXa.out.same (hBc.block _ (by have := HKa.out.size; have := HSz.out; omega)))
                        cases zc with
                        | true =>
                          have HR6 := hide (show r = (⟨hs.map ML.l, (ws2).map ML.l⟩, false, 0) from HR5.out.trans (if_pos rfl))
                          clear hTc hBc
                          go_wp2
                          go_ret2
                          refine ⟨?_, ha, k, hc, wa2, wn2, wc2, hs, ws2, ?_⟩
                          · rw [HR6.out]; rfl
                          · rw [HR6.out]; exact ⟨HTc.out, rfl, rfl, HKc.out, .inl rfl, HPw.out.imp id (fun h y hy => ⟨(h y hy).1, Nat.lt_of_lt_of_le (h y hy).2 HBc.out.size⟩)⟩
                        | false =>
                          have HR6 := hide (show r = (⟨hs.map ML.l, leaveL ((ws2).map ML.l) x.l.tx lck0⟩, false, 131) from HR5.out.trans (if_neg (by simp)))
                          have HLc := hide (leave_any q ha k hc wa2 wn2 wc2 hs (ws2) x.l.tx ml0 _ hTc.a (hTc.fz 4) (ml0_ok _) (by omega))
                          obtain ⟨x0, x1, x2, x3, x4⟩ := HXc.out.zero
                          have hl0 : ml0.l = lck0 := rfl
                          clear hTc hBc
                          go_wp2_with (first
                            | (go_at_call 126; go_must (refine HLc.out.mono ?_); rintro e w7 ⟨v7, rfl, hp7⟩; obtain ⟨wa7, wn7, wc7, rfl⟩ := hp7.o.any3; have HP7 := hide hp7; clear hp7))
                          go_ret2
                          refine ⟨?_, ha, k, hc, wa7, wn7, wc7, hs, (ws2).filter (stayM x.l.tx ml0), ?_⟩
                          · rw [HR6.out]; rfl
                          · rw [HR6.out]
                            exact ⟨HTc.out.setW HP7.out (fun m hm => HTc.out.wo m (List.mem_filter.1 hm).1), rfl, leaveM_l _ _ _, kp_then HKc.out (fun k hk _ => hk) HP7.out.kp, .inl rfl, .inr (fun y hy => by have := ownY_at HP7.out.o y hy; have := HKc.out.size; omega)⟩

end Go.Proofs.YtcgiicmmfleinaaGreatDoor.O3
