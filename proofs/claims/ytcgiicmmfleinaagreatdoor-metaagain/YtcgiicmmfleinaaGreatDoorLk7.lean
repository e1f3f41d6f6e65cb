/- The reference's table in memory; way: what it answers. -/
import Derived.Test.YtcgiicmmfleinaaGreatDoorLkM
import Derived.Test.YtcgiicmmfleinaaGreatDoorTx
namespace Go.Proofs.YtcgiicmmfleinaaGreatDoor
open Go.RowKit NumMath Go.ChangeShapes Go.WideShapes Go.Deep
set_option linter.unusedVariables false
set_option maxRecDepth 100000

/-- the reference's table at block q, as it is read -/
structure TxA (w : World) (q : Nat) (ha : Option Addr) (hn hc : Nat) (wa : Option Addr) (wn wc : Nat) (hs ws : List ML) : Prop where
  c0 : w.cell? ⟨q, 0, none⟩ = some (.slice ha hn hc)
  c1 : w.cell? ⟨q, 1, none⟩ = some (.slice wa wn wc)
  q : q < w.heap.size
  h : IsY layK w ha hn hc hs
  wt : IsY layK w wa wn wc ws
  ho : ∀ m ∈ hs, m.ok w
  wo : ∀ m ∈ ws, m.ok w

theorem TxA.keep {w w' : World} {q : Nat} {ha : Option Addr} {hn hc : Nat} {wa : Option Addr} {wn wc : Nat} {hs ws : List ML} (h : TxA w q ha hn hc wa wn wc hs ws) (hb : Below w.heap.size w w') : TxA w' q ha hn hc wa wn wc hs ws :=
  ⟨(hb.cell (p := ⟨q, 0, none⟩) h.q).trans h.c0, (hb.cell (p := ⟨q, 1, none⟩) h.q).trans h.c1, Nat.lt_of_lt_of_le h.q hb.size, h.h.keep hb, h.wt.keep hb, fun m hm => (h.ho m hm).keep hb, fun m hm => (h.wo m hm).keep hb⟩

def wayM (hs bs : List ML) (x : ML) : List ML := hs.filter (fun m => standsL x.l m.l) ++ (if holdsL (hs.map ML.l) x.l = true then [] else bs.filter (fun m => standsL x.l m.l))

theorem wayM_l (hs bs : List ML) (x : ML) : (wayM hs bs x).map ML.l = wayL (hs.map ML.l) (bs.map ML.l) x.l := by
  unfold wayM wayL againstL
  rw [List.map_append, List.filter_map]
  congr 1
  split
  · rfl
  · rw [List.filter_map]; rfl

theorem holds_more {hs : List ML} {k : Nat} {m x : ML} (h : hs[k]? = some m) : holdsL ((hs.take (k + 1)).map ML.l) x.l = (holdsL ((hs.take k).map ML.l) x.l || (m.l.tx == x.l.tx && meetsL m.l x.l)) := by
  unfold holdsL
  rw [List.take_add_one, h, List.map_append, List.any_append]
  simp

theorem holds_pre {hs : List ML} {k : Nat} {x : ML} (h : holdsL ((hs.take k).map ML.l) x.l = true) : holdsL (hs.map ML.l) x.l = true := by
  unfold holdsL at *
  obtain ⟨y, hy, e⟩ := List.any_eq_true.1 h
  obtain ⟨m, hm, rfl⟩ := List.mem_map.1 hy
  exact List.any_eq_true.2 ⟨m.l, List.mem_map.2 ⟨m, List.mem_of_mem_take hm, rfl⟩, e⟩

set_option maxHeartbeats 4000000 in
theorem way_any (q : Nat) (ha : Option Addr) (hn hc : Nat) (wa : Option Addr) (wn wc : Nat) (hs ws : List ML) (x : ML) (aa : Option Addr) (an ac : Nat) (bs : List ML) (w : World) (h : TxA w q ha hn hc wa wn wc hs ws) (hx : x.ok w) (h2 : IsY layK w aa an ac bs) (ho : ∀ m ∈ bs, m.ok w) (hb1 : hn ≤ 100000) (hb2 : an ≤ 100000) :
    Calls Tryz.prog 127 #[.pointer (some ⟨q, 0, none⟩), .agg #[.int .u64 x.l.tx, .int .i64 x.l.lv, .int .i64 x.l.md, .slice x.la x.ln x.lc, .slice x.ha x.hn x.hc], .slice aa an ac] w fun e w' => ∃ v, e = .returned v ∧ OwnY layK w' w.heap.size v (wayM hs bs x) ∧ Below w.heap.size w w' := by
  have hbx := new_below w (.cells #[.int .u64 x.l.tx, .int .i64 x.l.lv, .int .i64 x.l.md, .slice x.la x.ln x.lc, .slice x.ha x.hn x.hc] 41)
  have hq := h.q
  obtain ⟨w1, hw1⟩ : ∃ w1, w1 = w.alloc (.cells #[.int .u64 x.l.tx, .int .i64 x.l.lv, .int .i64 x.l.md, .slice x.la x.ln x.lc, .slice x.ha x.hn x.hc] 41) := ⟨_, rfl⟩
  rw [← hw1] at hbx
  have hs1 : w1.heap.size = w.heap.size + 1 := by rw [hw1]; simp
  have HX1 : Hid (At5 w1 w.heap.size 0 x) := by rw [hw1]; exact at5_new w x
  have H1 := hide (h.keep hbx)
  have HXo := hide (hx.keep hbx)
  have HA := hide (h2.keep hbx)
  have HAo := hide (fun m hm => (ho m hm).keep hbx)
  have HBx := hide hbx
  have hmc : (hc : Int) ≤ 9223372036854775807 := by have := h.h.2.2.1; unfold maxLen at this; omega
  have hnc := h.h.2.1
  have hnl := h.h.1
  have HV : Hid (∀ V, Below w1.drew.heap.size w1.drew V → V.cell? ⟨q, 0, none⟩ = some (.slice ha hn hc) ∧ V.cell? ⟨q, 1, none⟩ = some (.slice wa wn wc) ∧ V.cell? ⟨w.heap.size, 0, none⟩ = some (.int .u64 x.l.tx) ∧ V.cell? ⟨w.heap.size, 1, none⟩ = some (.int .i64 x.l.lv) ∧ V.cell? ⟨w.heap.size, 2, none⟩ = some (.int .i64 x.l.md) ∧ V.cell? ⟨w.heap.size, 3, none⟩ = some (.slice x.la x.ln x.lc) ∧ V.cell? ⟨w.heap.size, 4, none⟩ = some (.slice x.ha x.hn x.hc)) := fun V hV => by
    have hV2 := below_undrew hV
    have hT := H1.out.keep hV2
    exact ⟨hT.c0, hT.c1, (HX1.out.same (hV2.block _ (by omega))).zero⟩
  have HAg := hide (against_any ha hn hc hs x w1.drew (H1.out.keep (Below.refl _ _).drew).h (H1.out.keep (Below.refl _ _).drew).ho (HXo.out.keep (Below.refl _ _).drew) hb1)
  clear h hx h2 ho hbx
  go_enter Tryz.func127, Tryz.ntmps127
  go_wp2
  rw [← hw1]
  clear hw1
  refine startX 99 (by kernel_rfl) ?_
  refine' takeX (E := 99) (i := 0) (v := _) rfl (by kernel_rfl) (by kernel_rfl) (by kernel_rfl) (by kernel_rfl) (fun _ _ _ h => h) (by rfl) (Below.refl _ _) ?_ ?_; rotate_left
  · (intro V hSV; obtain ⟨y0, y1, x0, x1, x2, x3, x4⟩ := HV.out V hSV; go_simp; all_goals (with_reducible rfl))
  (try simp only [Act.put, List.setIfInBounds_toArray, List.set_cons_zero, List.set_cons_succ])
  refine' takeX (E := 99) (i := 1) (v := _) rfl (by kernel_rfl) (by kernel_rfl) (by kernel_rfl) (by kernel_rfl) (fun _ _ _ h => h) (by rfl) (Below.refl _ _) ?_ ?_; rotate_left
  · (intro V hSV; obtain ⟨y0, y1, x0, x1, x2, x3, x4⟩ := HV.out V hSV; go_simp; all_goals (with_reducible rfl))
  (try simp only [Act.put, List.setIfInBounds_toArray, List.set_cons_zero, List.set_cons_succ])
  refine' takeX (E := 99) (i := 2) (v := _) rfl (by kernel_rfl) (by kernel_rfl) (by kernel_rfl) (by kernel_rfl) (fun _ _ _ h => h) (by rfl) (Below.refl _ _) ?_ ?_; rotate_left
  · (intro V hSV; obtain ⟨y0, y1, x0, x1, x2, x3, x4⟩ := HV.out V hSV; go_simp; all_goals (with_reducible rfl))
  (try simp only [Act.put, List.setIfInBounds_toArray, List.set_cons_zero, List.set_cons_succ])
  refine' takeX (E := 99) (i := 3) (v := _) rfl (by kernel_rfl) (by kernel_rfl) (by kernel_rfl) (by kernel_rfl) (fun _ _ _ h => h) (by rfl) (Below.refl _ _) ?_ ?_; rotate_left
  · (intro V hSV; obtain ⟨y0, y1, x0, x1, x2, x3, x4⟩ := HV.out V hSV; go_simp; all_goals (with_reducible rfl))
  (try simp only [Act.put, List.setIfInBounds_toArray, List.set_cons_zero, List.set_cons_succ])
  refine' takeX (E := 99) (i := 4) (v := _) rfl (by kernel_rfl) (by kernel_rfl) (by kernel_rfl) (by kernel_rfl) (fun _ _ _ h => h) (by rfl) (Below.refl _ _) ?_ ?_; rotate_left
  · (intro V hSV; obtain ⟨y0, y1, x0, x1, x2, x3, x4⟩ := HV.out V hSV; go_simp; all_goals (with_reducible rfl))
  (try simp only [Act.put, List.setIfInBounds_toArray, List.set_cons_zero, List.set_cons_succ])
  refine callX (i := 5) rfl (by kernel_rfl) (fun K hK => ?_)
  go_simp
  refine HAg.out.mono ?_
  rintro e w2 ⟨v2, rfl, ho2, hb2⟩
  obtain ⟨va, vn, vc, rfl⟩ := ho2.any3
  have HB2 := hide (below_undrew hb2)
  have HO2 : Hid (OwnY layK w2 w1.heap.size (.slice va vn vc) (hs.filter (fun m => standsL x.l m.l))) := ho2
  refine hK.out _ _ (fun _ => hb2) ?_
  clear hK K ho2 hb2
  (try simp only [Act.put, List.setIfInBounds_toArray, List.set_cons_zero, List.set_cons_succ])
  refine callX (i := 6) rfl (by kernel_rfl) (fun K hK => ?_)
  go_simp
  refine hK.out _ _ (fun _ => (by have t := HB2.out; exact ⟨t.os, t.tape, t.output, t.size, t.block⟩)) ?_
  clear hK K
  (try simp only [Act.put, List.setIfInBounds_toArray, List.set_cons_zero, List.set_cons_succ])
  refine doneX (by kernel_rfl) ?_ _
  have hT2 := H1.out.keep HB2.out
  have c02 := hT2.c0
  have HT2 := hide hT2
  have HX2 := hide (HX1.out.same (HB2.out.block _ (by omega)))
  have hs2 := HB2.out.size
  clear hT2 HV HAg
  go_wp2
  go_loopg [21] hn (fun gk i wr => ∃ k : Nat, gk = hn - k ∧ i = .int .i64 k ∧ k ≤ hn ∧ holdsL ((hs.take k).map ML.l) x.l = false ∧ Below w2.heap.size w2 wr)
  case atStart => exact ⟨0, rfl, rfl, Nat.zero_le _, rfl, Below.refl _ _⟩
  case round =>
    clear c02
    obtain ⟨k, rfl, rfl, hk, hH, hB⟩ := hrel
    have HB := hide hB
    have HH := hide hH
    clear hH
    have hswr := hB.size
    by_cases hlt : k < hn
    · have hlt' : (k : Int) < (hn : Int) := by omega
      obtain ⟨m, hmk⟩ := ml_at (hs := hs) (k := k) (by omega)
      obtain ⟨g, off, rfl, hg, hC⟩ := HT2.out.h.at hlt
      have d := at5_of (rangeY_same (hC k m hmk) (hB.block g hg))
      obtain ⟨d0, d1, d2, d3, d4⟩ := d
      have d0 : wr.cell? ⟨g, off + k * 5, none⟩ = some (.int .u64 m.l.tx) := d0
      have d1 : wr.cell? ⟨g, off + k * 5 + 1, none⟩ = some (.int .i64 m.l.lv) := d1
      have d2 : wr.cell? ⟨g, off + k * 5 + 2, none⟩ = some (.int .i64 m.l.md) := d2
      have d3 : wr.cell? ⟨g, off + k * 5 + 3, none⟩ = some (.slice m.la m.ln m.lc) := d3
      have d4 : wr.cell? ⟨g, off + k * 5 + 4, none⟩ = some (.slice m.ha m.hn m.hc) := d4
      have hbN := new_below wr (.cells #[.int .u64 m.l.tx, .int .i64 m.l.lv, .int .i64 m.l.md, .slice m.la m.ln m.lc, .slice m.ha m.hn m.hc] 41)
      have hb2N := hB.trans (hbN.mono hswr)
      obtain ⟨x0, x1, x2, x3, x4⟩ := (HX2.out.same (hb2N.block _ (by omega))).zero
      have HMe := hide (meets_any m x _ ((HT2.out.ho m (List.mem_of_getElem? hmk)).keep hb2N) ((HXo.out.keep HB2.out).keep hb2N))
      have HMo := hide (holds_more (x := x) hmk)
      rw [HH.out] at HMo
      have HB2N := hide hb2N
      clear hC hmk hB hbN hb2N
      by_cases ht : m.l.tx = x.l.tx
      · have ht' : (m.l.tx == x.l.tx) = true := by simp [ht]
        rw [ht'] at HMo
        clear ht
        cases hme : meetsL m.l x.l with
        | true =>
          rw [hme] at HMe HMo
          clear hme
          go_wp2_with (first
            | (go_at_call 158; go_must (refine HMe.out.mono ?_); rintro e w3 ⟨rfl, hb3⟩; have HB3 := hide (HB2N.out.trans (hb3.mono HB2N.out.size)); clear hb3))
          go_ret
          have hw : wayM hs bs x = hs.filter (fun m => standsL x.l m.l) := by
            unfold wayM
            rw [if_pos (holds_pre (k := k + 1) HMo.out), List.append_nil]
          exact ⟨_, rfl, by rw [hw]; exact (HO2.out.keep HB3.out).mono (by omega), (HBx.out.trans (HB2.out.mono (by omega))).trans (HB3.out.mono (by omega))⟩
        | false =>
          rw [hme] at HMe HMo
          clear hme
          go_wp2_with (first
            | (go_at_call 158; go_must (refine HMe.out.mono ?_); rintro e w3 ⟨rfl, hb3⟩; have HB3 := hide (HB2N.out.trans (hb3.mono HB2N.out.size)); clear hb3))
          go_roundg (hn - (k + 1))
          case measure => omega
          case rel => exact ⟨k + 1, rfl, by go_num, by omega, HMo.out, HB3.out⟩
      · have ht' : (m.l.tx == x.l.tx) = false := by simp [ht]
        rw [ht'] at HMo
        clear ht
        go_wp2
        go_roundg (hn - (k + 1))
        case measure => omega
        case rel => exact ⟨k + 1, rfl, by go_num, by omega, HMo.out, HB2N.out⟩
    · obtain rfl : k = hn := by omega
      have ek : hs.take k = hs := List.take_of_length_le (by omega)
      rw [ek] at HH
      obtain ⟨x0, x1, x2, x3, x4⟩ := (HX2.out.same (hB.block _ (by omega))).zero
      have hb1r := HB2.out.trans (hB.mono hs2)
      have HAg2 := hide (against_any aa an ac bs x wr (HA.out.keep hb1r) (fun m hm => (HAo.out m hm).keep hb1r) (HXo.out.keep hb1r) hb2)
      have HOr := hide (HO2.out.keep hB)
      have HB1r := hide hb1r
      clear hB hb1r
      go_wp2_with (first
        | (at_builtin; go_must (refine wp_joinY layK _ rfl (.tmp 37) (.tmp 40) rfl w1.heap.size _ (hs.filter (fun m => standsL x.l m.l)) rfl HO3.out ua un uc (bs.filter (fun m => standsL x.l m.l)) rfl HS3.out HBig.out (by omega) ?_); intro v5 w5 hown5 hg5 hat5; have HO5 := hide hown5; have HB5 := hide (HO3.out.grown hg5 (by omega)); obtain ⟨xa, xn, xc, rfl⟩ := hown5.any3; clear hown5 hg5 hat5)
        | (go_at_call 157; go_must (refine HAg2.out.mono ?_); rintro e w3 ⟨v3, rfl, ho3, hb3⟩; obtain ⟨ua, un, uc, rfl⟩ := ho3.any3; have HS3 := hide ho3.is.src; have HO3 := hide (HOr.out.keep hb3); have HB3 := hide (HB1r.out.trans (hb3.mono HB1r.out.size)); have hs3 := hb3.size; (have HBig : Hid ((hs.filter (fun m => standsL x.l m.l)).length + (bs.filter (fun m => standsL x.l m.l)).length ≤ 1000000000) := (by show _ ≤ _; have e1 := List.length_filter_le (fun m : ML => standsL x.l m.l) hs; have e2 := List.length_filter_le (fun m : ML => standsL x.l m.l) bs; have e3 := HA.out.1; omega)); clear ho3 hb3))
      go_ret
      have hw : wayM hs bs x = hs.filter (fun m => standsL x.l m.l) ++ bs.filter (fun m => standsL x.l m.l) := by
        unfold wayM
        rw [if_neg (by rw [HH.out]; simp)]
      exact ⟨_, rfl, by rw [hw]; exact HO5.out.mono (by omega), HBx.out.trans ((HB3.out.trans HB5.out).mono (by omega))⟩

end Go.Proofs.YtcgiicmmfleinaaGreatDoor
