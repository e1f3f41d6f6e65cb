/- The reference's leave: what it does. -/
import Derived.Test.YtcgiicmmfleinaaGreatDoorLk7
namespace Go.Proofs.YtcgiicmmfleinaaGreatDoor
open Go.RowKit NumMath Go.ChangeShapes Go.WideShapes Go.Deep
set_option linter.unusedVariables false
set_option maxRecDepth 100000

def ml0 : ML := ⟨lck0, none, 0, 0, none, 0, 0⟩

theorem ml0_ok (w : World) : ml0.ok w := ⟨⟨rfl, Nat.le_refl _, Nat.zero_le _, by simp [ml0, lck0], .inl rfl⟩, ⟨rfl, Nat.le_refl _, Nat.zero_le _, by simp [ml0, lck0], .inl rfl⟩⟩

/-- whom leave keeps -/
def stayM (tx : Int) (but m : ML) : Bool := m.l.tx != tx || decide (m.l = but.l)

theorem leaveM_l (ws : List ML) (tx : Int) (but : ML) : (ws.filter (stayM tx but)).map ML.l = leaveL (ws.map ML.l) tx but.l := by
  unfold leaveL
  rw [List.filter_map]
  congr 1

/-- what leave, or another call that lays one list anew, leaves of the table: list i of the two -/
structure TxP (w : World) (q i : Nat) (l : List ML) (w' : World) (v : Value) : Prop where
  c : w'.cell? ⟨q, i, none⟩ = some v
  o : OwnY layK w' w.heap.size v l
  kp : Keeps (fun k => k = q) w w'
  oc : ∀ j, j ≠ i → w'.cell? ⟨q, j, none⟩ = w.cell? ⟨q, j, none⟩
  fz : ∀ j, w'.frozen? ⟨q, j, none⟩ = w.frozen? ⟨q, j, none⟩

theorem txP_set {w wr : World} {q i : Nat} {l : List ML} {v : Value} (hb : Below w.heap.size w wr) (hq : q < w.heap.size) (ho : OwnY layK wr w.heap.size v l) (hc : (w.cell? ⟨q, i, none⟩).isSome = true) : TxP w q i l (wr.setCell ⟨q, i, none⟩ v) v := by
  have hk := keepsY_cell (w := wr) (g := q) (i := i) v
  refine ⟨World.cell?_setCell_same' _ _ _ ((by rw [hb.cell (p := ⟨q, i, none⟩) hq]; exact hc)), ho.lies (fun g hg => hk.block g (ho.lt g hg).2 (by have := (ho.lt g hg).1; omega)), ⟨hk.os.trans hb.os, hk.tape.trans hb.tape, hk.output.trans hb.output, Nat.le_trans hb.size hk.size, fun k hk1 hn => (hk.block k (Nat.lt_of_lt_of_le hk1 hb.size) hn).trans (hb.block k hk1)⟩, fun j hj => ?_, fun j => ?_⟩
  · rw [World.cell?_setCell_other _ _ _ _ (by intro e; cases e; exact hj rfl)]
    exact hb.cell (p := ⟨q, j, none⟩) hq
  · rw [World.frozen?_setCell]
    exact hb.frozen (p := ⟨q, j, none⟩) hq

set_option maxHeartbeats 4000000 in
theorem leave_any (q : Nat) (ha : Option Addr) (hn hc : Nat) (wa : Option Addr) (wn wc : Nat) (hs ws : List ML) (tx : Int) (x : ML) (w : World) (h : TxA w q ha hn hc wa wn wc hs ws) (hf : w.frozen? ⟨q, 1, none⟩ = false) (hx : x.ok w) (hb2 : wn ≤ 100000) :
    Calls Tryz.prog 126 #[.pointer (some ⟨q, 0, none⟩), .int .u64 tx, .agg #[.int .u64 x.l.tx, .int .i64 x.l.lv, .int .i64 x.l.md, .slice x.la x.ln x.lc, .slice x.ha x.hn x.hc]] w fun e w' => ∃ v, e = .returned (.tuple #[]) ∧ TxP w q 1 (ws.filter (stayM tx x)) w' v := by
  have hbx := new_below w (.cells #[.int .u64 x.l.tx, .int .i64 x.l.lv, .int .i64 x.l.md, .slice x.la x.ln x.lc, .slice x.ha x.hn x.hc] 41)
  have hq := h.q
  obtain ⟨w1, hw1⟩ : ∃ w1, w1 = w.alloc (.cells #[.int .u64 x.l.tx, .int .i64 x.l.lv, .int .i64 x.l.md, .slice x.la x.ln x.lc, .slice x.ha x.hn x.hc] 41) := ⟨_, rfl⟩
  rw [← hw1] at hbx
  have hs1 : w1.heap.size = w.heap.size + 1 := by rw [hw1]; simp
  have HX1 : Hid (At5 w1 w.heap.size 0 x) := by rw [hw1]; exact at5_new w x
  have H1 := hide (h.keep hbx)
  have HXo := hide (hx.keep hbx)
  have HBx := hide hbx
  have hmc : (wc : Int) ≤ 9223372036854775807 := by have := h.wt.2.2.1; unfold maxLen at this; omega
  have hnc := h.wt.2.1
  have hnl := h.wt.1
  have c11 := H1.out.c1
  rw [hw1] at c11
  have HF := hide hf
  have HSome : Hid ((w.cell? ⟨q, 1, none⟩).isSome = true) := by show _ = _; rw [h.c1]; rfl
  have hne : ¬ w.heap.size = q := by omega
  clear h hx hbx hf
  go_enter Tryz.func126, Tryz.ntmps126
  go_wp2
  rw [← hw1]
  clear hw1 c11
  go_loopg [6, 14] wn (fun gk v i wr => ∃ k : Nat, gk = wn - k ∧ i = .int .i64 k ∧ k ≤ wn ∧ OwnY layK wr w1.heap.size v ((ws.take k).filter (stayM tx x)) ∧ Below w1.heap.size w1 wr)
  case atStart => exact ⟨0, rfl, rfl, Nat.zero_le _, ownY_nil _ _, Below.refl _ _⟩
  case round =>
    obtain ⟨k, rfl, rfl, hk, hO, hB⟩ := hrel
    obtain ⟨va, vn, vc, rfl⟩ := hO.any3
    have HOw := hide hO
    have HB := hide hB
    have hsw := hB.size
    clear hO
    by_cases hlt : k < wn
    · have hlt' : (k : Int) < (wn : Int) := by omega
      obtain ⟨m, hmk⟩ := ml_at (hs := ws) (k := k) (by omega)
      obtain ⟨g, off, rfl, hg, hC⟩ := H1.out.wt.at hlt
      have d := at5_of (rangeY_same (hC k m hmk) (hB.block g hg))
      obtain ⟨d0, d1, d2, d3, d4⟩ := d
      have d0 : wr.cell? ⟨g, off + k * 5, none⟩ = some (.int .u64 m.l.tx) := d0
      have d1 : wr.cell? ⟨g, off + k * 5 + 1, none⟩ = some (.int .i64 m.l.lv) := d1
      have d2 : wr.cell? ⟨g, off + k * 5 + 2, none⟩ = some (.int .i64 m.l.md) := d2
      have d3 : wr.cell? ⟨g, off + k * 5 + 3, none⟩ = some (.slice m.la m.ln m.lc) := d3
      have d4 : wr.cell? ⟨g, off + k * 5 + 4, none⟩ = some (.slice m.ha m.hn m.hc) := d4
      have hbN := new_below wr (.cells #[.int .u64 m.l.tx, .int .i64 m.l.lv, .int .i64 m.l.md, .slice m.la m.ln m.lc, .slice m.ha m.hn m.hc] 41)
      have hb1N := hB.trans (hbN.mono hsw)
      have HBx2 : Hid (∀ V, Below (wr.heap.size + 1) (wr.alloc (.cells #[.int .u64 m.l.tx, .int .i64 m.l.lv, .int .i64 m.l.md, .slice m.la m.ln m.lc, .slice m.ha m.hn m.hc] 41)) V → At5 V wr.heap.size 0 m ∧ At5 V w.heap.size 0 x) := fun V hV => ⟨(at5_new wr m).same (hV.block _ (by omega)), HX1.out.same ((hV.block _ (by omega)).trans ((hbN.block _ (by omega)).trans (hB.block _ (by omega))))⟩
      obtain ⟨x0, x1, x2, x3, x4⟩ := (HBx2.out _ (Below.refl _ _)).2.zero
      have HSm := hide (same_any m x _ ((H1.out.wo m (List.mem_of_getElem? hmk)).keep hb1N) (HXo.out.keep hb1N))
      have HFm := hide (filter_more (stayM tx x) hmk)
      have HBN := hide hbN
      have HBig : Hid (((ws.take k).filter (stayM tx x)).length + [m].length ≤ 1000000000) := by
        show _ ≤ _
        have := List.length_filter_le (stayM tx x) (ws.take k)
        rw [List.length_take] at this
        simp only [List.length_singleton]; omega
      clear hC hmk hB hbN hb1N
      by_cases ht : m.l.tx = tx
      · have ht' : (m.l.tx == tx) = true := by simp [ht]
        have htn : (m.l.tx != tx) = false := by simp [ht]
        cases hsm : decide (m.l = x.l) with
        | true =>
          rw [hsm] at HSm
          have HF2 : Hid ((ws.take (k + 1)).filter (stayM tx x) = (ws.take k).filter (stayM tx x) ++ [m]) := by
            show _ = _
            have e : stayM tx x m = true := by unfold stayM; rw [hsm]; simp
            rw [HFm.out, e]; simp
          clear ht hsm
          go_wp2_with (first
            | (at_builtin; go_must (refine wp_joinY layK _ rfl (.tmp 27) (.tmp 29) rfl w1.heap.size _ ((ws.take k).filter (stayM tx x)) rfl HO4.out (some ⟨w2.heap.size, 0, none⟩) 1 1 [m] rfl HS4.out HBig.out (by simp; omega) ?_); intro v5 w5 hown5 hg5 hat5; have HO5 := hide hown5; have HB5 := hide (HO4.out.grown hg5 (by simp; omega)); obtain ⟨xa, xn, xc, rfl⟩ := hown5.any3; clear hown5 hg5 hat5)
            | (go_at_call 32; go_must (refine HSm.out.mono ?_); rintro e w2 ⟨rfl, hb2⟩; have HB2 := hide hb2; obtain ⟨y0, y1, y2, y3, y4⟩ := (HBx2.out w2 (hb2.mono (by simp))).1.zero; have hs2 := hb2.size; simp only [World.size_alloc] at hs2; have HO4 := hide ((HOw.out.keep (HBN.out.trans (hb2.mono (by simp)))).keep (new_below w2 (.cells #[.int .u64 m.l.tx, .int .i64 m.l.lv, .int .i64 m.l.md, .slice m.la m.ln m.lc, .slice m.ha m.hn m.hc] 41))); have HS4 := hide (ownY_one (L := layK) w2 0 #[.int .u64 m.l.tx, .int .i64 m.l.lv, .int .i64 m.l.md, .slice m.la m.ln m.lc, .slice m.ha m.hn m.hc] m (Nat.zero_le _) rfl).is.src; clear hb2))
          go_roundg (wn - (k + 1))
          case measure => omega
          case rel =>
            have hbb := (HBN.out.trans (HB2.out.mono (by simp))).trans ((new_below w2 (.cells #[.int .u64 m.l.tx, .int .i64 m.l.lv, .int .i64 m.l.md, .slice m.la m.ln m.lc, .slice m.ha m.hn m.hc] 41)).mono (by omega))
            exact ⟨k + 1, rfl, by go_num, by omega, by rw [HF2.out]; exact HO5.out, (HB.out.trans (hbb.mono hsw)).trans HB5.out⟩
        | false =>
          rw [hsm] at HSm
          have HF2 : Hid ((ws.take (k + 1)).filter (stayM tx x) = (ws.take k).filter (stayM tx x)) := by
            show _ = _
            have e : stayM tx x m = false := by unfold stayM; rw [hsm, htn]; rfl
            rw [HFm.out, e]; simp
          clear ht hsm
          go_wp2_with (first
            | (go_at_call 32; go_must (refine HSm.out.mono ?_); rintro e w2 ⟨rfl, hb2⟩; have HB2 := hide hb2; clear hb2))
          go_roundg (wn - (k + 1))
          case measure => omega
          case rel =>
            have hbb := HBN.out.trans (HB2.out.mono (by simp))
            exact ⟨k + 1, rfl, by go_num, by omega, by rw [HF2.out]; exact HOw.out.keep hbb, HB.out.trans (hbb.mono hsw)⟩
      · have ht' : (m.l.tx == tx) = false := by simp [ht]
        have htn : (m.l.tx != tx) = true := by simp [ht]
        have HF2 : Hid ((ws.take (k + 1)).filter (stayM tx x) = (ws.take k).filter (stayM tx x) ++ [m]) := by
          show _ = _
          have e : stayM tx x m = true := by unfold stayM; simp [ht]
          rw [HFm.out, e]; simp
        have HO4 := hide ((HOw.out.keep HBN.out).keep (new_below (wr.alloc (.cells #[.int .u64 m.l.tx, .int .i64 m.l.lv, .int .i64 m.l.md, .slice m.la m.ln m.lc, .slice m.ha m.hn m.hc] 41)) (.cells #[.int .u64 m.l.tx, .int .i64 m.l.lv, .int .i64 m.l.md, .slice m.la m.ln m.lc, .slice m.ha m.hn m.hc] 41)))
        have HS4 := hide (ownY_one (L := layK) (wr.alloc (.cells #[.int .u64 m.l.tx, .int .i64 m.l.lv, .int .i64 m.l.md, .slice m.la m.ln m.lc, .slice m.ha m.hn m.hc] 41)) 0 #[.int .u64 m.l.tx, .int .i64 m.l.lv, .int .i64 m.l.md, .slice m.la m.ln m.lc, .slice m.ha m.hn m.hc] m (Nat.zero_le _) rfl).is.src
        simp only [World.size_alloc] at HS4
        clear ht
        go_wp2_with (first
          | (at_builtin; go_must (refine wp_joinY layK _ rfl (.tmp 27) (.tmp 29) rfl w1.heap.size _ ((ws.take k).filter (stayM tx x)) rfl HO4.out (some ⟨wr.heap.size + 1, 0, none⟩) 1 1 [m] rfl HS4.out HBig.out (by simp; omega) ?_); intro v5 w5 hown5 hg5 hat5; have HO5 := hide hown5; have HB5 := hide (HO4.out.grown hg5 (by simp; omega)); obtain ⟨xa, xn, xc, rfl⟩ := hown5.any3; clear hown5 hg5 hat5))
        go_roundg (wn - (k + 1))
        case measure => omega
        case rel =>
          have hbb := HBN.out.trans ((new_below (wr.alloc (.cells #[.int .u64 m.l.tx, .int .i64 m.l.lv, .int .i64 m.l.md, .slice m.la m.ln m.lc, .slice m.ha m.hn m.hc] 41)) (.cells #[.int .u64 m.l.tx, .int .i64 m.l.lv, .int .i64 m.l.md, .slice m.la m.ln m.lc, .slice m.ha m.hn m.hc] 41)).mono (by simp))
          exact ⟨k + 1, rfl, by go_num, by omega, by rw [HF2.out]; exact HO5.out, (HB.out.trans (hbb.mono hsw)).trans HB5.out⟩
    · obtain rfl : k = wn := by omega
      have ek : ws.take k = ws := List.take_of_length_le (by omega)
      rw [ek] at HOw
      have hbw := HBx.out.trans (hB.mono (by omega))
      have cw := (H1.out.keep hB).c1
      have fw : wr.frozen? ⟨q, 1, none⟩ = false := (hbw.frozen (p := ⟨q, 1, none⟩) hq).trans HF.out
      have HBw := hide hbw
      clear hB hbw
      go_wp2
      go_end0
      exact ⟨_, rfl, txP_set HBw.out hq (HOw.out.mono (by omega)) HSome.out⟩

end Go.Proofs.YtcgiicmmfleinaaGreatDoor
