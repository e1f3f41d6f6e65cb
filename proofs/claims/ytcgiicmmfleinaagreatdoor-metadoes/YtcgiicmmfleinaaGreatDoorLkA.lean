/- The reference's table, all of it; Free: what it does. -/
import Derived.Test.YtcgiicmmfleinaaGreatDoorLk9
import Derived.Test.YtcgiicmmfleinaaGreatDoorRgM
namespace Go.Proofs.YtcgiicmmfleinaaGreatDoor
open Go.RowKit NumMath Go.ChangeShapes Go.WideShapes Go.Deep
set_option linter.unusedVariables false
set_option maxRecDepth 100000

/-- the reference's table at block q; what its locks point to lies in the start world w0 -/
structure TxT (w0 w : World) (q : Nat) (ha : Option Addr) (hn hc : Nat) (wa : Option Addr) (wn wc : Nat) (hs ws : List ML) : Prop where
  c0 : w.cell? ⟨q, 0, none⟩ = some (.slice ha hn hc)
  c1 : w.cell? ⟨q, 1, none⟩ = some (.slice wa wn wc)
  lt : q < w.heap.size
  fz : ∀ j, w.frozen? ⟨q, j, none⟩ = false
  h : IsY layK w ha hn hc hs
  wt : IsY layK w wa wn wc ws
  b0 : Below w0.heap.size w0 w
  q0 : w0.heap.size ≤ q
  ho : ∀ m ∈ hs, m.ok w0
  wo : ∀ m ∈ ws, m.ok w0
  oh : hn = 0 ∨ ∀ y, ha = some y → y.block ≠ q
  ow : wn = 0 ∨ ∀ y, wa = some y → y.block ≠ q
  fh : ha = none ∨ ∃ g off, ha = some ⟨g, off, none⟩
  fw : wa = none ∨ ∃ g off, wa = some ⟨g, off, none⟩

theorem TxT.a {w0 w : World} {q : Nat} {ha : Option Addr} {hn hc : Nat} {wa : Option Addr} {wn wc : Nat} {hs ws : List ML} (h : TxT w0 w q ha hn hc wa wn wc hs ws) : TxA w q ha hn hc wa wn wc hs ws :=
  ⟨h.c0, h.c1, h.lt, h.h, h.wt, fun m hm => (h.ho m hm).keep h.b0, fun m hm => (h.wo m hm).keep h.b0⟩

theorem TxT.keep {w0 w w' : World} {q : Nat} {ha : Option Addr} {hn hc : Nat} {wa : Option Addr} {wn wc : Nat} {hs ws : List ML} (h : TxT w0 w q ha hn hc wa wn wc hs ws) (hb : Below w.heap.size w w') : TxT w0 w' q ha hn hc wa wn wc hs ws :=
  ⟨(hb.cell (p := ⟨q, 0, none⟩) h.lt).trans h.c0, (hb.cell (p := ⟨q, 1, none⟩) h.lt).trans h.c1, Nat.lt_of_lt_of_le h.lt hb.size, fun j => (hb.frozen (p := ⟨q, j, none⟩) h.lt).trans (h.fz j), h.h.keep hb, h.wt.keep hb, h.b0.trans (hb.mono h.b0.size), h.q0, h.ho, h.wo, h.oh, h.ow, h.fh, h.fw⟩

theorem ownY_at {w : World} {base : Nat} {a : Option Addr} {n c : Nat} {xs : List ML} (h : OwnY layK w base (.slice a n c) xs) : ∀ y, a = some y → base ≤ y.block ∧ y.block < w.heap.size := fun y hy => h.lt y.block (by rw [hy]; rfl)

theorem ownY_form {w : World} {base : Nat} {a : Option Addr} {n c : Nat} {xs : List ML} (h : OwnY layK w base (.slice a n c) xs) : a = none ∨ ∃ g off, a = some ⟨g, off, none⟩ := by
  rcases h.form with ⟨e, -⟩ | ⟨g, cap, e, -⟩
  · cases e; exact .inl rfl
  · cases e; exact .inr ⟨g, 0, rfl⟩

theorem TxT.setW {w0 w w' : World} {q : Nat} {ha : Option Addr} {hn hc : Nat} {wa : Option Addr} {wn wc : Nat} {hs ws : List ML} (h : TxT w0 w q ha hn hc wa wn wc hs ws) {a : Option Addr} {n c : Nat} {l : List ML} (hp : TxP w q 1 l w' (.slice a n c)) (hl : ∀ m ∈ l, m.ok w0) : TxT w0 w' q ha hn hc a n c hs l :=
  ⟨(hp.oc 0 (by omega)).trans h.c0, hp.c, Nat.lt_of_lt_of_le h.lt hp.kp.size, fun j => (hp.fz j).trans (h.fz j), h.h.lies hp.kp h.oh, hp.o.is, h.b0.trans (hp.kp.below h.b0.size (fun k (e : k = q) => by have := h.q0; omega)), h.q0, h.ho, hl, h.oh, .inr (fun y hy e => by have := ownY_at hp.o y hy; have := h.lt; omega), h.fh, ownY_form hp.o⟩

theorem TxT.setH {w0 w w' : World} {q : Nat} {ha : Option Addr} {hn hc : Nat} {wa : Option Addr} {wn wc : Nat} {hs ws : List ML} (h : TxT w0 w q ha hn hc wa wn wc hs ws) {a : Option Addr} {n c : Nat} {l : List ML} (hp : TxP w q 0 l w' (.slice a n c)) (hl : ∀ m ∈ l, m.ok w0) : TxT w0 w' q a n c wa wn wc l ws :=
  ⟨hp.c, (hp.oc 1 (by omega)).trans h.c1, Nat.lt_of_lt_of_le h.lt hp.kp.size, fun j => (hp.fz j).trans (h.fz j), hp.o.is, h.wt.lies hp.kp h.ow, h.b0.trans (hp.kp.below h.b0.size (fun k (e : k = q) => by have := h.q0; omega)), h.q0, hl, h.wo, .inr (fun y hy e => by have := ownY_at hp.o y hy; have := h.lt; omega), h.ow, ownY_form hp.o, h.fw⟩

/-- what a call leaves of the reference's table -/
structure TxN (w0 w : World) (q : Nat) (ha wa : Option Addr) (t : Tab) (w' : World) (ha' : Option Addr) (hn' hc' : Nat) (wa' : Option Addr) (wn' wc' : Nat) (hs' ws' : List ML) : Prop where
  tt : TxT w0 w' q ha' hn' hc' wa' wn' wc' hs' ws'
  eh : hs'.map ML.l = t.held
  ew : ws'.map ML.l = t.wait
  kp : Keeps (fun k => k = q) w w'
  ph : ha' = ha ∨ ∀ y, ha' = some y → w.heap.size ≤ y.block ∧ y.block < w'.heap.size
  pw : wa' = wa ∨ ∀ y, wa' = some y → w.heap.size ≤ y.block ∧ y.block < w'.heap.size

theorem held_l (hs : List ML) (tx : Int) : (hs.filter (fun m => m.l.tx != tx)).map ML.l = (hs.map ML.l).filter (fun h => h.tx != tx) := by
  rw [List.filter_map]; rfl

set_option maxHeartbeats 4000000 in
theorem xfree_any (w0 : World) (q : Nat) (ha : Option Addr) (hn hc : Nat) (wa : Option Addr) (wn wc : Nat) (hs ws : List ML) (tx : Int) (w : World) (h : TxT w0 w q ha hn hc wa wn wc hs ws) (hb1 : hn ≤ 1000) (hb2 : wn ≤ 1000) :
    Calls Tryz.prog 84 #[.pointer (some ⟨q, 0, none⟩), .int .u64 tx] w fun e w' => ∃ ha' hn' hc' wa' wn' wc' hs' ws', e = .returned (.int .i64 ((freeL ⟨hs.map ML.l, ws.map ML.l⟩ tx).2 : Nat)) ∧ TxN w0 w q ha wa (freeL ⟨hs.map ML.l, ws.map ML.l⟩ tx).1 w' ha' hn' hc' wa' wn' wc' hs' ws' := by
  have hq := h.lt
  have H := hide h
  have hmc : (hc : Int) ≤ 9223372036854775807 := by have := h.h.2.2.1; unfold maxLen at this; omega
  have hnc := h.h.2.1
  have hnl := h.h.1
  have c0 := h.c0
  clear h
  go_enter Tryz.func84, Tryz.ntmps84
  go_wp2
  clear c0
  go_loopg [5, 14] hn (fun gk v i wr => ∃ k : Nat, gk = hn - k ∧ i = .int .i64 k ∧ k ≤ hn ∧ OwnY layK wr w.heap.size v ((hs.take k).filter (fun m => m.l.tx != tx)) ∧ Below w.heap.size w wr)
  case atStart => exact ⟨0, rfl, rfl, Nat.zero_le _, ownY_nil _ _, Below.refl _ _⟩
  case round =>
    obtain ⟨k, rfl, rfl, hk, hO, hB⟩ := hrel
    obtain ⟨va, vn, vc, rfl⟩ := hO.any3
    have HOw := hide hO
    have HB := hide hB
    have hsw := hB.size
    have hvl := hO.len
    clear hO
    by_cases hlt : k < hn
    · have hlt' : (k : Int) < (hn : Int) := by omega
      obtain ⟨m, hmk⟩ := ml_at (hs := hs) (k := k) (by omega)
      obtain ⟨g, off, e9, hg, hC⟩ := H.out.h.at hlt
      have d := at5_of (rangeY_same (hC k m hmk) (hB.block g hg))
      subst e9
      obtain ⟨d0, d1, d2, d3, d4⟩ := d
      have d0 : wr.cell? ⟨g, off + k * 5, none⟩ = some (.int .u64 m.l.tx) := d0
      have d1 : wr.cell? ⟨g, off + k * 5 + 1, none⟩ = some (.int .i64 m.l.lv) := d1
      have d2 : wr.cell? ⟨g, off + k * 5 + 2, none⟩ = some (.int .i64 m.l.md) := d2
      have d3 : wr.cell? ⟨g, off + k * 5 + 3, none⟩ = some (.slice m.la m.ln m.lc) := d3
      have d4 : wr.cell? ⟨g, off + k * 5 + 4, none⟩ = some (.slice m.ha m.hn m.hc) := d4
      have hbN := new_below wr (.cells #[.int .u64 m.l.tx, .int .i64 m.l.lv, .int .i64 m.l.md, .slice m.la m.ln m.lc, .slice m.ha m.hn m.hc] 41)
      have HFm := hide (filter_more (fun m : ML => m.l.tx != tx) hmk)
      have HBN := hide hbN
      have HBig : Hid (((hs.take k).filter (fun m => m.l.tx != tx)).length + [m].length ≤ 1000000000) := by
        show _ ≤ _
        have := List.length_filter_le (fun m : ML => m.l.tx != tx) (hs.take k)
        rw [List.length_take] at this
        simp only [List.length_singleton]; omega
      clear hC hmk hB hbN
      by_cases ht : m.l.tx = tx
      · have ht' : (m.l.tx == tx) = true := by simp [ht]
        have HF2 : Hid ((hs.take (k + 1)).filter (fun m => m.l.tx != tx) = (hs.take k).filter (fun m => m.l.tx != tx)) := by
          show _ = _
          rw [HFm.out]; simp [ht]
        clear ht
        go_wp2
        go_roundg (hn - (k + 1))
        case measure => omega
        case rel => exact ⟨k + 1, rfl, by go_num, by omega, by rw [HF2.out]; exact HOw.out.keep HBN.out, HB.out.trans (HBN.out.mono hsw)⟩
      · have ht' : (m.l.tx == tx) = false := by simp [ht]
        have HF2 : Hid ((hs.take (k + 1)).filter (fun m => m.l.tx != tx) = (hs.take k).filter (fun m => m.l.tx != tx) ++ [m]) := by
          show _ = _
          rw [HFm.out]; simp [ht]
        have HO4 := hide ((HOw.out.keep HBN.out).keep (new_below (wr.alloc (.cells #[.int .u64 m.l.tx, .int .i64 m.l.lv, .int .i64 m.l.md, .slice m.la m.ln m.lc, .slice m.ha m.hn m.hc] 41)) (.cells #[.int .u64 m.l.tx, .int .i64 m.l.lv, .int .i64 m.l.md, .slice m.la m.ln m.lc, .slice m.ha m.hn m.hc] 41)))
        have HS4 := hide (ownY_one (L := layK) (wr.alloc (.cells #[.int .u64 m.l.tx, .int .i64 m.l.lv, .int .i64 m.l.md, .slice m.la m.ln m.lc, .slice m.ha m.hn m.hc] 41)) 0 #[.int .u64 m.l.tx, .int .i64 m.l.lv, .int .i64 m.l.md, .slice m.la m.ln m.lc, .slice m.ha m.hn m.hc] m (Nat.zero_le _) rfl).is.src
        simp only [World.size_alloc] at HS4
        clear ht
        go_wp2_with (first
          | (at_builtin; go_must (refine wp_joinY layK _ rfl (.tmp 22) (.tmp 24) rfl w.heap.size _ ((hs.take k).filter (fun m => m.l.tx != tx)) rfl HO4.out (some ⟨wr.heap.size + 1, 0, none⟩) 1 1 [m] rfl HS4.out HBig.out (by simp; omega) ?_); intro v5 w5 hown5 hg5 hat5; have HO5 := hide hown5; have HB5 := hide (HO4.out.grown hg5 (by simp; omega)); obtain ⟨xa, xn, xc, rfl⟩ := hown5.any3; clear hown5 hg5 hat5))
        go_roundg (hn - (k + 1))
        case measure => omega
        case rel =>
          have hbb := HBN.out.trans ((new_below (wr.alloc (.cells #[.int .u64 m.l.tx, .int .i64 m.l.lv, .int .i64 m.l.md, .slice m.la m.ln m.lc, .slice m.ha m.hn m.hc] 41)) (.cells #[.int .u64 m.l.tx, .int .i64 m.l.lv, .int .i64 m.l.md, .slice m.la m.ln m.lc, .slice m.ha m.hn m.hc] 41)).mono (by simp))
          exact ⟨k + 1, rfl, by go_num, by omega, by rw [HF2.out]; exact HO5.out, (HB.out.trans (hbb.mono hsw)).trans HB5.out⟩
    · obtain rfl : k = hn := by omega
      have ek : hs.take k = hs := List.take_of_length_le (by omega)
      rw [ek] at HOw hvl
      have hTr := H.out.keep hB
      have cw := hTr.c0
      have fw := hTr.fz 0
      have hp := txP_set (w := w) (q := q) (i := 0) hB hq HOw.out (by rw [H.out.c0]; rfl)
      have hT1 := H.out.setH hp (fun m hm => H.out.ho m (List.mem_filter.1 hm).1)
      have HLv := hide (leave_any q va vn vc wa wn wc _ ws tx ml0 _ hT1.a (hT1.fz 1) (ml0_ok _) (by omega))
      have HP := hide hp
      have HT1 := hide hT1
      have hlen : (((freeL ⟨hs.map ML.l, ws.map ML.l⟩ tx).2 : Nat) : Int) = (k : Int) - (vn : Int) := by
        unfold freeL
        dsimp only
        rw [← held_l, List.length_map, List.length_map]
        have := List.length_filter_le (fun m : ML => m.l.tx != tx) hs
        omega
      have HLen := hide hlen
      have hvn : vn ≤ k := by have := List.length_filter_le (fun m : ML => m.l.tx != tx) hs; omega
      clear hB hTr hp hT1 hlen
      have hl0 : ml0.l = lck0 := rfl
      go_wp2_with (first
        | (go_at_call 126; go_must (refine HLv.out.mono ?_); rintro e w5 ⟨v5, rfl, hp5⟩; obtain ⟨xa, xn, xc, rfl⟩ := hp5.o.any3; have HP5 := hide hp5; clear hp5))
      go_ret
      have hT5 := HT1.out.setW HP5.out (fun m hm => HT1.out.wo m (List.mem_filter.1 hm).1)
      refine ⟨va, vn, vc, xa, xn, xc, _, _, ?_, hT5, held_l hs tx, ?_, ?_, .inr (fun y hy => ?_), .inr (fun y hy => ?_)⟩
      · show Ending.returned (.int .i64 ((k : Int) - (vn : Int))) = _
        rw [HLen.out]
      · rw [leaveM_l]; rfl
      · exact kp_then HP.out.kp (fun k hk _ => hk) HP5.out.kp
      · have h1 := ownY_at HOw.out y hy
        exact ⟨h1.1, Nat.lt_of_lt_of_le h1.2 (by simpa [World.setCell] using HP5.out.kp.size)⟩
      · have := ownY_at HP5.out.o y hy
        have := HP.out.kp.size
        omega

end Go.Proofs.YtcgiicmmfleinaaGreatDoor
