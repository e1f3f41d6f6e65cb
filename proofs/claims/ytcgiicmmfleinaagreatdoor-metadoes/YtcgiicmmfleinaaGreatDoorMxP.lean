/- The reference's Meta: what became of a transaction (state). The reference's Again: was, note. Printed by part/gen_mxb.py. The reference's Again: note. Printed by part/gen_mxc.py. -/
import Derived.Test.YtcgiicmmfleinaaGreatDoorMrB
namespace Go.Proofs.YtcgiicmmfleinaaGreatDoor
open Go.RowKit NumMath Go.ChangeShapes Go.WideShapes Go.Deep
set_option linter.unusedVariables false
set_option maxRecDepth 100000

/-- transactions are numbered from 1 on -/
def Numb (ss : List Sta) : Prop := ∀ (i : Nat) (s : Sta), ss[i]? = some s → s.tx = (i : Int) + 1

theorem sta_found {ss : List Sta} {k : Nat} {s : Sta} {n : Int} (hs : ss[k]? = some s) (hn : s.tx = n) (hi : Numb ss) : staM ss n = s ∧ hasM ss n = true := by
  have e := hi k s hs
  have hk := (List.getElem?_eq_some_iff.1 hs).1
  have h1 : hasM ss n = true := by
    unfold hasM
    rw [Bool.and_eq_true]
    exact ⟨by simp; omega, by simp; omega⟩
  refine ⟨?_, h1⟩
  unfold staM
  rw [if_pos h1, show n.toNat - 1 = k by omega, List.getD_eq_getElem?_getD, hs]
  rfl

theorem sta_none {ss : List Sta} {n : Int} (h0 : 0 ≤ n) (h : ∀ j : Nat, j < ss.length → (j : Int) + 1 ≠ n) : staM ss n = ⟨n, 0, 0⟩ ∧ hasM ss n = false := by
  have h1 : hasM ss n = false := by
    unfold hasM
    by_cases hz : n = 0
    · subst hz; rfl
    · have : ¬ n ≤ (ss.length : Int) := fun hl => h (n.toNat - 1) (by omega) (by omega)
      simp [this]
  refine ⟨?_, h1⟩
  unfold staM
  rw [h1]
  rfl

/-- a box that is written anew -/
theorem box_set {V : World} {b : Nat} {old new : List Value} (h : V.rangeAt b 0 old) (hl : new.length ≤ old.length) (hf : ∀ j, V.frozen? ⟨b, j, none⟩ = false) : (V.setCells b 0 new).rangeAt b 0 new := by
  refine World.rangeAt_setCells_same V b 0 _ (fun j hj => ⟨?_, hf _⟩)
  rw [h j _ (List.getElem?_eq_getElem (by omega))]
  rfl

theorem box_below {w V : World} {b : Nat} {l : List Value} (hb : Below w.heap.size w V) (h : w.heap.size ≤ b) : Below w.heap.size w (V.setCells b 0 l) :=
  hb.trans ((keepsYs V b 0 l).below hb.size (fun k (e : k = b) => by omega))

set_option maxHeartbeats 2000000 in
theorem xstate_any (p : Nat) (sa : Option Addr) (sn sc : Nat) (ss : List Sta) (n : Int) (w : World) (hp : p < w.heap.size) (hc : w.cell? ⟨p, 2, none⟩ = some (.slice sa sn sc)) (hs : IsY laySt w sa sn sc ss) (hi : Numb ss) (hn : U64 n) :
    Calls Tryz.prog 82 #[.pointer (some ⟨p, 0, none⟩), .int .u64 n] w fun e w' => e = .returned (.tuple #[.agg #[.int .u64 (staM ss n).tx, .int .i64 (staM ss n).st, .int .u64 (staM ss n).ts], .bool (hasM ss n)]) ∧ Below w.heap.size w w' := by
  obtain ⟨W1, hW1⟩ : ∃ W1, W1 = w.alloc (.cells #[.int .u64 0, .int .i64 0, .int .u64 0] 80) := ⟨_, rfl⟩
  have hb1 : Below w.heap.size w W1 := by rw [hW1]; exact new_below _ _
  have hl1 : w.heap.size < W1.heap.size := by rw [hW1]; exact (Array.getElem?_eq_some_iff.1 (heap_alloc_new _ _)).1
  have HZ : Hid (∀ V, Below W1.heap.size W1 V → (V.cell? ⟨w.heap.size, 0, none⟩ = some (.int .u64 0) ∧ V.cell? ⟨w.heap.size, 1, none⟩ = some (.int .i64 0) ∧ V.cell? ⟨w.heap.size, 2, none⟩ = some (.int .u64 0)) ∧ ∀ j, V.frozen? ⟨w.heap.size, j, none⟩ = false) := by
    intro V hb
    subst hW1
    have h := rangeY_same (rangeY_new w w.heap.size #[.int .u64 0, .int .i64 0, .int .u64 0] 80 rfl) (hb.block _ hl1)
    refine ⟨⟨h 0 _ rfl, h 1 _ rfl, h 2 _ rfl⟩, fun j => ?_⟩
    rw [hb.frozen (p := ⟨w.heap.size, j, none⟩) hl1]
    exact fzY_new _ _ _ _
  have c1 : W1.cell? ⟨p, 2, none⟩ = some (.slice sa sn sc) := (hb1.cell (p := ⟨p, 2, none⟩) hp).trans hc
  have HS := hide hs
  have HI := hide hi
  have HB1 := hide hb1
  have HL1 := hide hl1
  have hm : (sn : Int) ≤ 9223372036854775807 := by have := hs.2.1; have := hs.2.2.1; unfold maxLen at this; omega
  have HN := hide hn
  have hpw : ¬ w.heap.size = p := by omega
  rw [hW1] at c1
  clear hc hs hi hb1 hl1 hn
  go_enter Tryz.func82, Tryz.ntmps82
  go_wp2
  rw [← hW1]
  clear hW1 c1
  go_loopg [13] sn (fun gk ix wr => ∃ k : Nat, gk = sn - k ∧ ix = .int .i64 k ∧ k ≤ sn ∧ (∀ j : Nat, j < k → (j : Int) + 1 ≠ n) ∧ Below W1.heap.size W1 wr)
  case atStart => exact ⟨0, rfl, rfl, Nat.zero_le _, fun j hj => absurd hj (by omega), Below.refl _ _⟩
  case round =>
    obtain ⟨k, rfl, rfl, hk, hT, hB⟩ := hrel
    have HT := hide hT
    have HB := hide hB
    have HL : Hid (w.heap.size < wr.heap.size) := Nat.lt_of_lt_of_le HL1.out hB.size
    clear hT hB
    by_cases hlt : k < sn
    · have hltI : (k : Int) < (sn : Int) := by omega
      obtain ⟨s, hs⟩ := at_of HS.out.1 hlt
      obtain ⟨g1, o1, rfl, hg1, hC1⟩ := (HS.out.keep (HB1.out.trans (HB.out.mono HB1.out.size))).at hlt
      have e0 : wr.cell? ⟨g1, o1 + k * 3, none⟩ = some (.int .u64 s.tx) := hC1 k s hs 0 _ rfl
      have e1 : wr.cell? ⟨g1, o1 + k * 3 + 1, none⟩ = some (.int .i64 s.st) := hC1 k s hs 1 _ rfl
      have e2 : wr.cell? ⟨g1, o1 + k * 3 + 2, none⟩ = some (.int .u64 s.ts) := hC1 k s hs 2 _ rfl
      have HSk := hide hs
      have HNk : Hid (s.tx = (k : Int) + 1) := HI.out k s hs
      obtain ⟨W2, hW2⟩ : ∃ W2, W2 = wr.alloc (.cells #[.int .u64 s.tx, .int .i64 s.st, .int .u64 s.ts] 80) := ⟨_, rfl⟩
      have hb2 : Below wr.heap.size wr W2 := by rw [hW2]; exact new_below _ _
      have hR2 : W2.rangeAt wr.heap.size 0 (laySt.cells s) := by rw [hW2]; exact rangeY_new wr wr.heap.size _ _ rfl
      have HB2 := hide (HB.out.trans (hb2.mono HB.out.size))
      have HR2 := hide hR2
      clear hC1 hs
      go_upto_region 4 with fail
      rw [← hW2]
      clear hW2 hR2 hb2 e0 e1 e2
      have x0 : W2.cell? ⟨wr.heap.size, 0, none⟩ = some (.int .u64 s.tx) := HR2.out 0 _ rfl
      have x1 : W2.cell? ⟨wr.heap.size, 1, none⟩ = some (.int .i64 s.st) := HR2.out 1 _ rfl
      have x2 : W2.cell? ⟨wr.heap.size, 2, none⟩ = some (.int .u64 s.ts) := HR2.out 2 _ rfl
      by_cases he : s.tx = n
      · have d0 : (s.tx == n) = true := by simpa using he
        have d1 : decide (s.tx = n) = true := by simpa using he
        have HF := hide (sta_found HSk.out he HI.out)
        obtain ⟨⟨z0, z1, z2⟩, zf⟩ := HZ.out W2 HB2.out
        have g0 := zf 0
        have g1 := zf 1
        have g2 := zf 2
        clear he zf
        go_wp2
        change bodyPost _ _ _ _ _ (W2.setCells w.heap.size 0 [.int .u64 s.tx, .int .i64 s.st, .int .u64 s.ts])
        have hr := box_set (V := W2) (b := w.heap.size) (old := [.int .u64 0, .int .i64 0, .int .u64 0]) (new := [.int .u64 s.tx, .int .i64 s.st, .int .u64 s.ts]) (fun j v hv => by
          rw [Nat.zero_add]
          match j, hv with
          | 0, hv => exact (HZ.out W2 HB2.out).1.1.trans hv
          | 1, hv => exact (HZ.out W2 HB2.out).1.2.1.trans hv
          | 2, hv => exact (HZ.out W2 HB2.out).1.2.2.trans hv
          | j + 3, hv => cases hv) (Nat.le_refl _) (HZ.out W2 HB2.out).2
        have r0 := hr 0 _ rfl
        have r1 := hr 1 _ rfl
        have r2 := hr 2 _ rfl
        have hbe := box_below (l := [.int .u64 s.tx, .int .i64 s.st, .int .u64 s.ts]) (HB1.out.trans ((HB2.out).mono HB1.out.size)) (Nat.le_refl w.heap.size)
        clear hr
        generalize W2.setCells w.heap.size 0 [.int .u64 s.tx, .int .i64 s.st, .int .u64 s.ts] = W at *
        refine bodyPost_ret (v := .tuple #[.agg #[.int .u64 s.tx, .int .i64 s.st, .int .u64 s.ts], .bool true]) (by simp [results, Tryz.results82, go_sem, r0, r1, r2]) rfl ⟨by rw [HF.out.1, HF.out.2], hbe⟩
      · have d0 : (s.tx == n) = false := by simpa using he
        have d1 : decide (s.tx = n) = false := by simpa using he
        have HE : Hid ((k : Int) + 1 ≠ n) := fun e => he (HNk.out.trans e)
        clear he
        go_wp2
        go_roundg (sn - (k + 1))
        case measure => omega
        case rel => exact ⟨k + 1, rfl, by go_num, by omega, fun j hj => (by
          by_cases hjk : j < k
          · exact HT.out j hjk
          · obtain rfl : j = k := by omega
            exact HE.out), HB2.out⟩
    · obtain rfl : k = sn := by omega
      have HF := hide (sta_none HN.out.1 (fun j hj => HT.out j (by rw [HS.out.1] at hj; exact hj)))
      obtain ⟨⟨z0, z1, z2⟩, zf⟩ := HZ.out wr HB.out
      have g0 := zf 0
      have g1 := zf 1
      have g2 := zf 2
      clear zf
      go_wp2
      change bodyPost _ _ _ _ _ (wr.setCells w.heap.size 0 [.int .u64 n, .int .i64 0, .int .u64 0])
      have hr := box_set (V := wr) (b := w.heap.size) (old := [.int .u64 0, .int .i64 0, .int .u64 0]) (new := [.int .u64 n, .int .i64 0, .int .u64 0]) (fun j v hv => by
        rw [Nat.zero_add]
        match j, hv with
        | 0, hv => exact (HZ.out wr HB.out).1.1.trans hv
        | 1, hv => exact (HZ.out wr HB.out).1.2.1.trans hv
        | 2, hv => exact (HZ.out wr HB.out).1.2.2.trans hv
        | j + 3, hv => cases hv) (Nat.le_refl _) (HZ.out wr HB.out).2
      have r0 := hr 0 _ rfl
      have r1 := hr 1 _ rfl
      have r2 := hr 2 _ rfl
      have hbe := box_below (l := [.int .u64 n, .int .i64 0, .int .u64 0]) (HB1.out.trans ((HB.out).mono HB1.out.size)) (Nat.le_refl w.heap.size)
      clear hr
      generalize wr.setCells w.heap.size 0 [.int .u64 n, .int .i64 0, .int .u64 0] = W at *
      refine bodyPost_ret (v := .tuple #[.agg #[.int .u64 n, .int .i64 0, .int .u64 0], .bool false]) (by simp [results, Tryz.results82, go_sem, r0, r1, r2]) rfl ⟨by rw [HF.out.1, HF.out.2], hbe⟩

end Go.Proofs.YtcgiicmmfleinaaGreatDoor

namespace Go.Proofs.YtcgiicmmfleinaaGreatDoor
open Go.RowKit NumMath Go.ChangeShapes Go.WideShapes Go.Deep
set_option linter.unusedVariables false
set_option maxRecDepth 100000

/-- what a client was told last -/
structure MTo where
  cl : Int
  sq : Int
  r : MRr

def layTo : Lay MTo where
  e := 156
  t := 28
  k := 9
  bys := 120
  z := .agg #[.int .u64 0, .int .u64 0, .int .i64 0, .int .u64 0, .int .u64 0, .bool false, .slice none 0 0, .slice none 0 0, .slice none 0 0]
  cells := fun m => [.int .u64 m.cl, .int .u64 m.sq, .int .i64 m.r.er, .int .u64 m.r.tx, .int .u64 m.r.ts, .bool m.r.fl, .slice m.r.ss.a m.r.ss.n m.r.ss.c, .slice m.r.ce.a m.r.ce.n m.r.ce.c, .slice m.r.tb.a m.r.tb.n m.r.tb.c]
  len := fun _ => rfl
  one := by intro x u hu; simp at hu; rcases hu with rfl | rfl | rfl | rfl | rfl | rfl | rfl | rfl | rfl <;> rfl
  pos := by decide
  few := by decide
  und := Tryz.underlying28
  info := by kernel_rfl
  zs := rfl

def resR (e : Int) : MRr := ⟨e, 0, 0, false, ⟨none, 0, 0, []⟩, ⟨none, 0, 0, []⟩, ⟨none, 0, 0, []⟩⟩

theorem resR_ok (e : Int) (w : World) : (resR e).ok w := ⟨isY_nil w, isY_nil w, isY_nil w, by simp [resR], by simp [resR]⟩

/-- whether an answer is one for a client's command, or for a later one -/
def hitT (cl sq : Int) (t : MTo) : Bool := cl != 0 && (t.cl == cl && decide (sq ≤ t.sq))

/-- the first such -/
def wasT (tl : List MTo) (cl sq : Int) : MRr × Bool :=
  match tl.find? (hitT cl sq) with
  | none => (resR 0, false)
  | some t => if t.sq = sq then (t.r, true) else (resR 1, true)

theorem find_hit {α : Type} {f : α → Bool} {l : List α} {k : Nat} {t : α} (h : ∀ (j : Nat) (u : α), j < k → l[j]? = some u → f u = false) (ht : l[k]? = some t) (hf : f t = true) : l.find? f = some t := by
  induction l generalizing k with
  | nil => cases ht
  | cons a l ih =>
    cases k with
    | zero =>
      cases ht
      rw [List.find?_cons, hf]
    | succ k =>
      rw [List.find?_cons, h 0 a (by omega) rfl]
      exact ih (fun j u hj hu => h (j + 1) u (by omega) hu) ht

theorem find_no {α : Type} {f : α → Bool} {l : List α} (h : ∀ (j : Nat) (u : α), j < l.length → l[j]? = some u → f u = false) : l.find? f = none := by
  rw [List.find?_eq_none]
  intro x hx
  obtain ⟨j, hj⟩ := List.getElem?_of_mem hx
  rw [h j x (List.getElem?_eq_some_iff.1 hj).1 hj]
  simp

/-- a list that is laid anew into a cell of a block: list i -/
structure TxQ {α : Type} (L : Lay α) (w : World) (q i : Nat) (l : List α) (w' : World) (v : Value) : Prop where
  c : w'.cell? ⟨q, i, none⟩ = some v
  o : OwnY L w' w.heap.size v l
  kp : Keeps (fun k => k = q) w w'
  oc : ∀ j, j ≠ i → w'.cell? ⟨q, j, none⟩ = w.cell? ⟨q, j, none⟩
  fz : ∀ j, w'.frozen? ⟨q, j, none⟩ = w.frozen? ⟨q, j, none⟩

theorem txQ_set {α : Type} {L : Lay α} {w wr : World} {q i : Nat} {l : List α} {v : Value} (hb : Below w.heap.size w wr) (hq : q < w.heap.size) (ho : OwnY L wr w.heap.size v l) (hc : (w.cell? ⟨q, i, none⟩).isSome = true) : TxQ L w q i l (wr.setCell ⟨q, i, none⟩ v) v := by
  have hk := keepsY_cell (w := wr) (g := q) (i := i) v
  refine ⟨World.cell?_setCell_same' _ _ _ ((by rw [hb.cell (p := ⟨q, i, none⟩) hq]; exact hc)), ho.lies (fun g hg => hk.block g (ho.lt g hg).2 (by have := (ho.lt g hg).1; omega)), ⟨hk.os.trans hb.os, hk.tape.trans hb.tape, hk.output.trans hb.output, Nat.le_trans hb.size hk.size, fun k hk1 hn => (hk.block k (Nat.lt_of_lt_of_le hk1 hb.size) hn).trans (hb.block k hk1)⟩, fun j hj => ?_, fun j => ?_⟩
  · rw [World.cell?_setCell_other _ _ _ _ (by intro e; cases e; exact hj rfl)]
    exact hb.cell (p := ⟨q, j, none⟩) hq
  · rw [World.frozen?_setCell]
    exact hb.frozen (p := ⟨q, j, none⟩) hq

set_option maxHeartbeats 4000000 in
theorem xwas_any (p : Nat) (la : Option Addr) (ln lc : Nat) (tl : List MTo) (c : MCmd) (w : World) (hp : p < w.heap.size) (hc : w.cell? ⟨p, 0, none⟩ = some (.slice la ln lc)) (hs : IsY layTo w la ln lc tl) :
    Calls Tryz.prog 29 #[.pointer (some ⟨p, 0, none⟩), .agg #[.int .u64 c.cl, .int .u64 c.sq, .int .i64 c.kd, .int .u64 c.tx, .int .u64 c.ts, .bool c.fl, .int .u64 c.lk.l.tx, .int .i64 c.lk.l.lv, .int .i64 c.lk.l.md, .slice c.lk.la c.lk.ln c.lk.lc, .slice c.lk.ha c.lk.hn c.lk.hc, .slice c.lo.a c.lo.n c.lo.c, .slice c.hi.a c.hi.n c.hi.c, .slice c.txs.a c.txs.n c.txs.c, .slice c.ws.a c.ws.n c.ws.c, .slice c.ks.a c.ks.n c.ks.c, .int .i64 c.tb.id, .string (strB c.tb.nm), .slice c.tb.cs.a c.tb.cs.n c.tb.cs.c, .int .i64 c.tb.ky, .slice c.tb.ix.a c.tb.ix.n c.tb.ix.c]] w fun e w' => e = .returned (.tuple #[.agg #[.int .i64 (wasT tl c.cl c.sq).1.er, .int .u64 (wasT tl c.cl c.sq).1.tx, .int .u64 (wasT tl c.cl c.sq).1.ts, .bool (wasT tl c.cl c.sq).1.fl, .slice (wasT tl c.cl c.sq).1.ss.a (wasT tl c.cl c.sq).1.ss.n (wasT tl c.cl c.sq).1.ss.c, .slice (wasT tl c.cl c.sq).1.ce.a (wasT tl c.cl c.sq).1.ce.n (wasT tl c.cl c.sq).1.ce.c, .slice (wasT tl c.cl c.sq).1.tb.a (wasT tl c.cl c.sq).1.tb.n (wasT tl c.cl c.sq).1.tb.c], .bool (wasT tl c.cl c.sq).2]) ∧ Below w.heap.size w w' := by
  obtain ⟨W1, hW1⟩ : ∃ W1, W1 = ((w.alloc (.cells #[.int .u64 c.cl, .int .u64 c.sq, .int .i64 c.kd, .int .u64 c.tx, .int .u64 c.ts, .bool c.fl, .int .u64 c.lk.l.tx, .int .i64 c.lk.l.lv, .int .i64 c.lk.l.md, .slice c.lk.la c.lk.ln c.lk.lc, .slice c.lk.ha c.lk.hn c.lk.hc, .slice c.lo.a c.lo.n c.lo.c, .slice c.hi.a c.hi.n c.hi.c, .slice c.txs.a c.txs.n c.txs.c, .slice c.ws.a c.ws.n c.ws.c, .slice c.ks.a c.ks.n c.ks.c, .int .i64 c.tb.id, .string (strB c.tb.nm), .slice c.tb.cs.a c.tb.cs.n c.tb.cs.c, .int .i64 c.tb.ky, .slice c.tb.ix.a c.tb.ix.n c.tb.ix.c] 50)).alloc (.cells #[.int .i64 0, .int .u64 0, .int .u64 0, .bool false, .slice none 0 0, .slice none 0 0, .slice none 0 0] 55)) := ⟨_, rfl⟩
  have hb1 : Below w.heap.size w W1 := by
    rw [hW1]
    exact (new_below w _).trans ((new_below _ _).mono (new_below w _).size)
  have hl1 : W1.heap.size = w.heap.size + 2 := by rw [hW1]; simp
  have HZ : Hid (∀ V, Below W1.heap.size W1 V → V.rangeAt (w.heap.size + 1) 0 [.int .i64 0, .int .u64 0, .int .u64 0, .bool false, .slice none 0 0, .slice none 0 0, .slice none 0 0] ∧ ∀ j, V.frozen? ⟨w.heap.size + 1, j, none⟩ = false) := by
    intro V hb
    refine ⟨?_, fun j => ?_⟩
    · subst hW1
      exact (two_boxes w #[.int .u64 c.cl, .int .u64 c.sq, .int .i64 c.kd, .int .u64 c.tx, .int .u64 c.ts, .bool c.fl, .int .u64 c.lk.l.tx, .int .i64 c.lk.l.lv, .int .i64 c.lk.l.md, .slice c.lk.la c.lk.ln c.lk.lc, .slice c.lk.ha c.lk.hn c.lk.hc, .slice c.lo.a c.lo.n c.lo.c, .slice c.hi.a c.hi.n c.hi.c, .slice c.txs.a c.txs.n c.txs.c, .slice c.ws.a c.ws.n c.ws.c, .slice c.ks.a c.ks.n c.ks.c, .int .i64 c.tb.id, .string (strB c.tb.nm), .slice c.tb.cs.a c.tb.cs.n c.tb.cs.c, .int .i64 c.tb.ky, .slice c.tb.ix.a c.tb.ix.n c.tb.ix.c] #[.int .i64 0, .int .u64 0, .int .u64 0, .bool false, .slice none 0 0, .slice none 0 0, .slice none 0 0] 50 55 V hb).2
    · rw [hb.frozen (p := ⟨w.heap.size + 1, j, none⟩) (by show w.heap.size + 1 < W1.heap.size; omega), hW1]
      have h := fzY_new (w.alloc (.cells #[.int .u64 c.cl, .int .u64 c.sq, .int .i64 c.kd, .int .u64 c.tx, .int .u64 c.ts, .bool c.fl, .int .u64 c.lk.l.tx, .int .i64 c.lk.l.lv, .int .i64 c.lk.l.md, .slice c.lk.la c.lk.ln c.lk.lc, .slice c.lk.ha c.lk.hn c.lk.hc, .slice c.lo.a c.lo.n c.lo.c, .slice c.hi.a c.hi.n c.hi.c, .slice c.txs.a c.txs.n c.txs.c, .slice c.ws.a c.ws.n c.ws.c, .slice c.ks.a c.ks.n c.ks.c, .int .i64 c.tb.id, .string (strB c.tb.nm), .slice c.tb.cs.a c.tb.cs.n c.tb.cs.c, .int .i64 c.tb.ky, .slice c.tb.ix.a c.tb.ix.n c.tb.ix.c] 50)) #[.int .i64 0, .int .u64 0, .int .u64 0, .bool false, .slice none 0 0, .slice none 0 0, .slice none 0 0] 55 j
      rwa [World.size_alloc] at h
  have HX : Hid (∀ V, Below W1.heap.size W1 V → V.cell? ⟨w.heap.size, 0, none⟩ = some (.int .u64 c.cl) ∧ V.cell? ⟨w.heap.size, 1, none⟩ = some (.int .u64 c.sq)) := by
    intro V hb
    subst hW1
    have h := (two_boxes w #[.int .u64 c.cl, .int .u64 c.sq, .int .i64 c.kd, .int .u64 c.tx, .int .u64 c.ts, .bool c.fl, .int .u64 c.lk.l.tx, .int .i64 c.lk.l.lv, .int .i64 c.lk.l.md, .slice c.lk.la c.lk.ln c.lk.lc, .slice c.lk.ha c.lk.hn c.lk.hc, .slice c.lo.a c.lo.n c.lo.c, .slice c.hi.a c.hi.n c.hi.c, .slice c.txs.a c.txs.n c.txs.c, .slice c.ws.a c.ws.n c.ws.c, .slice c.ks.a c.ks.n c.ks.c, .int .i64 c.tb.id, .string (strB c.tb.nm), .slice c.tb.cs.a c.tb.cs.n c.tb.cs.c, .int .i64 c.tb.ky, .slice c.tb.ix.a c.tb.ix.n c.tb.ix.c] #[.int .i64 0, .int .u64 0, .int .u64 0, .bool false, .slice none 0 0, .slice none 0 0, .slice none 0 0] 50 55 V hb).1
    exact ⟨h 0 _ rfl, h 1 _ rfl⟩
  have c1 : W1.cell? ⟨p, 0, none⟩ = some (.slice la ln lc) := (hb1.cell (p := ⟨p, 0, none⟩) hp).trans hc
  have HS := hide hs
  have HB1 := hide hb1
  have HL1 := hide hl1
  have hm : (ln : Int) ≤ 9223372036854775807 := by have := hs.2.1; have := hs.2.2.1; unfold maxLen at this; omega
  have hpw : ¬ w.heap.size = p := by omega
  have hpw2 : ¬ w.heap.size + 1 = p := by omega
  clear hc hs hb1 hl1
  go_enter Tryz.func29, Tryz.ntmps29
  go_upto_region 1 with fail
  rw [← hW1]
  clear hW1
  go_wp2
  clear c1
  go_loopg [13] ln (fun gk ix wr => ∃ k : Nat, gk = ln - k ∧ ix = .int .i64 k ∧ k ≤ ln ∧ (∀ (j : Nat) (t : MTo), j < k → tl[j]? = some t → hitT c.cl c.sq t = false) ∧ Below W1.heap.size W1 wr)
  case atStart => exact ⟨0, rfl, rfl, Nat.zero_le _, fun j t hj => absurd hj (by omega), Below.refl _ _⟩
  case round =>
    obtain ⟨k, rfl, rfl, hk, hT, hB⟩ := hrel
    have HT := hide hT
    have HB := hide hB
    have hwr := hB.size
    have HL : Hid (w.heap.size + 1 < wr.heap.size) := by show _ < _; have := HL1.out; omega
    clear hT hB hwr
    by_cases hlt : k < ln
    · have hltI : (k : Int) < (ln : Int) := by omega
      obtain ⟨t, ht⟩ := at_of HS.out.1 hlt
      obtain ⟨g1, o1, rfl, hg1, hC1⟩ := (HS.out.keep (HB1.out.trans (HB.out.mono HB1.out.size))).at hlt
      have HR1 : Hid (wr.rangeAt g1 (o1 + k * 9) (layTo.cells t)) := hC1 k t ht
      have HTk := hide ht
      obtain ⟨W2, hW2⟩ : ∃ W2, W2 = wr.alloc (.cells #[.int .u64 t.cl, .int .u64 t.sq, .int .i64 t.r.er, .int .u64 t.r.tx, .int .u64 t.r.ts, .bool t.r.fl, .slice t.r.ss.a t.r.ss.n t.r.ss.c, .slice t.r.ce.a t.r.ce.n t.r.ce.c, .slice t.r.tb.a t.r.tb.n t.r.tb.c] 156) := ⟨_, rfl⟩
      have hb2 : Below wr.heap.size wr W2 := by rw [hW2]; exact new_below _ _
      have hR2 : W2.rangeAt wr.heap.size 0 (layTo.cells t) := by rw [hW2]; exact rangeY_new wr wr.heap.size _ _ rfl
      have HB2 := hide (HB.out.trans (hb2.mono HB.out.size))
      have HR2 := hide hR2
      clear hC1 ht hb2 hR2
      go_upto_region 4 with (first
        | (refine wp_loadY layTo _ _ Tryz.underlying156 rfl rfl (.tmp 15) rfl g1 (o1 + k * 9) t #[.int .u64 t.cl, .int .u64 t.sq, .int .i64 t.r.er, .int .u64 t.r.tx, .int .u64 t.r.ts, .bool t.r.fl, .slice t.r.ss.a t.r.ss.n t.r.ss.c, .slice t.r.ce.a t.r.ce.n t.r.ce.c, .slice t.r.tb.a t.r.tb.n t.r.tb.c] rfl rfl HR1.out ?_)
        | (refine wp_newL layTo wr 156 rfl t #[.int .u64 t.cl, .int .u64 t.sq, .int .i64 t.r.er, .int .u64 t.r.tx, .int .u64 t.r.ts, .bool t.r.fl, .slice t.r.ss.a t.r.ss.n t.r.ss.c, .slice t.r.ce.a t.r.ce.n t.r.ce.c, .slice t.r.tb.a t.r.tb.n t.r.tb.c] rfl _ rfl rfl (.tmp 7) (.tmp 16) rfl rfl rfl ?_))
      rw [← hW2]
      clear hW2
      obtain ⟨x0, x1⟩ := HX.out W2 HB2.out
      have t0 : W2.cell? ⟨wr.heap.size, 0, none⟩ = some (.int .u64 t.cl) := HR2.out 0 _ rfl
      have t1 : W2.cell? ⟨wr.heap.size, 1, none⟩ = some (.int .u64 t.sq) := HR2.out 1 _ rfl
      have t2 : W2.cell? ⟨wr.heap.size, 2, none⟩ = some (.int .i64 t.r.er) := HR2.out 2 _ rfl
      have t3 : W2.cell? ⟨wr.heap.size, 3, none⟩ = some (.int .u64 t.r.tx) := HR2.out 3 _ rfl
      have t4 : W2.cell? ⟨wr.heap.size, 4, none⟩ = some (.int .u64 t.r.ts) := HR2.out 4 _ rfl
      have t5 : W2.cell? ⟨wr.heap.size, 5, none⟩ = some (.bool t.r.fl) := HR2.out 5 _ rfl
      have t6 : W2.cell? ⟨wr.heap.size, 6, none⟩ = some (.slice t.r.ss.a t.r.ss.n t.r.ss.c) := HR2.out 6 _ rfl
      have t7 : W2.cell? ⟨wr.heap.size, 7, none⟩ = some (.slice t.r.ce.a t.r.ce.n t.r.ce.c) := HR2.out 7 _ rfl
      have t8 : W2.cell? ⟨wr.heap.size, 8, none⟩ = some (.slice t.r.tb.a t.r.tb.n t.r.tb.c) := HR2.out 8 _ rfl
      by_cases h0 : c.cl = 0
      · have d0 : (c.cl == 0) = true := by simpa using h0
        have d1 : decide (c.cl = 0) = true := by simpa using h0
        have HH : Hid (hitT c.cl c.sq t = false) := by
          show _ = _
          unfold hitT
          simp [h0]
        clear h0
        go_wp2
        go_roundg (ln - (k + 1))
        case measure => omega
        case rel => exact ⟨k + 1, rfl, by go_num, by omega, fun j u hj hu => (by
          by_cases hjk : j < k
          · exact HT.out j u hjk hu
          · obtain rfl : j = k := by omega
            rw [HTk.out] at hu
            cases hu
            exact HH.out), HB2.out⟩
      · have d0 : (c.cl == 0) = false := by simpa using h0
        have d1 : decide (c.cl = 0) = false := by simpa using h0
        by_cases h1 : t.cl = c.cl
        · have e0 : (t.cl == c.cl) = true := by simpa using h1
          have e1 : decide (t.cl = c.cl) = true := by simpa using h1
          have e2 : (t.cl != c.cl) = false := by simpa using h1
          by_cases h2 : t.sq < c.sq
          · have f0 : decide (t.sq < c.sq) = true := by simpa using h2
            have HH : Hid (hitT c.cl c.sq t = false) := by
              show _ = _
              unfold hitT
              have : ¬ c.sq ≤ t.sq := by omega
              simp [this]
            have HK2 := hide h2
            clear h0 h1 h2
            go_wp2
            go_roundg (ln - (k + 1))
            case measure => omega
            case rel => exact ⟨k + 1, rfl, by go_num, by omega, fun j u hj hu => (by
              by_cases hjk : j < k
              · exact HT.out j u hjk hu
              · obtain rfl : j = k := by omega
                rw [HTk.out] at hu
                cases hu
                exact HH.out), HB2.out⟩
          · have f0 : decide (t.sq < c.sq) = false := by simpa using h2
            have HHit : Hid (hitT c.cl c.sq t = true) := by
              show _ = _
              unfold hitT
              have : c.sq ≤ t.sq := by omega
              simp [this, h0, h1]
            have HFd := hide (find_hit HT.out HTk.out HHit.out)
            obtain ⟨z, zf⟩ := HZ.out W2 HB2.out
            have z0 : W2.cell? ⟨w.heap.size + 1, 0, none⟩ = some (.int .i64 0) := z 0 _ rfl
            have z1 : W2.cell? ⟨w.heap.size + 1, 1, none⟩ = some (.int .u64 0) := z 1 _ rfl
            have z2 : W2.cell? ⟨w.heap.size + 1, 2, none⟩ = some (.int .u64 0) := z 2 _ rfl
            have z3 : W2.cell? ⟨w.heap.size + 1, 3, none⟩ = some (.bool false) := z 3 _ rfl
            have z4 : W2.cell? ⟨w.heap.size + 1, 4, none⟩ = some (.slice none 0 0) := z 4 _ rfl
            have z5 : W2.cell? ⟨w.heap.size + 1, 5, none⟩ = some (.slice none 0 0) := z 5 _ rfl
            have z6 : W2.cell? ⟨w.heap.size + 1, 6, none⟩ = some (.slice none 0 0) := z 6 _ rfl
            have g0 := zf 0
            have g1 := zf 1
            have g2 := zf 2
            have g3 := zf 3
            have g4 := zf 4
            have g5 := zf 5
            have g6 := zf 6
            clear z zf
            by_cases h3 : t.sq = c.sq
            · have k0 : (t.sq == c.sq) = true := by simpa using h3
              have k1 : decide (t.sq = c.sq) = true := by simpa using h3
              have HF : Hid (wasT tl c.cl c.sq = (t.r, true)) := by
                show _ = _
                unfold wasT
                rw [HFd.out]
                exact if_pos h3
              clear h0 h1 h2 h3
              go_wp2
              change bodyPost _ _ _ _ _ (W2.setCells (w.heap.size + 1) 0 [.int .i64 t.r.er, .int .u64 t.r.tx, .int .u64 t.r.ts, .bool t.r.fl, .slice t.r.ss.a t.r.ss.n t.r.ss.c, .slice t.r.ce.a t.r.ce.n t.r.ce.c, .slice t.r.tb.a t.r.tb.n t.r.tb.c])
              have hr := box_set (V := W2) (b := w.heap.size + 1) (new := [.int .i64 t.r.er, .int .u64 t.r.tx, .int .u64 t.r.ts, .bool t.r.fl, .slice t.r.ss.a t.r.ss.n t.r.ss.c, .slice t.r.ce.a t.r.ce.n t.r.ce.c, .slice t.r.tb.a t.r.tb.n t.r.tb.c]) (HZ.out W2 HB2.out).1 (Nat.le_refl _) (HZ.out W2 HB2.out).2
              have r0 := hr 0 _ rfl
              have r1 := hr 1 _ rfl
              have r2 := hr 2 _ rfl
              have r3 := hr 3 _ rfl
              have r4 := hr 4 _ rfl
              have r5 := hr 5 _ rfl
              have r6 := hr 6 _ rfl
              have hbe := box_below (l := [.int .i64 t.r.er, .int .u64 t.r.tx, .int .u64 t.r.ts, .bool t.r.fl, .slice t.r.ss.a t.r.ss.n t.r.ss.c, .slice t.r.ce.a t.r.ce.n t.r.ce.c, .slice t.r.tb.a t.r.tb.n t.r.tb.c]) (HB1.out.trans ((HB2.out).mono HB1.out.size)) (show w.heap.size ≤ w.heap.size + 1 by omega)
              clear hr
              generalize W2.setCells (w.heap.size + 1) 0 [.int .i64 t.r.er, .int .u64 t.r.tx, .int .u64 t.r.ts, .bool t.r.fl, .slice t.r.ss.a t.r.ss.n t.r.ss.c, .slice t.r.ce.a t.r.ce.n t.r.ce.c, .slice t.r.tb.a t.r.tb.n t.r.tb.c] = W at *
              refine bodyPost_ret (v := .tuple #[.agg #[.int .i64 t.r.er, .int .u64 t.r.tx, .int .u64 t.r.ts, .bool t.r.fl, .slice t.r.ss.a t.r.ss.n t.r.ss.c, .slice t.r.ce.a t.r.ce.n t.r.ce.c, .slice t.r.tb.a t.r.tb.n t.r.tb.c], .bool true]) (by simp [results, Tryz.results29, go_sem, r0, r1, r2, r3, r4, r5, r6]) rfl ⟨by rw [HF.out] <;> rfl, hbe⟩
            · have k0 : (t.sq == c.sq) = false := by simpa using h3
              have k1 : decide (t.sq = c.sq) = false := by simpa using h3
              have HF : Hid (wasT tl c.cl c.sq = (resR 1, true)) := by
                show _ = _
                unfold wasT
                rw [HFd.out]
                exact if_neg h3
              clear h0 h1 h2 h3
              go_wp2
              change bodyPost _ _ _ _ _ (W2.setCells (w.heap.size + 1) 0 [.int .i64 1, .int .u64 0, .int .u64 0, .bool false, .slice none 0 0, .slice none 0 0, .slice none 0 0])
              have hr := box_set (V := W2) (b := w.heap.size + 1) (new := [.int .i64 1, .int .u64 0, .int .u64 0, .bool false, .slice none 0 0, .slice none 0 0, .slice none 0 0]) (HZ.out W2 HB2.out).1 (Nat.le_refl _) (HZ.out W2 HB2.out).2
              have r0 := hr 0 _ rfl
              have r1 := hr 1 _ rfl
              have r2 := hr 2 _ rfl
              have r3 := hr 3 _ rfl
              have r4 := hr 4 _ rfl
              have r5 := hr 5 _ rfl
              have r6 := hr 6 _ rfl
              have hbe := box_below (l := [.int .i64 1, .int .u64 0, .int .u64 0, .bool false, .slice none 0 0, .slice none 0 0, .slice none 0 0]) (HB1.out.trans ((HB2.out).mono HB1.out.size)) (show w.heap.size ≤ w.heap.size + 1 by omega)
              clear hr
              generalize W2.setCells (w.heap.size + 1) 0 [.int .i64 1, .int .u64 0, .int .u64 0, .bool false, .slice none 0 0, .slice none 0 0, .slice none 0 0] = W at *
              refine bodyPost_ret (v := .tuple #[.agg #[.int .i64 1, .int .u64 0, .int .u64 0, .bool false, .slice none 0 0, .slice none 0 0, .slice none 0 0], .bool true]) (by simp [results, Tryz.results29, go_sem, r0, r1, r2, r3, r4, r5, r6]) rfl ⟨by rw [HF.out] <;> rfl, hbe⟩
        · have e0 : (t.cl == c.cl) = false := by simpa using h1
          have e1 : decide (t.cl = c.cl) = false := by simpa using h1
          have e2 : (t.cl != c.cl) = true := by simpa using h1
          have HH : Hid (hitT c.cl c.sq t = false) := by
            show _ = _
            unfold hitT
            simp [e0]
          clear h0 h1
          go_wp2
          go_roundg (ln - (k + 1))
          case measure => omega
          case rel => exact ⟨k + 1, rfl, by go_num, by omega, fun j u hj hu => (by
            by_cases hjk : j < k
            · exact HT.out j u hjk hu
            · obtain rfl : j = k := by omega
              rw [HTk.out] at hu
              cases hu
              exact HH.out), HB2.out⟩
    · obtain rfl : k = ln := by omega
      have HF : Hid (wasT tl c.cl c.sq = (resR 0, false)) := by
        show _ = _
        unfold wasT
        rw [find_no (fun j u hj hu => HT.out j u (by rw [HS.out.1] at hj; exact hj) hu)]
      obtain ⟨z, zf⟩ := HZ.out wr HB.out
      have z0 : wr.cell? ⟨w.heap.size + 1, 0, none⟩ = some (.int .i64 0) := z 0 _ rfl
      have z1 : wr.cell? ⟨w.heap.size + 1, 1, none⟩ = some (.int .u64 0) := z 1 _ rfl
      have z2 : wr.cell? ⟨w.heap.size + 1, 2, none⟩ = some (.int .u64 0) := z 2 _ rfl
      have z3 : wr.cell? ⟨w.heap.size + 1, 3, none⟩ = some (.bool false) := z 3 _ rfl
      have z4 : wr.cell? ⟨w.heap.size + 1, 4, none⟩ = some (.slice none 0 0) := z 4 _ rfl
      have z5 : wr.cell? ⟨w.heap.size + 1, 5, none⟩ = some (.slice none 0 0) := z 5 _ rfl
      have z6 : wr.cell? ⟨w.heap.size + 1, 6, none⟩ = some (.slice none 0 0) := z 6 _ rfl
      have g0 := zf 0
      have g1 := zf 1
      have g2 := zf 2
      have g3 := zf 3
      have g4 := zf 4
      have g5 := zf 5
      have g6 := zf 6
      clear z zf
      go_wp2
      change bodyPost _ _ _ _ _ (wr.setCells (w.heap.size + 1) 0 [.int .i64 0, .int .u64 0, .int .u64 0, .bool false, .slice none 0 0, .slice none 0 0, .slice none 0 0])
      have hr := box_set (V := wr) (b := w.heap.size + 1) (new := [.int .i64 0, .int .u64 0, .int .u64 0, .bool false, .slice none 0 0, .slice none 0 0, .slice none 0 0]) (HZ.out wr HB.out).1 (Nat.le_refl _) (HZ.out wr HB.out).2
      have r0 := hr 0 _ rfl
      have r1 := hr 1 _ rfl
      have r2 := hr 2 _ rfl
      have r3 := hr 3 _ rfl
      have r4 := hr 4 _ rfl
      have r5 := hr 5 _ rfl
      have r6 := hr 6 _ rfl
      have hbe := box_below (l := [.int .i64 0, .int .u64 0, .int .u64 0, .bool false, .slice none 0 0, .slice none 0 0, .slice none 0 0]) (HB1.out.trans ((HB.out).mono HB1.out.size)) (show w.heap.size ≤ w.heap.size + 1 by omega)
      clear hr
      generalize wr.setCells (w.heap.size + 1) 0 [.int .i64 0, .int .u64 0, .int .u64 0, .bool false, .slice none 0 0, .slice none 0 0, .slice none 0 0] = W at *
      refine bodyPost_ret (v := .tuple #[.agg #[.int .i64 0, .int .u64 0, .int .u64 0, .bool false, .slice none 0 0, .slice none 0 0, .slice none 0 0], .bool false]) (by simp [results, Tryz.results29, go_sem, r0, r1, r2, r3, r4, r5, r6]) rfl ⟨by rw [HF.out] <;> rfl, hbe⟩

end Go.Proofs.YtcgiicmmfleinaaGreatDoor

namespace Go.Proofs.YtcgiicmmfleinaaGreatDoor
open Go.RowKit NumMath Go.ChangeShapes Go.WideShapes Go.Deep
set_option linter.unusedVariables false
set_option maxRecDepth 100000

/-- what clients were told, and this one -/
def noteT (tl : List MTo) (cl sq : Int) (r : MRr) : List MTo := tl.filter (fun t => t.cl != cl) ++ (if cl = 0 then [] else [⟨cl, sq, r⟩])

theorem filt_more {α : Type} {l : List α} {k : Nat} {m : α} (p : α → Bool) (h : l[k]? = some m) : (l.take (k + 1)).filter p = (l.take k).filter p ++ (if p m = true then [m] else []) := by
  rw [List.take_add_one, h, List.filter_append]
  congr 1
  by_cases hp : p m = true
  · simp [hp]
  · simp [hp]

set_option maxHeartbeats 4000000 in
theorem xnote_any (p : Nat) (la : Option Addr) (ln lc : Nat) (tl : List MTo) (c : MCmd) (r : MRr) (w : World) (hp : p < w.heap.size) (hc : w.cell? ⟨p, 0, none⟩ = some (.slice la ln lc)) (hf : w.frozen? ⟨p, 0, none⟩ = false) (hs : IsY layTo w la ln lc tl) (hb : ln ≤ 100000) :
    Calls Tryz.prog 31 #[.pointer (some ⟨p, 0, none⟩), .agg #[.int .u64 c.cl, .int .u64 c.sq, .int .i64 c.kd, .int .u64 c.tx, .int .u64 c.ts, .bool c.fl, .int .u64 c.lk.l.tx, .int .i64 c.lk.l.lv, .int .i64 c.lk.l.md, .slice c.lk.la c.lk.ln c.lk.lc, .slice c.lk.ha c.lk.hn c.lk.hc, .slice c.lo.a c.lo.n c.lo.c, .slice c.hi.a c.hi.n c.hi.c, .slice c.txs.a c.txs.n c.txs.c, .slice c.ws.a c.ws.n c.ws.c, .slice c.ks.a c.ks.n c.ks.c, .int .i64 c.tb.id, .string (strB c.tb.nm), .slice c.tb.cs.a c.tb.cs.n c.tb.cs.c, .int .i64 c.tb.ky, .slice c.tb.ix.a c.tb.ix.n c.tb.ix.c], .agg #[.int .i64 r.er, .int .u64 r.tx, .int .u64 r.ts, .bool r.fl, .slice r.ss.a r.ss.n r.ss.c, .slice r.ce.a r.ce.n r.ce.c, .slice r.tb.a r.tb.n r.tb.c]] w fun e w' => ∃ v, e = .returned (.tuple #[]) ∧ TxQ layTo w p 0 (noteT tl c.cl c.sq r) w' v := by
  obtain ⟨W1, hW1⟩ : ∃ W1, W1 = ((w.alloc (.cells #[.int .u64 c.cl, .int .u64 c.sq, .int .i64 c.kd, .int .u64 c.tx, .int .u64 c.ts, .bool c.fl, .int .u64 c.lk.l.tx, .int .i64 c.lk.l.lv, .int .i64 c.lk.l.md, .slice c.lk.la c.lk.ln c.lk.lc, .slice c.lk.ha c.lk.hn c.lk.hc, .slice c.lo.a c.lo.n c.lo.c, .slice c.hi.a c.hi.n c.hi.c, .slice c.txs.a c.txs.n c.txs.c, .slice c.ws.a c.ws.n c.ws.c, .slice c.ks.a c.ks.n c.ks.c, .int .i64 c.tb.id, .string (strB c.tb.nm), .slice c.tb.cs.a c.tb.cs.n c.tb.cs.c, .int .i64 c.tb.ky, .slice c.tb.ix.a c.tb.ix.n c.tb.ix.c] 50)).alloc (.cells #[.int .i64 r.er, .int .u64 r.tx, .int .u64 r.ts, .bool r.fl, .slice r.ss.a r.ss.n r.ss.c, .slice r.ce.a r.ce.n r.ce.c, .slice r.tb.a r.tb.n r.tb.c] 55)) := ⟨_, rfl⟩
  have hb1 : Below w.heap.size w W1 := by
    rw [hW1]
    exact (new_below w _).trans ((new_below _ _).mono (new_below w _).size)
  have hl1 : W1.heap.size = w.heap.size + 2 := by rw [hW1]; simp
  have HX : Hid (∀ V, Below W1.heap.size W1 V → (V.cell? ⟨w.heap.size, 0, none⟩ = some (.int .u64 c.cl) ∧ V.cell? ⟨w.heap.size, 1, none⟩ = some (.int .u64 c.sq)) ∧ V.rangeAt (w.heap.size + 1) 0 #[.int .i64 r.er, .int .u64 r.tx, .int .u64 r.ts, .bool r.fl, .slice r.ss.a r.ss.n r.ss.c, .slice r.ce.a r.ce.n r.ce.c, .slice r.tb.a r.tb.n r.tb.c].toList) := by
    intro V hb
    subst hW1
    have h := (two_boxes w #[.int .u64 c.cl, .int .u64 c.sq, .int .i64 c.kd, .int .u64 c.tx, .int .u64 c.ts, .bool c.fl, .int .u64 c.lk.l.tx, .int .i64 c.lk.l.lv, .int .i64 c.lk.l.md, .slice c.lk.la c.lk.ln c.lk.lc, .slice c.lk.ha c.lk.hn c.lk.hc, .slice c.lo.a c.lo.n c.lo.c, .slice c.hi.a c.hi.n c.hi.c, .slice c.txs.a c.txs.n c.txs.c, .slice c.ws.a c.ws.n c.ws.c, .slice c.ks.a c.ks.n c.ks.c, .int .i64 c.tb.id, .string (strB c.tb.nm), .slice c.tb.cs.a c.tb.cs.n c.tb.cs.c, .int .i64 c.tb.ky, .slice c.tb.ix.a c.tb.ix.n c.tb.ix.c] #[.int .i64 r.er, .int .u64 r.tx, .int .u64 r.ts, .bool r.fl, .slice r.ss.a r.ss.n r.ss.c, .slice r.ce.a r.ce.n r.ce.c, .slice r.tb.a r.tb.n r.tb.c] 50 55 V hb)
    exact ⟨⟨h.1 0 _ rfl, h.1 1 _ rfl⟩, h.2⟩
  have c1 : W1.cell? ⟨p, 0, none⟩ = some (.slice la ln lc) := (hb1.cell (p := ⟨p, 0, none⟩) hp).trans hc
  have HC := hide hc
  have HSome : Hid ((w.cell? ⟨p, 0, none⟩).isSome = true) := by show _ = _; rw [hc]; rfl
  have HFz := hide hf
  have HS := hide hs
  have HB1 := hide hb1
  have HL1 := hide hl1
  have hm : (ln : Int) ≤ 9223372036854775807 := by omega
  have hpw : ¬ w.heap.size = p := by omega
  have hpw2 : ¬ w.heap.size + 1 = p := by omega
  clear hc hs hb1 hl1 hf
  go_enter Tryz.func31, Tryz.ntmps31
  go_upto_region 1 with fail
  rw [← hW1]
  clear hW1
  go_wp2
  clear c1
  go_loopg [6, 14] ln (fun gk v ix wr => ∃ k : Nat, gk = ln - k ∧ ix = .int .i64 k ∧ k ≤ ln ∧ OwnY layTo wr W1.heap.size v ((tl.take k).filter (fun (t : MTo) => t.cl != c.cl)) ∧ Below W1.heap.size W1 wr)
  case atStart => exact ⟨0, rfl, rfl, Nat.zero_le _, ownY_nil _ _, Below.refl _ _⟩
  case round =>
    obtain ⟨k, rfl, rfl, hk, hO, hB⟩ := hrel
    obtain ⟨va, vn, vc, rfl⟩ := hO.any3
    have HO := hide hO
    have HB := hide hB
    have hwr := hB.size
    clear hO hB
    by_cases hlt : k < ln
    · have hltI : (k : Int) < (ln : Int) := by omega
      obtain ⟨t, ht⟩ := at_of HS.out.1 hlt
      obtain ⟨g1, o1, rfl, hg1, hC1⟩ := (HS.out.keep (HB1.out.trans (HB.out.mono HB1.out.size))).at hlt
      have HR1 : Hid (wr.rangeAt g1 (o1 + k * 9) (layTo.cells t)) := hC1 k t ht
      have HFm := hide (filt_more (fun (t : MTo) => t.cl != c.cl) ht)
      obtain ⟨W2, hW2⟩ : ∃ W2, W2 = wr.alloc (.cells #[.int .u64 t.cl, .int .u64 t.sq, .int .i64 t.r.er, .int .u64 t.r.tx, .int .u64 t.r.ts, .bool t.r.fl, .slice t.r.ss.a t.r.ss.n t.r.ss.c, .slice t.r.ce.a t.r.ce.n t.r.ce.c, .slice t.r.tb.a t.r.tb.n t.r.tb.c] 156) := ⟨_, rfl⟩
      have hb2 : Below wr.heap.size wr W2 := by rw [hW2]; exact new_below _ _
      have hR2 : W2.rangeAt wr.heap.size 0 (layTo.cells t) := by rw [hW2]; exact rangeY_new wr wr.heap.size _ _ rfl
      have HB2 := hide (HB.out.trans (hb2.mono HB.out.size))
      have HR2 := hide hR2
      have HOb := hide (HO.out.keep hb2)
      have hs2 : W1.heap.size ≤ W2.heap.size := HB2.out.size
      obtain ⟨W3, hW3⟩ : ∃ W3, W3 = W2.alloc (.cells #[.int .u64 t.cl, .int .u64 t.sq, .int .i64 t.r.er, .int .u64 t.r.tx, .int .u64 t.r.ts, .bool t.r.fl, .slice t.r.ss.a t.r.ss.n t.r.ss.c, .slice t.r.ce.a t.r.ce.n t.r.ce.c, .slice t.r.tb.a t.r.tb.n t.r.tb.c] 156) := ⟨_, rfl⟩
      have hb3 : Below W2.heap.size W2 W3 := by rw [hW3]; exact new_below _ _
      have HSr : Hid (SrcY layTo W3 (some ⟨W2.heap.size, 0, none⟩) 1 [t]) := by
        show SrcY _ _ _ _ _
        rw [hW3]
        exact (ownY_one (L := layTo) W2 W2.heap.size #[.int .u64 t.cl, .int .u64 t.sq, .int .i64 t.r.er, .int .u64 t.r.tx, .int .u64 t.r.ts, .bool t.r.fl, .slice t.r.ss.a t.r.ss.n t.r.ss.c, .slice t.r.ce.a t.r.ce.n t.r.ce.c, .slice t.r.tb.a t.r.tb.n t.r.tb.c] t (Nat.le_refl _) rfl).is.src
      have HO3 := hide (HOb.out.keep hb3)
      have HB3 := hide (HB2.out.trans (hb3.mono HB2.out.size))
      have HBl : Hid (W1.heap.size ≤ W3.heap.size) := HB3.out.size
      have HBig : Hid (((tl.take k).filter (fun (t : MTo) => t.cl != c.cl)).length + [t].length ≤ 1000000000) := by
        show _ ≤ _
        have := List.length_filter_le (fun (t : MTo) => t.cl != c.cl) (tl.take k)
        rw [List.length_take] at this
        simp only [List.length_singleton]; omega
      have HW3 := hide hW3
      clear hC1 ht hb2 hR2 hW3 hb3 hs2 hwr
      go_upto_region 5 with (first
        | (refine wp_loadY layTo _ _ Tryz.underlying156 rfl rfl (.tmp 16) rfl g1 (o1 + k * 9) t #[.int .u64 t.cl, .int .u64 t.sq, .int .i64 t.r.er, .int .u64 t.r.tx, .int .u64 t.r.ts, .bool t.r.fl, .slice t.r.ss.a t.r.ss.n t.r.ss.c, .slice t.r.ce.a t.r.ce.n t.r.ce.c, .slice t.r.tb.a t.r.tb.n t.r.tb.c] rfl rfl HR1.out ?_)
        | (refine wp_newL layTo wr 156 rfl t #[.int .u64 t.cl, .int .u64 t.sq, .int .i64 t.r.er, .int .u64 t.r.tx, .int .u64 t.r.ts, .bool t.r.fl, .slice t.r.ss.a t.r.ss.n t.r.ss.c, .slice t.r.ce.a t.r.ce.n t.r.ce.c, .slice t.r.tb.a t.r.tb.n t.r.tb.c] rfl _ rfl rfl (.tmp 8) (.tmp 17) rfl rfl rfl ?_))
      rw [← hW2]
      clear hW2
      obtain ⟨⟨x0, x1⟩, -⟩ := HX.out W2 HB2.out
      have t0 : W2.cell? ⟨wr.heap.size, 0, none⟩ = some (.int .u64 t.cl) := HR2.out 0 _ rfl
      by_cases h1 : t.cl = c.cl
      · have e0 : (t.cl == c.cl) = true := by simpa using h1
        have e1 : decide (t.cl = c.cl) = true := by simpa using h1
        have e2 : (t.cl != c.cl) = false := by simpa using h1
        have HF2 : Hid ((tl.take (k + 1)).filter (fun (t : MTo) => t.cl != c.cl) = (tl.take k).filter (fun (t : MTo) => t.cl != c.cl)) := by
          show _ = _
          rw [HFm.out, if_neg (by simp [h1])]
          simp
        clear h1
        go_wp2
        go_roundg (ln - (k + 1))
        case measure => omega
        case rel => exact ⟨k + 1, rfl, by go_num, by omega, by rw [HF2.out]; exact HOb.out, HB2.out⟩
      · have e0 : (t.cl == c.cl) = false := by simpa using h1
        have e1 : decide (t.cl = c.cl) = false := by simpa using h1
        have e2 : (t.cl != c.cl) = true := by simpa using h1
        have HF2 : Hid ((tl.take (k + 1)).filter (fun (t : MTo) => t.cl != c.cl) = (tl.take k).filter (fun (t : MTo) => t.cl != c.cl) ++ [t]) := by
          show _ = _
          rw [HFm.out, if_pos (by simp [h1])]
        clear h1
        go_wp2_with (first
          | (at_builtin; (try rw [← HW3.out]); go_must (refine wp_joinY layTo _ rfl (.tmp 23) (.tmp 25) rfl W1.heap.size _ ((tl.take k).filter (fun (t : MTo) => t.cl != c.cl)) rfl HO3.out (some ⟨W2.heap.size, 0, none⟩) 1 1 [t] rfl HSr.out HBig.out HBl.out ?_); intro v5 w5 hown5 hg5 hat5; have HO5 := hide hown5; have HB5 := hide (HO3.out.grown hg5 HBl.out); obtain ⟨xa, xn, xc, rfl⟩ := hown5.any3; clear hown5 hg5 hat5)
          | (refine wp_loadY layTo _ _ Tryz.underlying156 rfl rfl (.tmp 8) rfl wr.heap.size 0 t #[.int .u64 t.cl, .int .u64 t.sq, .int .i64 t.r.er, .int .u64 t.r.tx, .int .u64 t.r.ts, .bool t.r.fl, .slice t.r.ss.a t.r.ss.n t.r.ss.c, .slice t.r.ce.a t.r.ce.n t.r.ce.c, .slice t.r.tb.a t.r.tb.n t.r.tb.c] rfl rfl HR2.out ?_))
        go_roundg (ln - (k + 1))
        case measure => omega
        case rel => exact ⟨k + 1, rfl, by go_num, by omega, by rw [HF2.out]; exact HO5.out, HB3.out.trans HB5.out⟩
    · obtain rfl : k = ln := by omega
      have ek : tl.take k = tl := List.take_of_length_le (by rw [HS.out.1]; exact Nat.le_refl _)
      have HO2 : Hid (OwnY layTo wr W1.heap.size (.slice va vn vc) (tl.filter (fun (t : MTo) => t.cl != c.cl))) := by
        have h := HO.out
        rw [ek] at h
        exact h
      have HBw := hide (HB1.out.trans (HB.out.mono HB1.out.size))
      obtain ⟨⟨x0, x1⟩, hr⟩ := HX.out wr HB.out
      have r0 : wr.cell? ⟨w.heap.size + 1, 0, none⟩ = some (.int .i64 r.er) := hr 0 _ rfl
      have r1 : wr.cell? ⟨w.heap.size + 1, 1, none⟩ = some (.int .u64 r.tx) := hr 1 _ rfl
      have r2 : wr.cell? ⟨w.heap.size + 1, 2, none⟩ = some (.int .u64 r.ts) := hr 2 _ rfl
      have r3 : wr.cell? ⟨w.heap.size + 1, 3, none⟩ = some (.bool r.fl) := hr 3 _ rfl
      have r4 : wr.cell? ⟨w.heap.size + 1, 4, none⟩ = some (.slice r.ss.a r.ss.n r.ss.c) := hr 4 _ rfl
      have r5 : wr.cell? ⟨w.heap.size + 1, 5, none⟩ = some (.slice r.ce.a r.ce.n r.ce.c) := hr 5 _ rfl
      have r6 : wr.cell? ⟨w.heap.size + 1, 6, none⟩ = some (.slice r.tb.a r.tb.n r.tb.c) := hr 6 _ rfl
      clear hr HO ek
      by_cases h0 : c.cl = 0
      · have d0 : (c.cl == 0) = true := by simpa using h0
        have d1 : decide (c.cl = 0) = true := by simpa using h0
        have d2 : (c.cl != 0) = false := by simpa using h0
        have HNt : Hid (noteT tl c.cl c.sq r = tl.filter (fun (t : MTo) => t.cl != c.cl)) := by
          show _ = _
          unfold noteT
          rw [if_pos h0, List.append_nil]
        have cw : wr.cell? ⟨p, 0, none⟩ = some (.slice la k lc) := (HBw.out.cell (p := ⟨p, 0, none⟩) hp).trans HC.out
        have fw : wr.frozen? ⟨p, 0, none⟩ = false := (HBw.out.frozen (p := ⟨p, 0, none⟩) hp).trans HFz.out
        clear h0
        go_wp2
        go_end0
        refine ⟨.slice va vn vc, rfl, ?_⟩
        rw [HNt.out]
        exact txQ_set HBw.out hp (HO2.out.mono HB1.out.size) HSome.out
      · have d0 : (c.cl == 0) = false := by simpa using h0
        have d1 : decide (c.cl = 0) = false := by simpa using h0
        have d2 : (c.cl != 0) = true := by simpa using h0
        have HNt : Hid (noteT tl c.cl c.sq r = tl.filter (fun (t : MTo) => t.cl != c.cl) ++ [⟨c.cl, c.sq, r⟩]) := by
          show _ = _
          unfold noteT
          rw [if_neg h0]
        obtain ⟨W3, hW3⟩ : ∃ W3, W3 = wr.alloc (.cells #[.int .u64 c.cl, .int .u64 c.sq, .int .i64 r.er, .int .u64 r.tx, .int .u64 r.ts, .bool r.fl, .slice r.ss.a r.ss.n r.ss.c, .slice r.ce.a r.ce.n r.ce.c, .slice r.tb.a r.tb.n r.tb.c] 156) := ⟨_, rfl⟩
        have hb3 : Below wr.heap.size wr W3 := by rw [hW3]; exact new_below _ _
        have HSr : Hid (SrcY layTo W3 (some ⟨wr.heap.size, 0, none⟩) 1 [(⟨c.cl, c.sq, r⟩ : MTo)]) := by
          show SrcY _ _ _ _ _
          rw [hW3]
          exact (ownY_one (L := layTo) wr wr.heap.size #[.int .u64 c.cl, .int .u64 c.sq, .int .i64 r.er, .int .u64 r.tx, .int .u64 r.ts, .bool r.fl, .slice r.ss.a r.ss.n r.ss.c, .slice r.ce.a r.ce.n r.ce.c, .slice r.tb.a r.tb.n r.tb.c] ⟨c.cl, c.sq, r⟩ (Nat.le_refl _) rfl).is.src
        have HO3 := hide (HO2.out.keep hb3)
        have HB3 := hide (HB.out.trans (hb3.mono HB.out.size))
        have HBl : Hid (W1.heap.size ≤ W3.heap.size) := HB3.out.size
        have HBig : Hid ((tl.filter (fun (t : MTo) => t.cl != c.cl)).length + [(⟨c.cl, c.sq, r⟩ : MTo)].length ≤ 1000000000) := by
          show _ ≤ _
          have := List.length_filter_le (fun (t : MTo) => t.cl != c.cl) tl
          have := HS.out.1
          simp only [List.length_singleton]; omega
        have HW3 := hide hW3
        clear h0 hW3 hb3
        go_upto_region 10 with (first
          | (at_builtin; (try rw [← HW3.out]); go_must (refine wp_joinY layTo _ rfl (.tmp 31) (.tmp 38) rfl W1.heap.size _ (tl.filter (fun (t : MTo) => t.cl != c.cl)) rfl HO3.out (some ⟨wr.heap.size, 0, none⟩) 1 1 [⟨c.cl, c.sq, r⟩] rfl HSr.out HBig.out HBl.out ?_); intro v5 w5 hown5 hg5 hat5; have HO5 := hide hown5; have HB5 := hide (HO3.out.grown hg5 HBl.out); obtain ⟨xa, xn, xc, rfl⟩ := hown5.any3; clear hown5 hg5 hat5))
        have HBv := hide (HB1.out.trans ((HB3.out.trans HB5.out).mono HB1.out.size))
        have cw : w5.cell? ⟨p, 0, none⟩ = some (.slice la k lc) := (HBv.out.cell (p := ⟨p, 0, none⟩) hp).trans HC.out
        have fw : w5.frozen? ⟨p, 0, none⟩ = false := (HBv.out.frozen (p := ⟨p, 0, none⟩) hp).trans HFz.out
        clear x0 x1 r0 r1 r2 r3 r4 r5 r6
        go_wp2
        go_end0
        refine ⟨.slice xa xn xc, rfl, ?_⟩
        rw [HNt.out]
        exact txQ_set HBv.out hp (HO5.out.mono HB1.out.size) HSome.out

end Go.Proofs.YtcgiicmmfleinaaGreatDoor
