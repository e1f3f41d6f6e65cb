/- The law MetaAgain. Printed by part/gen_mqj.py. -/
import Derived.Test.YtcgiicmmfleinaaGreatDoorMeP
import Derived.Test.YtcgiicmmfleinaaGreatDoorMrB
namespace Go.Proofs.YtcgiicmmfleinaaGreatDoor
open Go.RowKit NumMath Go.ChangeShapes Go.WideShapes Go.Deep
set_option linter.unusedVariables false
set_option maxRecDepth 100000

/-- a machine's result, as a law has it -/
def MRes.R (m : MRes) : MRr := ⟨m.er, m.tx, m.ts, m.fl, ⟨m.sa, m.sn, m.sc, m.ss⟩, ⟨none, 0, 0, []⟩, ⟨m.ta, m.tn, m.tc, m.tbs⟩⟩

theorem MRes.R_ok {m : MRes} {w : World} (h : m.ok w) : m.R.ok w := ⟨h.s, isY_nil w, h.t, by simp [MRes.R], h.k⟩

/-- a table, as results are held against each other -/
def Tbl.b (t : Tbl) : TbP := (t.id, (strB t.nm).toList, t.cs.map Colm.b, t.ky, t.ix)

def Res.p (r : Res) : ReP := (r.er, r.tx, r.ts, r.fl, r.ss, [], r.tbs.map Tbl.b)

theorem MRes.R_e (q : MRes) : q.R.p = q.r.p := by
  have e2 : q.tbs.map MTb.b = (q.tbs.map MTb.t).map Tbl.b := by rw [List.map_map]; rfl
  show ((q.er, q.tx, q.ts, q.fl, q.ss, ([] : List MCe).map MCe.p, q.tbs.map MTb.b) : ReP) = (q.er, q.tx, q.ts, q.fl, q.ss, [], (q.tbs.map MTb.t).map Tbl.b)
  rw [e2]
  rfl

theorem MRes.R_p {m k : MRes} (h : m.r = k.r) : m.R.p = k.R.p := by rw [MRes.R_e, MRes.R_e, h]

theorem xsameRes_any (x y : MRes) (w : World) (h : x.ok w) (k : y.ok w) (e : x.r = y.r) :
    Calls Tryz.prog 9 #[.agg #[.int .i64 x.er, .int .u64 x.tx, .int .u64 x.ts, .bool x.fl, .slice x.sa x.sn x.sc, .slice none 0 0, .slice x.ta x.tn x.tc], .agg #[.int .i64 y.er, .int .u64 y.tx, .int .u64 y.ts, .bool y.fl, .slice y.sa y.sn y.sc, .slice none 0 0, .slice y.ta y.tn y.tc]] w fun e w' => e = .returned (.bool true) ∧ Below w.heap.size w w' := by
  have h1 := xsameR_any x.R y.R w (MRes.R_ok h) (MRes.R_ok k)
  rw [show decide (x.R.p = y.R.p) = true from decide_eq_true (MRes.R_p e)] at h1
  exact h1

/-- a thing read at once, at an operation that its guard lets through -/
theorem wp_loadG {α : Type} (L : Lay α) {ops : Array Oper} {rest : List Oper} {o : Oper} {a : Act} {Q : Exit → Act → World → Prop} (w : World) (d : TypeDesc) (hu : Tryz.prog.underlying L.e = some d) (hd : d.isRow = true) (hgd : Region.wanted o (yielded ops a.tmps) = true) (y : Operand) (ho : o.op = .load L.e y) (g f : Nat) (x : α) (cs : Array Value) (hcs : (L.cells x).toArray = cs) (hx : a.eval y = .pointer (some ⟨g, f, none⟩)) (hc : w.rangeAt g f (L.cells x))
    (h : wpList Tryz.prog ops Q rest (a.put o.dst (.agg cs)) w) : wpList Tryz.prog ops Q (o :: rest) a w := by
  subst hcs
  refine wpList_step fun K hK => ?_
  rw [if_pos hgd]
  unfold Oper.wp execOp
  simp only [ho, hx, Sem.run_bind, run_loadY L w g f x d hu hd hc, Sem.run_pure, Result.andThen_ok]
  exact hK _ _ h

/-- one command, laid into a list of its own -/
theorem small_one (m : MCmd) (w W : World) (hW : W = w.alloc (.cells #[.int .u64 m.cl, .int .u64 m.sq, .int .i64 m.kd, .int .u64 m.tx, .int .u64 m.ts, .bool m.fl, .int .u64 m.lk.l.tx, .int .i64 m.lk.l.lv, .int .i64 m.lk.l.md, .slice m.lk.la m.lk.ln m.lk.lc, .slice m.lk.ha m.lk.hn m.lk.hc, .slice m.lo.a m.lo.n m.lo.c, .slice m.hi.a m.hi.n m.hi.c, .slice m.txs.a m.txs.n m.txs.c, .slice m.ws.a m.ws.n m.ws.c, .slice m.ks.a m.ks.n m.ks.c, .int .i64 m.tb.id, .string (strB m.tb.nm), .slice m.tb.cs.a m.tb.cs.n m.tb.cs.c, .int .i64 m.tb.ky, .slice m.tb.ix.a m.tb.ix.n m.tb.ix.c] 50)) (hm : m.handed w) : Calls Tryz.prog 7 #[.slice (some ⟨w.heap.size, 0, none⟩) 1 1] W fun e w' => ∃ z, e = .returned (.bool z) ∧ (z = true → m.small) ∧ Below w.heap.size w w' := by
  have hb : Below w.heap.size w W := by rw [hW]; exact new_below _ _
  have hI : IsY layCm W (some ⟨w.heap.size, 0, none⟩) 1 1 [m] := by rw [hW]; exact (ownY_one (L := layCm) w w.heap.size #[.int .u64 m.cl, .int .u64 m.sq, .int .i64 m.kd, .int .u64 m.tx, .int .u64 m.ts, .bool m.fl, .int .u64 m.lk.l.tx, .int .i64 m.lk.l.lv, .int .i64 m.lk.l.md, .slice m.lk.la m.lk.ln m.lk.lc, .slice m.lk.ha m.lk.hn m.lk.hc, .slice m.lo.a m.lo.n m.lo.c, .slice m.hi.a m.hi.n m.hi.c, .slice m.txs.a m.txs.n m.txs.c, .slice m.ws.a m.ws.n m.ws.c, .slice m.ks.a m.ks.n m.ks.c, .int .i64 m.tb.id, .string (strB m.tb.nm), .slice m.tb.cs.a m.tb.cs.n m.tb.cs.c, .int .i64 m.tb.ky, .slice m.tb.ix.a m.tb.ix.n m.tb.ix.c] m (Nat.le_refl _) rfl).is
  clear hW
  refine (small_any (some ⟨w.heap.size, 0, none⟩) 1 1 [m] W hI (fun q hq => by rw [List.mem_singleton] at hq; subst hq; exact hm.keep hb) (by omega)).mono ?_
  rintro e w' ⟨z, rfl, h1, h2⟩
  exact ⟨z, rfl, fun hz => (h1 hz).1 m (List.mem_singleton.2 rfl), hb.trans (h2.mono hb.size)⟩

theorem field0R (v0 v1 v2 v3 v4 v5 v6 : Value) (W : World) : (Instr.field 55 (.agg #[v0, v1, v2, v3, v4, v5, v6]) 0).run Tryz.prog W = .ok v0 W := by rfl

/-- .. as one operation of a region that draws -/
theorem run_loadT {α : Type} (L : Lay α) (w : World) (d : TypeDesc) (hu : Tryz.prog.underlying L.e = some d) (hd : d.isRow = true) (a : Act) (o : Oper) (y : Operand) (ho : o.op = .load L.e y) (g f : Nat) (x : α) (cs : Array Value) (hcs : (L.cells x).toArray = cs) (hx : a.eval y = .pointer (some ⟨g, f, none⟩)) (hc : w.rangeAt g f (L.cells x)) :
    (execOp a.eval o).run Tryz.prog w = .ok (.value (.agg cs)) w := by
  subst hcs
  unfold execOp
  simp only [ho, hx, Sem.run_bind, run_loadY L w g f x d hu hd hc, Sem.run_pure, Result.andThen_ok]

theorem pclockP_any {F : Nat → Prop} {base : Nat} {a : Mm} {z : Nat} {S : Mac} {w : World} (h : IsMm F base w a z S) (p : Nat) (hp : a.p = p) : Calls Tryz.prog 12 #[.pointer (some ⟨p, 0, none⟩)] w fun e w' => e = .returned (.int .u64 S.ck) ∧ w' = w := by
  subst hp
  exact pclock_any h

theorem plocksP_any {F : Nat → Prop} {base : Nat} {a : Mm} {z : Nat} {S : Mac} {w : World} (h : IsMm F base w a z S) (p : Nat) (hp : a.p = p) : Calls Tryz.prog 13 #[.pointer (some ⟨p, 0, none⟩)] w fun e w' => e = .returned (.pointer (some ⟨a.q, 0, none⟩)) ∧ w' = w := by
  subst hp
  exact plocks_any h

set_option maxHeartbeats 8000000 in
theorem magain_any (a : Option Addr) (n c : Nat) (ms : List MCmd) (m : MCmd) (x y : MRr) (w : World) (h : IsY layCm w a n c ms) (hh : ∀ m ∈ ms, m.handed w) (hn : n * 320 ≤ 140737488355328) (hm : m.handed w) (hx : x.ok w) (hy : y.ok w) (hF : FitW w) :
    Calls Tryz.prog 5 #[.slice a n c, .agg #[.int .u64 m.cl, .int .u64 m.sq, .int .i64 m.kd, .int .u64 m.tx, .int .u64 m.ts, .bool m.fl, .int .u64 m.lk.l.tx, .int .i64 m.lk.l.lv, .int .i64 m.lk.l.md, .slice m.lk.la m.lk.ln m.lk.lc, .slice m.lk.ha m.lk.hn m.lk.hc, .slice m.lo.a m.lo.n m.lo.c, .slice m.hi.a m.hi.n m.hi.c, .slice m.txs.a m.txs.n m.txs.c, .slice m.ws.a m.ws.n m.ws.c, .slice m.ks.a m.ks.n m.ks.c, .int .i64 m.tb.id, .string (strB m.tb.nm), .slice m.tb.cs.a m.tb.cs.n m.tb.cs.c, .int .i64 m.tb.ky, .slice m.tb.ix.a m.tb.ix.n m.tb.ix.c], .agg #[.int .i64 x.er, .int .u64 x.tx, .int .u64 x.ts, .bool x.fl, .slice x.ss.a x.ss.n x.ss.c, .slice x.ce.a x.ce.n x.ce.c, .slice x.tb.a x.tb.n x.tb.c], .agg #[.int .i64 y.er, .int .u64 y.tx, .int .u64 y.ts, .bool y.fl, .slice y.ss.a y.ss.n y.ss.c, .slice y.ce.a y.ce.n y.ce.c, .slice y.tb.a y.tb.n y.tb.c]] w fun e w' => e = .returned (.bool true) ∧ Below w.heap.size w w' := by
  obtain ⟨W1, hW1⟩ : ∃ W1, W1 = (((w.alloc (.cells #[.int .u64 m.cl, .int .u64 m.sq, .int .i64 m.kd, .int .u64 m.tx, .int .u64 m.ts, .bool m.fl, .int .u64 m.lk.l.tx, .int .i64 m.lk.l.lv, .int .i64 m.lk.l.md, .slice m.lk.la m.lk.ln m.lk.lc, .slice m.lk.ha m.lk.hn m.lk.hc, .slice m.lo.a m.lo.n m.lo.c, .slice m.hi.a m.hi.n m.hi.c, .slice m.txs.a m.txs.n m.txs.c, .slice m.ws.a m.ws.n m.ws.c, .slice m.ks.a m.ks.n m.ks.c, .int .i64 m.tb.id, .string (strB m.tb.nm), .slice m.tb.cs.a m.tb.cs.n m.tb.cs.c, .int .i64 m.tb.ky, .slice m.tb.ix.a m.tb.ix.n m.tb.ix.c] 50)).alloc (.cells #[.int .i64 x.er, .int .u64 x.tx, .int .u64 x.ts, .bool x.fl, .slice x.ss.a x.ss.n x.ss.c, .slice x.ce.a x.ce.n x.ce.c, .slice x.tb.a x.tb.n x.tb.c] 55)).alloc (.cells #[.int .i64 y.er, .int .u64 y.tx, .int .u64 y.ts, .bool y.fl, .slice y.ss.a y.ss.n y.ss.c, .slice y.ce.a y.ce.n y.ce.c, .slice y.tb.a y.tb.n y.tb.c] 55)) := ⟨_, rfl⟩
  have hb1 : Below w.heap.size w W1 := by
    rw [hW1]
    exact ((new_below w _).trans ((new_below _ _).mono (new_below w _).size)).trans ((new_below _ _).mono (((new_below w _).trans ((new_below _ _).mono (new_below w _).size)).size))
  have hsz : W1.heap.size = w.heap.size + 3 := by rw [hW1]; simp
  have HV : Hid (∀ V, Below W1.heap.size W1 V → V.rangeAt w.heap.size 0 (layCm.cells m) ∧ V.rangeAt (w.heap.size + 1) 0 #[.int .i64 x.er, .int .u64 x.tx, .int .u64 x.ts, .bool x.fl, .slice x.ss.a x.ss.n x.ss.c, .slice x.ce.a x.ce.n x.ce.c, .slice x.tb.a x.tb.n x.tb.c].toList ∧ V.rangeAt (w.heap.size + 2) 0 #[.int .i64 y.er, .int .u64 y.tx, .int .u64 y.ts, .bool y.fl, .slice y.ss.a y.ss.n y.ss.c, .slice y.ce.a y.ce.n y.ce.c, .slice y.tb.a y.tb.n y.tb.c].toList) := by
    intro V hb
    subst hW1
    have q := two_boxes (w.alloc (.cells #[.int .u64 m.cl, .int .u64 m.sq, .int .i64 m.kd, .int .u64 m.tx, .int .u64 m.ts, .bool m.fl, .int .u64 m.lk.l.tx, .int .i64 m.lk.l.lv, .int .i64 m.lk.l.md, .slice m.lk.la m.lk.ln m.lk.lc, .slice m.lk.ha m.lk.hn m.lk.hc, .slice m.lo.a m.lo.n m.lo.c, .slice m.hi.a m.hi.n m.hi.c, .slice m.txs.a m.txs.n m.txs.c, .slice m.ws.a m.ws.n m.ws.c, .slice m.ks.a m.ks.n m.ks.c, .int .i64 m.tb.id, .string (strB m.tb.nm), .slice m.tb.cs.a m.tb.cs.n m.tb.cs.c, .int .i64 m.tb.ky, .slice m.tb.ix.a m.tb.ix.n m.tb.ix.c] 50)) #[.int .i64 x.er, .int .u64 x.tx, .int .u64 x.ts, .bool x.fl, .slice x.ss.a x.ss.n x.ss.c, .slice x.ce.a x.ce.n x.ce.c, .slice x.tb.a x.tb.n x.tb.c] #[.int .i64 y.er, .int .u64 y.tx, .int .u64 y.ts, .bool y.fl, .slice y.ss.a y.ss.n y.ss.c, .slice y.ce.a y.ce.n y.ce.c, .slice y.tb.a y.tb.n y.tb.c] 55 55 V hb
    have e1 : (w.alloc (.cells #[.int .u64 m.cl, .int .u64 m.sq, .int .i64 m.kd, .int .u64 m.tx, .int .u64 m.ts, .bool m.fl, .int .u64 m.lk.l.tx, .int .i64 m.lk.l.lv, .int .i64 m.lk.l.md, .slice m.lk.la m.lk.ln m.lk.lc, .slice m.lk.ha m.lk.hn m.lk.hc, .slice m.lo.a m.lo.n m.lo.c, .slice m.hi.a m.hi.n m.hi.c, .slice m.txs.a m.txs.n m.txs.c, .slice m.ws.a m.ws.n m.ws.c, .slice m.ks.a m.ks.n m.ks.c, .int .i64 m.tb.id, .string (strB m.tb.nm), .slice m.tb.cs.a m.tb.cs.n m.tb.cs.c, .int .i64 m.tb.ky, .slice m.tb.ix.a m.tb.ix.n m.tb.ix.c] 50)).heap.size = w.heap.size + 1 := by simp
    rw [e1] at q
    refine ⟨?_, q.1, q.2⟩
    exact rangeY_same (rangeY_same (rangeY_new w w.heap.size #[.int .u64 m.cl, .int .u64 m.sq, .int .i64 m.kd, .int .u64 m.tx, .int .u64 m.ts, .bool m.fl, .int .u64 m.lk.l.tx, .int .i64 m.lk.l.lv, .int .i64 m.lk.l.md, .slice m.lk.la m.lk.ln m.lk.lc, .slice m.lk.ha m.lk.hn m.lk.hc, .slice m.lo.a m.lo.n m.lo.c, .slice m.hi.a m.hi.n m.hi.c, .slice m.txs.a m.txs.n m.txs.c, .slice m.ws.a m.ws.n m.ws.c, .slice m.ks.a m.ks.n m.ks.c, .int .i64 m.tb.id, .string (strB m.tb.nm), .slice m.tb.cs.a m.tb.cs.n m.tb.cs.c, .int .i64 m.tb.ky, .slice m.tb.ix.a m.tb.ix.n m.tb.ix.c] 50 rfl) (((new_below _ _).trans ((new_below _ _).mono (new_below _ _).size)).block _ (by simp))) (hb.block _ (by simp; omega))
  have HAw := hide (awake15_any W1 (hF.keep hb1))
  have HSm0 := hide (fun w1 (hb : Below W1.heap.size W1 w1) => small_any a n c ms w1 (h.keep (hb1.trans (hb.mono hb1.size))) (fun m hm => (hh m hm).keep (hb1.trans (hb.mono hb1.size))) hn)
  have HSm2 := hide (fun w1 (hb : Below W1.heap.size W1 w1) => small_one m w1 _ rfl (hm.keep (hb1.trans (hb.mono hb1.size))))
  have HNw := hide (fun w2 (hb : Below W1.heap.size W1 w2) => pnewM_any (F := (fun _ => False)) w2 ((hF.keep hb1).keep hb) (fun _ h => h.elim) (fun h => h))
  obtain ⟨z, hz⟩ : ∃ z, decide (x.p = y.p) = z := ⟨_, rfl⟩
  have HSp := hide (fun V (hb : Below W1.heap.size W1 V) => hz ▸ psameR_any x y V (hx.keep (hb1.trans (hb.mono hb1.size))) (hy.keep (hb1.trans (hb.mono hb1.size))))
  have HSx := hide (fun V (hb : Below W1.heap.size W1 V) => hz ▸ xsameR_any x y V (hx.keep (hb1.trans (hb.mono hb1.size))) (hy.keep (hb1.trans (hb.mono hb1.size))))
  have HSs := hide (fun V (hb : Below W1.heap.size W1 V) => (show decide (x.p = x.p) = true from decide_eq_true rfl) ▸ psameR_any x x V (hx.keep (hb1.trans (hb.mono hb1.size))) (hx.keep (hb1.trans (hb.mono hb1.size))))
  clear hz
  have HLen : Hid (decide ((5 : Int) < (x.ce.n : Int)) = true ∨ (decide ((5 : Int) < (x.ce.n : Int)) = false ∧ (decide ((5 : Int) < (y.ce.n : Int)) = true ∨ (decide ((5 : Int) < (y.ce.n : Int)) = false ∧ (decide ((10 : Int) < (x.ss.n : Int)) = true ∨ (decide ((10 : Int) < (x.ss.n : Int)) = false ∧ (decide ((10 : Int) < (y.ss.n : Int)) = true ∨ (decide ((10 : Int) < (y.ss.n : Int)) = false ∧ (decide ((5 : Int) < (x.tb.n : Int)) = true ∨ (decide ((5 : Int) < (x.tb.n : Int)) = false ∧ (decide ((5 : Int) < (y.tb.n : Int)) = true ∨ (decide ((5 : Int) < (y.tb.n : Int)) = false ∧ True)))))))))))) := by
    show _ ∨ _
    by_cases l0 : (5 : Int) < (x.ce.n : Int)
    · exact .inl (decide_eq_true l0)
    · refine .inr ⟨decide_eq_false l0, ?_⟩
      by_cases l1 : (5 : Int) < (y.ce.n : Int)
      · exact .inl (decide_eq_true l1)
      · refine .inr ⟨decide_eq_false l1, ?_⟩
        by_cases l2 : (10 : Int) < (x.ss.n : Int)
        · exact .inl (decide_eq_true l2)
        · refine .inr ⟨decide_eq_false l2, ?_⟩
          by_cases l3 : (10 : Int) < (y.ss.n : Int)
          · exact .inl (decide_eq_true l3)
          · refine .inr ⟨decide_eq_false l3, ?_⟩
            by_cases l4 : (5 : Int) < (x.tb.n : Int)
            · exact .inl (decide_eq_true l4)
            · refine .inr ⟨decide_eq_false l4, ?_⟩
              by_cases l5 : (5 : Int) < (y.tb.n : Int)
              · exact .inl (decide_eq_true l5)
              · refine .inr ⟨decide_eq_false l5, ?_⟩
                trivial
  have HY := hide h
  have HH := hide hh
  have HM := hide hm
  have HBw := hide hb1
  have HSz := hide hsz
  have hmx : (n : Int) ≤ 9223372036854775807 := by omega
  clear h hh hF hn hm hx hy hb1 hsz
  go_enter Tryz.func5, Tryz.ntmps5
  go_upto_region 1 with fail
  rw [← hW1]
  clear hW1
  go_upto_region 3 with (first
    | (go_at_call 6; go_must (refine HAw.out.mono ?_); rintro e w1 ⟨rfl, hb1⟩; have HBa := hide hb1; have HSm := hide (HSm0.out w1 hb1); clear hb1))
  go_cut [63] (fun s63 wx => ∃ z, s63 = .bool z ∧ Below W1.heap.size W1 wx ∧ (z = false → m.small ∧ (∀ q ∈ ms, q.small) ∧ n ≤ 40))
  case first =>
    go_wp2_with (first
      | (go_at_call 7; have hq := HB02.out; clear hq; go_must (refine (HSm2.out w2 HB02.out).mono ?_); rintro e w3 ⟨zs, rfl, hsm, hb2⟩; have HSmall2 := hide hsm; have HBq := hide (HB02.out.trans (hb2.mono HB02.out.size)); have hv := HV.out _ HBq.out; have x4 : w3.cell? ⟨w.heap.size + 1, 4, none⟩ = some (.slice x.ss.a x.ss.n x.ss.c) := hv.2.1 4 _ rfl; have x5 : w3.cell? ⟨w.heap.size + 1, 5, none⟩ = some (.slice x.ce.a x.ce.n x.ce.c) := hv.2.1 5 _ rfl; have x6 : w3.cell? ⟨w.heap.size + 1, 6, none⟩ = some (.slice x.tb.a x.tb.n x.tb.c) := hv.2.1 6 _ rfl; have y4 : w3.cell? ⟨w.heap.size + 2, 4, none⟩ = some (.slice y.ss.a y.ss.n y.ss.c) := hv.2.2 4 _ rfl; have y5 : w3.cell? ⟨w.heap.size + 2, 5, none⟩ = some (.slice y.ce.a y.ce.n y.ce.c) := hv.2.2 5 _ rfl; have y6 : w3.cell? ⟨w.heap.size + 2, 6, none⟩ = some (.slice y.tb.a y.tb.n y.tb.c) := hv.2.2 6 _ rfl; clear hv hsm hb2; cases zs; rotate_left; rcases HLen.out with l0 | ⟨l0, l1 | ⟨l1, l2 | ⟨l2, l3 | ⟨l3, l4 | ⟨l4, l5 | ⟨l5, -⟩⟩⟩⟩⟩⟩)
      | (refine wp_loadG layCm _ _ Tryz.underlying50 rfl (by rfl) (.tmp 5) rfl w.heap.size 0 m #[.int .u64 m.cl, .int .u64 m.sq, .int .i64 m.kd, .int .u64 m.tx, .int .u64 m.ts, .bool m.fl, .int .u64 m.lk.l.tx, .int .i64 m.lk.l.lv, .int .i64 m.lk.l.md, .slice m.lk.la m.lk.ln m.lk.lc, .slice m.lk.ha m.lk.hn m.lk.hc, .slice m.lo.a m.lo.n m.lo.c, .slice m.hi.a m.hi.n m.hi.c, .slice m.txs.a m.txs.n m.txs.c, .slice m.ws.a m.ws.n m.ws.c, .slice m.ks.a m.ks.n m.ks.c, .int .i64 m.tb.id, .string (strB m.tb.nm), .slice m.tb.cs.a m.tb.cs.n m.tb.cs.c, .int .i64 m.tb.ky, .slice m.tb.ix.a m.tb.ix.n m.tb.ix.c] rfl rfl (HV.out _ HB02.out).1 ?_)
      | (go_at_call 7; go_must (refine HSm.out.mono ?_); rintro e w2 ⟨zs, rfl, hsm, hb2⟩; have HSmall := hide hsm; have HB02 := hide (HBa.out.trans (hb2.mono HBa.out.size)); have HBq := HB02; clear hsm hb2; cases zs))
    all_goals (go_wp2_with fail; go_meet; first | exact ⟨true, rfl, HBq.out, fun h => by cases h⟩ | exact ⟨false, rfl, HBq.out, fun _ => ⟨HSmall2.out trivial, HSmall.out trivial⟩⟩)
  case rest =>
    obtain ⟨zz, rfl, hBc, hsm⟩ := hcut
    have HBq := hide hBc
    have HSmall := hide hsm
    clear hBc hsm HSm HSm0 HSm2 HLen HAw HBa
    cases zz
    rotate_left
    · go_wp2
      go_ret
      exact ⟨rfl, HBw.out.trans (HBq.out.mono HBw.out.size)⟩
    have HSmm : Hid (m.small) := (HSmall.out rfl).1
    have HFm : Hid (m.c.Few) := few_of HM.out HSmm.out
    have HFe : Hid (∀ m ∈ ms, m.c.Few) := fun q hq => few_of (HH.out q hq) ((HSmall.out rfl).2.1 q hq)
    have h40 := (HSmall.out rfl).2.2
    clear HSmall HSmm
    go_upto_region 6 with fail
    go_cut [93] (fun s93 wx => s93 = .bool false ∧ Below W1.heap.size W1 wx)
    case first =>
      have hfR := field0R
      refine startT (by kernel_rfl) ?_
      refine' takeT (i := 0) (v := _) rfl (by kernel_rfl) (by kernel_rfl) (by kernel_rfl) (fun _ _ _ h => h) (by rfl) (Below.refl _ _) ?_ ?_; rotate_left
      · (intro W hSw; have hv := HV.out W (HBq.out.trans ((bel_undQ hSw).mono HBq.out.size)); have x0 : W.cell? ⟨w.heap.size + 1, 0, none⟩ = some (.int .i64 x.er) := hv.2.1 0 _ rfl; have x1 : W.cell? ⟨w.heap.size + 1, 1, none⟩ = some (.int .u64 x.tx) := hv.2.1 1 _ rfl; have x2 : W.cell? ⟨w.heap.size + 1, 2, none⟩ = some (.int .u64 x.ts) := hv.2.1 2 _ rfl; have x3 : W.cell? ⟨w.heap.size + 1, 3, none⟩ = some (.bool x.fl) := hv.2.1 3 _ rfl; have x4 : W.cell? ⟨w.heap.size + 1, 4, none⟩ = some (.slice x.ss.a x.ss.n x.ss.c) := hv.2.1 4 _ rfl; have x5 : W.cell? ⟨w.heap.size + 1, 5, none⟩ = some (.slice x.ce.a x.ce.n x.ce.c) := hv.2.1 5 _ rfl; have x6 : W.cell? ⟨w.heap.size + 1, 6, none⟩ = some (.slice x.tb.a x.tb.n x.tb.c) := hv.2.1 6 _ rfl; clear hv; go_simp; all_goals (with_reducible rfl))
      (try simp only [Act.put, List.setIfInBounds_toArray, List.set_cons_zero, List.set_cons_succ])
      refine' takeT (i := 1) (v := _) rfl (by kernel_rfl) (by kernel_rfl) (by kernel_rfl) (fun _ _ _ h => h) (by rfl) (Below.refl _ _) ?_ ?_; rotate_left
      · (intro W hSw; have hv := HV.out W (HBq.out.trans ((bel_undQ hSw).mono HBq.out.size)); have y0 : W.cell? ⟨w.heap.size + 2, 0, none⟩ = some (.int .i64 y.er) := hv.2.2 0 _ rfl; have y1 : W.cell? ⟨w.heap.size + 2, 1, none⟩ = some (.int .u64 y.tx) := hv.2.2 1 _ rfl; have y2 : W.cell? ⟨w.heap.size + 2, 2, none⟩ = some (.int .u64 y.ts) := hv.2.2 2 _ rfl; have y3 : W.cell? ⟨w.heap.size + 2, 3, none⟩ = some (.bool y.fl) := hv.2.2 3 _ rfl; have y4 : W.cell? ⟨w.heap.size + 2, 4, none⟩ = some (.slice y.ss.a y.ss.n y.ss.c) := hv.2.2 4 _ rfl; have y5 : W.cell? ⟨w.heap.size + 2, 5, none⟩ = some (.slice y.ce.a y.ce.n y.ce.c) := hv.2.2 5 _ rfl; have y6 : W.cell? ⟨w.heap.size + 2, 6, none⟩ = some (.slice y.tb.a y.tb.n y.tb.c) := hv.2.2 6 _ rfl; clear hv; go_simp; all_goals (with_reducible rfl))
      (try simp only [Act.put, List.setIfInBounds_toArray, List.set_cons_zero, List.set_cons_succ])
      refine' takeT (i := 3) (v := _) rfl (by kernel_rfl) (by kernel_rfl) (by kernel_rfl) (fun _ _ _ h => h) (by rfl) (Below.refl _ _) ?_ ?_; rotate_left
      · (intro W hSw; have hv := HV.out W (HBq.out.trans ((bel_undQ hSw).mono HBq.out.size)); have x0 : W.cell? ⟨w.heap.size + 1, 0, none⟩ = some (.int .i64 x.er) := hv.2.1 0 _ rfl; have x1 : W.cell? ⟨w.heap.size + 1, 1, none⟩ = some (.int .u64 x.tx) := hv.2.1 1 _ rfl; have x2 : W.cell? ⟨w.heap.size + 1, 2, none⟩ = some (.int .u64 x.ts) := hv.2.1 2 _ rfl; have x3 : W.cell? ⟨w.heap.size + 1, 3, none⟩ = some (.bool x.fl) := hv.2.1 3 _ rfl; have x4 : W.cell? ⟨w.heap.size + 1, 4, none⟩ = some (.slice x.ss.a x.ss.n x.ss.c) := hv.2.1 4 _ rfl; have x5 : W.cell? ⟨w.heap.size + 1, 5, none⟩ = some (.slice x.ce.a x.ce.n x.ce.c) := hv.2.1 5 _ rfl; have x6 : W.cell? ⟨w.heap.size + 1, 6, none⟩ = some (.slice x.tb.a x.tb.n x.tb.c) := hv.2.1 6 _ rfl; clear hv; go_simp; all_goals (with_reducible rfl))
      (try simp only [Act.put, List.setIfInBounds_toArray, List.set_cons_zero, List.set_cons_succ])
      refine' takeT (i := 4) (v := _) rfl (by kernel_rfl) (by kernel_rfl) (by kernel_rfl) (fun _ _ _ h => h) (by rfl) (Below.refl _ _) ?_ ?_; rotate_left
      · (intro W hSw; have hv := HV.out W (HBq.out.trans ((bel_undQ hSw).mono HBq.out.size)); have y0 : W.cell? ⟨w.heap.size + 2, 0, none⟩ = some (.int .i64 y.er) := hv.2.2 0 _ rfl; have y1 : W.cell? ⟨w.heap.size + 2, 1, none⟩ = some (.int .u64 y.tx) := hv.2.2 1 _ rfl; have y2 : W.cell? ⟨w.heap.size + 2, 2, none⟩ = some (.int .u64 y.ts) := hv.2.2 2 _ rfl; have y3 : W.cell? ⟨w.heap.size + 2, 3, none⟩ = some (.bool y.fl) := hv.2.2 3 _ rfl; have y4 : W.cell? ⟨w.heap.size + 2, 4, none⟩ = some (.slice y.ss.a y.ss.n y.ss.c) := hv.2.2 4 _ rfl; have y5 : W.cell? ⟨w.heap.size + 2, 5, none⟩ = some (.slice y.ce.a y.ce.n y.ce.c) := hv.2.2 5 _ rfl; have y6 : W.cell? ⟨w.heap.size + 2, 6, none⟩ = some (.slice y.tb.a y.tb.n y.tb.c) := hv.2.2 6 _ rfl; clear hv; go_simp; all_goals (with_reducible rfl))
      (try simp only [Act.put, List.setIfInBounds_toArray, List.set_cons_zero, List.set_cons_succ])
      refine callT (i := 2) rfl (by kernel_rfl) (fun K hK => ?_)
      go_simp
      refine (HSp.out _ (HBq.out.trans ((Below.refl _ _).drew.mono HBq.out.size))).mono ?_
      rintro e v1 ⟨rfl, hb1⟩
      have HV1 := hide (HBq.out.trans ((bel_undQ hb1).mono HBq.out.size))
      refine hK.out _ _ (hb1) ?_
      clear hK K
      (try simp only [Act.put, List.setIfInBounds_toArray, List.set_cons_zero, List.set_cons_succ])
      clear hb1
      refine callT (i := 5) rfl (by kernel_rfl) (fun K hK => ?_)
      go_simp
      refine (HSx.out _ HV1.out).mono ?_
      rintro e v2 ⟨rfl, hb2⟩
      have HV2 := hide (HV1.out.trans (hb2.mono HV1.out.size))
      refine hK.out _ _ (hb2) ?_
      clear hK K
      (try simp only [Act.put, List.setIfInBounds_toArray, List.set_cons_zero, List.set_cons_succ])
      clear hb2
      refine' takeT (i := 6) (v := _) rfl (by kernel_rfl) (by kernel_rfl) (by kernel_rfl) (fun _ _ _ h => h) (by rfl) (Below.refl _ _) ?_ ?_; rotate_left
      · (intro W hSw; go_simp; all_goals (with_reducible rfl))
      (try simp only [Act.put, List.setIfInBounds_toArray, List.set_cons_zero, List.set_cons_succ])
      refine' takeT (i := 7) (v := _) rfl (by kernel_rfl) (by kernel_rfl) (by kernel_rfl) (fun _ _ _ h => h) (by rfl) (Below.refl _ _) ?_ ?_; rotate_left
      · (intro W hSw; go_simp; all_goals (with_reducible rfl))
      (try simp only [Act.put, List.setIfInBounds_toArray, List.set_cons_zero, List.set_cons_succ])
      refine' takeT (i := 8) (v := _) rfl (by kernel_rfl) (by kernel_rfl) (by kernel_rfl) (fun _ _ _ h => h) (by rfl) (Below.refl _ _) ?_ ?_; rotate_left
      · (intro W hSw; have hv := HV.out W (HV2.out.trans (hSw.mono HV2.out.size)); have x0 : W.cell? ⟨w.heap.size + 1, 0, none⟩ = some (.int .i64 x.er) := hv.2.1 0 _ rfl; have x1 : W.cell? ⟨w.heap.size + 1, 1, none⟩ = some (.int .u64 x.tx) := hv.2.1 1 _ rfl; have x2 : W.cell? ⟨w.heap.size + 1, 2, none⟩ = some (.int .u64 x.ts) := hv.2.1 2 _ rfl; have x3 : W.cell? ⟨w.heap.size + 1, 3, none⟩ = some (.bool x.fl) := hv.2.1 3 _ rfl; have x4 : W.cell? ⟨w.heap.size + 1, 4, none⟩ = some (.slice x.ss.a x.ss.n x.ss.c) := hv.2.1 4 _ rfl; have x5 : W.cell? ⟨w.heap.size + 1, 5, none⟩ = some (.slice x.ce.a x.ce.n x.ce.c) := hv.2.1 5 _ rfl; have x6 : W.cell? ⟨w.heap.size + 1, 6, none⟩ = some (.slice x.tb.a x.tb.n x.tb.c) := hv.2.1 6 _ rfl; clear hv; go_simp; all_goals (with_reducible rfl))
      (try simp only [Act.put, List.setIfInBounds_toArray, List.set_cons_zero, List.set_cons_succ])
      refine' takeT (i := 9) (v := _) rfl (by kernel_rfl) (by kernel_rfl) (by kernel_rfl) (fun _ _ _ h => h) (by rfl) (Below.refl _ _) ?_ ?_; rotate_left
      · (intro W hSw; have hv := HV.out W (HV2.out.trans (hSw.mono HV2.out.size)); have x0 : W.cell? ⟨w.heap.size + 1, 0, none⟩ = some (.int .i64 x.er) := hv.2.1 0 _ rfl; have x1 : W.cell? ⟨w.heap.size + 1, 1, none⟩ = some (.int .u64 x.tx) := hv.2.1 1 _ rfl; have x2 : W.cell? ⟨w.heap.size + 1, 2, none⟩ = some (.int .u64 x.ts) := hv.2.1 2 _ rfl; have x3 : W.cell? ⟨w.heap.size + 1, 3, none⟩ = some (.bool x.fl) := hv.2.1 3 _ rfl; have x4 : W.cell? ⟨w.heap.size + 1, 4, none⟩ = some (.slice x.ss.a x.ss.n x.ss.c) := hv.2.1 4 _ rfl; have x5 : W.cell? ⟨w.heap.size + 1, 5, none⟩ = some (.slice x.ce.a x.ce.n x.ce.c) := hv.2.1 5 _ rfl; have x6 : W.cell? ⟨w.heap.size + 1, 6, none⟩ = some (.slice x.tb.a x.tb.n x.tb.c) := hv.2.1 6 _ rfl; clear hv; go_simp; all_goals (with_reducible rfl))
      (try simp only [Act.put, List.setIfInBounds_toArray, List.set_cons_zero, List.set_cons_succ])
      refine callT (i := 10) rfl (by kernel_rfl) (fun K hK => ?_)
      go_simp
      refine (HSs.out _ HV2.out).mono ?_
      rintro e v3 ⟨rfl, hb3⟩
      have HV3 := hide (HV2.out.trans (hb3.mono HV2.out.size))
      refine hK.out _ _ (hb3) ?_
      clear hK K
      (try simp only [Act.put, List.setIfInBounds_toArray, List.set_cons_zero, List.set_cons_succ])
      clear hb3
      refine' takeT (i := 11) (v := _) rfl (by kernel_rfl) (by kernel_rfl) (by kernel_rfl) (fun _ _ _ h => h) (by rfl) (Below.refl _ _) ?_ ?_; rotate_left
      · (intro W hSw; go_simp; all_goals (with_reducible rfl))
      (try simp only [Act.put, List.setIfInBounds_toArray, List.set_cons_zero, List.set_cons_succ])
      refine' takeT (i := 12) (v := _) rfl (by kernel_rfl) (by kernel_rfl) (by kernel_rfl) (fun _ _ _ h => h) (by rfl) (Below.refl _ _) ?_ ?_; rotate_left
      · (intro W hSw; go_simp; all_goals (with_reducible rfl))
      (try simp only [Act.put, List.setIfInBounds_toArray, List.set_cons_zero, List.set_cons_succ])
      refine' takeT (i := 13) (v := _) rfl (by kernel_rfl) (by kernel_rfl) (by kernel_rfl) (fun _ _ _ h => h) (by rfl) (Below.refl _ _) ?_ ?_; rotate_left
      · (intro W hSw; go_simp; all_goals (with_reducible rfl))
      (try simp only [Act.put, List.setIfInBounds_toArray, List.set_cons_zero, List.set_cons_succ])
      refine' takeT (i := 14) (v := _) rfl (by kernel_rfl) (by kernel_rfl) (by kernel_rfl) (fun _ _ _ h => h) (by rfl) (Below.refl _ _) ?_ ?_; rotate_left
      · (intro W hSw; go_simp; all_goals (with_reducible rfl))
      (try simp only [Act.put, List.setIfInBounds_toArray, List.set_cons_zero, List.set_cons_succ])
      refine' takeT (i := 15) (v := _) rfl (by kernel_rfl) (by kernel_rfl) (by kernel_rfl) (fun _ _ _ h => h) (by rfl) (Below.refl _ _) ?_ ?_; rotate_left
      · (intro W hSw; refine run_loadT layCm W _ Tryz.underlying50 rfl _ _ (.tmp 5) ?_ w.heap.size 0 m #[.int .u64 m.cl, .int .u64 m.sq, .int .i64 m.kd, .int .u64 m.tx, .int .u64 m.ts, .bool m.fl, .int .u64 m.lk.l.tx, .int .i64 m.lk.l.lv, .int .i64 m.lk.l.md, .slice m.lk.la m.lk.ln m.lk.lc, .slice m.lk.ha m.lk.hn m.lk.hc, .slice m.lo.a m.lo.n m.lo.c, .slice m.hi.a m.hi.n m.hi.c, .slice m.txs.a m.txs.n m.txs.c, .slice m.ws.a m.ws.n m.ws.c, .slice m.ks.a m.ks.n m.ks.c, .int .i64 m.tb.id, .string (strB m.tb.nm), .slice m.tb.cs.a m.tb.cs.n m.tb.cs.c, .int .i64 m.tb.ky, .slice m.tb.ix.a m.tb.ix.n m.tb.ix.c] rfl ?_ (HV.out W (HV3.out.trans (hSw.mono HV3.out.size))).1 <;> rfl)
      (try simp only [Act.put, List.setIfInBounds_toArray, List.set_cons_zero, List.set_cons_succ])
      refine callT (i := 16) rfl (by kernel_rfl) (fun K hK => ?_)
      go_simp
      refine (ndo_any m v3).mono ?_
      rintro e v4 ⟨rfl, hb4⟩
      have HV4 := hide (HV3.out.trans (hb4.mono HV3.out.size))
      refine hK.out _ _ (hb4) ?_
      clear hK K
      (try simp only [Act.put, List.setIfInBounds_toArray, List.set_cons_zero, List.set_cons_succ])
      clear hb4
      refine' takeT (i := 17) (v := _) rfl (by kernel_rfl) (by kernel_rfl) (by kernel_rfl) (fun _ _ _ h => h) (by rfl) (Below.refl _ _) ?_ ?_; rotate_left
      · (intro W hSw; go_simp; all_goals (with_reducible rfl))
      (try simp only [Act.put, List.setIfInBounds_toArray, List.set_cons_zero, List.set_cons_succ])
      refine' takeT (i := 18) (v := _) rfl (by kernel_rfl) (by kernel_rfl) (by kernel_rfl) (fun _ _ _ h => h) (by rfl) (Below.refl _ _) ?_ ?_; rotate_left
      · (intro W hSw; go_simp; all_goals (with_reducible rfl))
      (try simp only [Act.put, List.setIfInBounds_toArray, List.set_cons_zero, List.set_cons_succ])
      refine' takeT (i := 19) (v := _) rfl (by kernel_rfl) (by kernel_rfl) (by kernel_rfl) (fun _ _ _ h => h) (by rfl) (Below.refl _ _) ?_ ?_; rotate_left
      · (intro W hSw; go_simp; all_goals (with_reducible rfl))
      (try simp only [Act.put, List.setIfInBounds_toArray, List.set_cons_zero, List.set_cons_succ])
      refine' takeT (i := 20) (v := _) rfl (by kernel_rfl) (by kernel_rfl) (by kernel_rfl) (fun _ _ _ h => h) (by rfl) (Below.refl _ _) ?_ ?_; rotate_left
      · (intro W hSw; go_simp; all_goals (with_reducible rfl))
      (try simp only [Act.put, List.setIfInBounds_toArray, List.set_cons_zero, List.set_cons_succ])
      refine' takeT (i := 21) (v := _) rfl (by kernel_rfl) (by kernel_rfl) (by kernel_rfl) (fun _ _ _ h => h) (by rfl) (Below.refl _ _) ?_ ?_; rotate_left
      · (intro W hSw; go_simp; all_goals (with_reducible rfl))
      (try simp only [Act.put, List.setIfInBounds_toArray, List.set_cons_zero, List.set_cons_succ])
      refine callT (i := 22) rfl (by kernel_rfl) (fun K hK => ?_)
      go_simp
      refine (nclock_any v4).mono ?_
      rintro e v5 ⟨rfl, hw⟩
      have hw := hw.symm
      subst hw
      refine hK.out _ _ (Below.refl _ _) ?_
      clear hK K
      (try simp only [Act.put, List.setIfInBounds_toArray, List.set_cons_zero, List.set_cons_succ])
      refine' takeT (i := 23) (v := _) rfl (by kernel_rfl) (by kernel_rfl) (by kernel_rfl) (fun _ _ _ h => h) (by rfl) (Below.refl _ _) ?_ ?_; rotate_left
      · (intro W hSw; go_simp; all_goals (with_reducible rfl))
      (try simp only [Act.put, List.setIfInBounds_toArray, List.set_cons_zero, List.set_cons_succ])
      refine' takeT (i := 24) (v := _) rfl (by kernel_rfl) (by kernel_rfl) (by kernel_rfl) (fun _ _ _ h => h) (by rfl) (Below.refl _ _) ?_ ?_; rotate_left
      · (intro W hSw; go_simp; all_goals (with_reducible rfl))
      (try simp only [Act.put, List.setIfInBounds_toArray, List.set_cons_zero, List.set_cons_succ])
      refine' takeT (i := 25) (v := _) rfl (by kernel_rfl) (by kernel_rfl) (by kernel_rfl) (fun _ _ _ h => h) (by rfl) (Below.refl _ _) ?_ ?_; rotate_left
      · (intro W hSw; go_simp; all_goals (with_reducible rfl))
      (try simp only [Act.put, List.setIfInBounds_toArray, List.set_cons_zero, List.set_cons_succ])
      refine' takeT (i := 26) (v := _) rfl (by kernel_rfl) (by kernel_rfl) (by kernel_rfl) (fun _ _ _ h => h) (by rfl) (Below.refl _ _) ?_ ?_; rotate_left
      · (intro W hSw; go_simp; all_goals (with_reducible rfl))
      (try simp only [Act.put, List.setIfInBounds_toArray, List.set_cons_zero, List.set_cons_succ])
      refine callT (i := 27) rfl (by kernel_rfl) (fun K hK => ?_)
      go_simp
      refine (nlocks_any v4).mono ?_
      rintro e v5 ⟨rfl, hw⟩
      have hw := hw.symm
      subst hw
      refine hK.out _ _ (Below.refl _ _) ?_
      clear hK K
      (try simp only [Act.put, List.setIfInBounds_toArray, List.set_cons_zero, List.set_cons_succ])
      refine' takeT (i := 28) (v := _) rfl (by kernel_rfl) (by kernel_rfl) (by kernel_rfl) (fun _ _ _ h => h) (by rfl) (Below.refl _ _) ?_ ?_; rotate_left
      · (intro W hSw; go_simp; all_goals (with_reducible rfl))
      (try simp only [Act.put, List.setIfInBounds_toArray, List.set_cons_zero, List.set_cons_succ])
      refine' takeT (i := 29) (v := _) rfl (by kernel_rfl) (by kernel_rfl) (by kernel_rfl) (fun _ _ _ h => h) (by rfl) (Below.refl _ _) ?_ ?_; rotate_left
      · (intro W hSw; go_simp; all_goals (with_reducible rfl))
      (try simp only [Act.put, List.setIfInBounds_toArray, List.set_cons_zero, List.set_cons_succ])
      refine wpAnyH_done (by kernel_rfl) ?_ _
      go_wp2_with fail
      go_meet
      exact ⟨rfl, HV4.out⟩
    case rest =>
      obtain ⟨rfl, hBc⟩ := hcut
      have HBr := hide hBc
      clear hBc HSp HSx HSs HBq
      obtain ⟨w8, hw8⟩ : ∃ w8, w8 = wc := ⟨_, rfl⟩
      subst hw8
      go_upto_region 9 with (first
        | (go_at_call 8; go_must (refine (HNw.out w8 HBr.out).mono ?_); rintro e w9 ⟨M, hv, wv, rfl, hi9, hm9, hb9⟩; have HI9 := hide hi9; have HB9 := hide hb9; clear hi9 hm9 hb9))
      have HB0 : Hid (Below W1.heap.size W1 w9) := HBr.out.trans (HB9.out.mono HBr.out.size)
      have HBB : Hid (W1.heap.size ≤ w8.heap.size) := HBr.out.size
      clear HBr HB9 HNw
      go_wp2
      go_loopg [97] n (fun gk ix wr => ∃ (k : Nat) (a0 : Mm), gk = n - k ∧ ix = .int .i64 k ∧ k ≤ n ∧ IsMm (fun _ => False) w8.heap.size wr a0 (2 * k) (stM ms k) ∧ a0.p = M + 1 ∧ Below W1.heap.size W1 wr)
      case atStart => exact ⟨0, _, rfl, rfl, Nat.zero_le _, HI9.out, rfl, HB0.out⟩
      case round =>
        clear HI9 HB0
        obtain ⟨k, a0, rfl, rfl, hk, hi, hp, hb⟩ := hrel
        have HI := hide hi
        have HP := hide hp
        have HB := hide hb
        clear hi hp hb
        obtain ⟨wo, hwo⟩ : ∃ wo, wo = wr := ⟨_, rfl⟩
        subst hwo
        have HIX : Hid (∀ j, a0.X j → W1.heap.size ≤ j) := fun j hj => Nat.le_trans HBB.out (HI.out.xl j hj).1
        by_cases hlt : k < n
        · have hltI : (k : Int) < (n : Int) := by omega
          obtain ⟨q, hq⟩ := at_of HY.out.1 hlt
          have hbw := HBw.out.trans (HB.out.mono HBw.out.size)
          obtain ⟨g, off, rfl, hg, hC⟩ := (HY.out.keep hbw).at hlt
          have HQ := hide hq
          obtain ⟨W2, hW2⟩ : ∃ W2, W2 = wo.alloc (.cells #[.int .u64 q.cl, .int .u64 q.sq, .int .i64 q.kd, .int .u64 q.tx, .int .u64 q.ts, .bool q.fl, .int .u64 q.lk.l.tx, .int .i64 q.lk.l.lv, .int .i64 q.lk.l.md, .slice q.lk.la q.lk.ln q.lk.lc, .slice q.lk.ha q.lk.hn q.lk.hc, .slice q.lo.a q.lo.n q.lo.c, .slice q.hi.a q.hi.n q.hi.c, .slice q.txs.a q.txs.n q.txs.c, .slice q.ws.a q.ws.n q.ws.c, .slice q.ks.a q.ks.n q.ks.c, .int .i64 q.tb.id, .string (strB q.tb.nm), .slice q.tb.cs.a q.tb.cs.n q.tb.cs.c, .int .i64 q.tb.ky, .slice q.tb.ix.a q.tb.ix.n q.tb.ix.c] 50) := ⟨_, rfl⟩
          have HBn : Hid (Below wo.heap.size wo W2) := by subst hW2; exact new_below _ _
          have HR0 : Hid (wo.rangeAt g (off + k * 21) (layCm.cells q)) := hC k _ hq
          have HR1 : Hid (W2.rangeAt wo.heap.size 0 (layCm.cells q)) := by subst hW2; exact rangeY_new wo wo.heap.size _ _ rfl
          have hbW := hbw.trans (HBn.out.mono hbw.size)
          have HDo := hide (pdoP_any (HI.out.keep HBn.out) q (M + 1) HP.out (foot_cmd (HH.out q (List.mem_of_getElem? hq)).ok hbW (fun j hj => hj.elim (fun h => Nat.le_trans HBw.out.size (HIX.out j h)) False.elim)) (HFe.out q (List.mem_of_getElem? hq)) (by omega))
          have HW2e := hide hW2
          clear hW2 hC hq hbW hbw
          go_upto_region 12 with (first
            | (refine wp_loadY layCm _ _ Tryz.underlying50 rfl rfl (.tmp 99) rfl g (off + k * 21) q #[.int .u64 q.cl, .int .u64 q.sq, .int .i64 q.kd, .int .u64 q.tx, .int .u64 q.ts, .bool q.fl, .int .u64 q.lk.l.tx, .int .i64 q.lk.l.lv, .int .i64 q.lk.l.md, .slice q.lk.la q.lk.ln q.lk.lc, .slice q.lk.ha q.lk.hn q.lk.hc, .slice q.lo.a q.lo.n q.lo.c, .slice q.hi.a q.hi.n q.hi.c, .slice q.txs.a q.txs.n q.txs.c, .slice q.ws.a q.ws.n q.ws.c, .slice q.ks.a q.ks.n q.ks.c, .int .i64 q.tb.id, .string (strB q.tb.nm), .slice q.tb.cs.a q.tb.cs.n q.tb.cs.c, .int .i64 q.tb.ky, .slice q.tb.ix.a q.tb.ix.n q.tb.ix.c] rfl rfl HR0.out ?_)
            | (refine wp_newL layCm wo 50 rfl q #[.int .u64 q.cl, .int .u64 q.sq, .int .i64 q.kd, .int .u64 q.tx, .int .u64 q.ts, .bool q.fl, .int .u64 q.lk.l.tx, .int .i64 q.lk.l.lv, .int .i64 q.lk.l.md, .slice q.lk.la q.lk.ln q.lk.lc, .slice q.lk.ha q.lk.hn q.lk.hc, .slice q.lo.a q.lo.n q.lo.c, .slice q.hi.a q.hi.n q.hi.c, .slice q.txs.a q.txs.n q.txs.c, .slice q.ws.a q.ws.n q.ws.c, .slice q.ks.a q.ks.n q.ks.c, .int .i64 q.tb.id, .string (strB q.tb.nm), .slice q.tb.cs.a q.tb.cs.n q.tb.cs.c, .int .i64 q.tb.ky, .slice q.tb.ix.a q.tb.ix.n q.tb.ix.c] rfl _ rfl rfl (.tmp 12) (.tmp 100) rfl rfl rfl ?_))
          rw [← HW2e.out]
          go_upto_region 13 with (first
            | (refine wp_loadY layCm _ _ Tryz.underlying50 rfl rfl (.tmp 12) rfl wo.heap.size 0 q #[.int .u64 q.cl, .int .u64 q.sq, .int .i64 q.kd, .int .u64 q.tx, .int .u64 q.ts, .bool q.fl, .int .u64 q.lk.l.tx, .int .i64 q.lk.l.lv, .int .i64 q.lk.l.md, .slice q.lk.la q.lk.ln q.lk.lc, .slice q.lk.ha q.lk.hn q.lk.hc, .slice q.lo.a q.lo.n q.lo.c, .slice q.hi.a q.hi.n q.hi.c, .slice q.txs.a q.txs.n q.txs.c, .slice q.ws.a q.ws.n q.ws.c, .slice q.ks.a q.ks.n q.ks.c, .int .i64 q.tb.id, .string (strB q.tb.nm), .slice q.tb.cs.a q.tb.cs.n q.tb.cs.c, .int .i64 q.tb.ky, .slice q.tb.ix.a q.tb.ix.n q.tb.ix.c] rfl rfl HR1.out ?_)
            | (go_at_call 10; go_must (refine HDo.out.mono ?_); rintro e w6 ⟨a1, m1, rfl, -, -, hi6, hs6⟩; have HI6 := hide hi6; have HS6 := hide hs6; clear hi6 hs6))
          have HB6 : Hid (Below W1.heap.size W1 w6) := mstep_kp HS6.out HIX.out (by have := HB.out.size; have := HBn.out.size; omega) (HB.out.trans (HBn.out.mono HB.out.size))
          have HI6n : Hid (IsMm (fun _ => False) w8.heap.size w6 a1 (2 * k + 2) (stM ms (k + 1))) := by
            show IsMm _ _ _ _ _ _
            rw [stM_more HQ.out]; exact HI6.out
          have HP6 : Hid (a1.p = M + 1) := HS6.out.p.trans HP.out
          clear HI6 HS6 HDo HR0 HR1 HI HIX HP HBn HW2e
          unfold MRes.v
          go_wp2
          go_roundg (n - (k + 1))
          case measure => omega
          case rel => exact ⟨k + 1, a1, rfl, by go_num, hlt, HI6n.out.more (by omega), HP6.out, HB6.out⟩
        · obtain rfl : k = n := by omega
          have hnl : ¬ (k : Int) < (k : Int) := by omega
          have hbw := HBw.out.trans (HB.out.mono HBw.out.size)
          have HCf : Hid (Foot (fun j => a0.X j ∨ False) wo (fun V => m.ok V)) := foot_cmd HM.out.ok hbw (fun j hj => hj.elim (fun h => Nat.le_trans HBw.out.size (HIX.out j h)) False.elim)
          have HDo := hide (pdoP_any HI.out m (M + 1) HP.out HCf.out HFm.out (by omega))
          clear hbw
          go_upto_region 15 with (first
            | (refine wp_loadY layCm _ _ Tryz.underlying50 rfl rfl (.tmp 5) rfl w.heap.size 0 m #[.int .u64 m.cl, .int .u64 m.sq, .int .i64 m.kd, .int .u64 m.tx, .int .u64 m.ts, .bool m.fl, .int .u64 m.lk.l.tx, .int .i64 m.lk.l.lv, .int .i64 m.lk.l.md, .slice m.lk.la m.lk.ln m.lk.lc, .slice m.lk.ha m.lk.hn m.lk.hc, .slice m.lo.a m.lo.n m.lo.c, .slice m.hi.a m.hi.n m.hi.c, .slice m.txs.a m.txs.n m.txs.c, .slice m.ws.a m.ws.n m.ws.c, .slice m.ks.a m.ks.n m.ks.c, .int .i64 m.tb.id, .string (strB m.tb.nm), .slice m.tb.cs.a m.tb.cs.n m.tb.cs.c, .int .i64 m.tb.ky, .slice m.tb.ix.a m.tb.ix.n m.tb.ix.c] rfl rfl (HV.out _ HB.out).1 ?_)
            | (go_at_call 10; go_must (refine HDo.out.mono ?_); rintro e w6 ⟨a1, m1, rfl, hr6, hf6, hi6, hs6⟩; have HR6 := hide hr6; have HO6 := hide hf6; have HI6 := hide hi6; have HS6 := hide hs6; clear hr6 hf6 hi6 hs6; unfold MRes.v))
          have HB6 : Hid (Below W1.heap.size W1 w6) := mstep_kp HS6.out HIX.out HB.out.size HB.out
          have HP6 : Hid (a1.p = M + 1) := HS6.out.p.trans HP.out
          have HCf6 := hide (HS6.out.foot HCf.out)
          clear HDo HCf HS6 HI HIX HP
          obtain ⟨W7, hW7⟩ : ∃ W7, W7 = (w6.alloc (.cells #[.int .i64 m1.er, .int .u64 m1.tx, .int .u64 m1.ts, .bool m1.fl, .slice m1.sa m1.sn m1.sc, .slice none 0 0, .slice m1.ta m1.tn m1.tc] 55)) := ⟨_, rfl⟩
          rw [← hW7]
          have HN7 : Hid (Below w6.heap.size w6 W7) := by subst hW7; exact new_below _ _
          have HB7 : Hid (Below W1.heap.size W1 W7) := HB6.out.trans (HN7.out.mono HB6.out.size)
          have HX7 : Hid (∀ V : World, V.heap[w6.heap.size]? = W7.heap[w6.heap.size]? → V.rangeAt w6.heap.size 0 #[.int .i64 m1.er, .int .u64 m1.tx, .int .u64 m1.ts, .bool m1.fl, .slice m1.sa m1.sn m1.sc, .slice none 0 0, .slice m1.ta m1.tn m1.tc].toList) := by
            intro V hV
            subst hW7
            exact rangeY_same (rangeY_new w6 w6.heap.size _ _ rfl) hV
          have HL7 : Hid (w6.heap.size < W7.heap.size) := by subst hW7; exact (Array.getElem?_eq_some_iff.1 (heap_alloc_new _ _)).1
          clear hW7
          have HI7 := hide (HI6.out.keep HN7.out)
          have HO7 := hide (HO6.out.keep HN7.out)
          have HCf7 := hide (HCf6.out.keep HN7.out)
          have HX1 : Hid (∀ j, a1.X j → j < w6.heap.size ∧ W1.heap.size ≤ j) := fun j hj => ⟨(HI6.out.xl j hj).2, Nat.le_trans HBB.out (HI6.out.xl j hj).1⟩
          have HCk := hide (pclockP_any HI7.out (M + 1) HP6.out)
          have HLk := hide (plocksP_any HI7.out (M + 1) HP6.out)
          have HHd := hide (mheld_any HI7.out (by omega))
          clear HI6 HO6 HCf6 HN7
          go_upto_region 16 with (first
            | (go_at_call 15; go_must (refine HHd.out.mono ?_); rintro e w9 ⟨la, lc, rfl, hb9⟩; have HB9 := hide hb9; clear hb9)
            | (go_at_call 13; go_must (refine HLk.out.mono ?_); rintro e wz ⟨rfl, hw⟩; have hw := hw.symm; subst hw)
            | (go_at_call 12; go_must (refine HCk.out.mono ?_); rintro e wz ⟨rfl, hw⟩; have hw := hw.symm; subst hw))
          have HBe : Hid (Below W1.heap.size W1 w9) := HB7.out.trans (HB9.out.mono HB7.out.size)
          have HI9 := hide (HI7.out.keep HB9.out)
          have HO9 := hide (HO7.out.keep HB9.out)
          have HCf9 := hide (HCf7.out.keep HB9.out)
          have HX9 : Hid (∀ V : World, V.heap[w6.heap.size]? = w9.heap[w6.heap.size]? → V.rangeAt w6.heap.size 0 #[.int .i64 m1.er, .int .u64 m1.tx, .int .u64 m1.ts, .bool m1.fl, .slice m1.sa m1.sn m1.sc, .slice none 0 0, .slice m1.ta m1.tn m1.tc].toList) := fun V hV => HX7.out V (hV.trans (HB9.out.block _ HL7.out))
          have HL9 : Hid (w6.heap.size < w9.heap.size) := Nat.lt_of_lt_of_le HL7.out HB9.out.size
          clear HCk HLk HHd HI7 HO7 HCf7 HX7 HL7 HB6 HB7 HB9 HB
          have xc : w9.cell? ⟨w.heap.size, 0, none⟩ = some (.int .u64 m.cl) := (HV.out _ HBe.out).1 0 _ rfl
          by_cases hcl : m.cl = 0
          · have d0 : (m.cl == 0) = true := by simpa using hcl
            have d1 : decide (m.cl = 0) = true := by simpa using hcl
            clear hcl
            go_wp2
            go_ret
            exact ⟨rfl, HBw.out.trans (HBe.out.mono HBw.out.size)⟩
          have d0 : (m.cl == 0) = false := by simpa using hcl
          have d1 : decide (m.cl = 0) = false := by simpa using hcl
          have HAg := hide (doM_again (stM ms k) m.c hcl)
          clear hcl
          have HDo := hide (pdoP_any HI9.out m (M + 1) HP6.out HCf9.out HFm.out (by omega))
          go_upto_region 19 with (first
            | (refine wp_loadY layCm _ _ Tryz.underlying50 rfl rfl (.tmp 5) rfl w.heap.size 0 m #[.int .u64 m.cl, .int .u64 m.sq, .int .i64 m.kd, .int .u64 m.tx, .int .u64 m.ts, .bool m.fl, .int .u64 m.lk.l.tx, .int .i64 m.lk.l.lv, .int .i64 m.lk.l.md, .slice m.lk.la m.lk.ln m.lk.lc, .slice m.lk.ha m.lk.hn m.lk.hc, .slice m.lo.a m.lo.n m.lo.c, .slice m.hi.a m.hi.n m.hi.c, .slice m.txs.a m.txs.n m.txs.c, .slice m.ws.a m.ws.n m.ws.c, .slice m.ks.a m.ks.n m.ks.c, .int .i64 m.tb.id, .string (strB m.tb.nm), .slice m.tb.cs.a m.tb.cs.n m.tb.cs.c, .int .i64 m.tb.ky, .slice m.tb.ix.a m.tb.ix.n m.tb.ix.c] rfl rfl (HV.out _ HBe.out).1 ?_)
            | (go_at_call 10; go_must (refine HDo.out.mono ?_); rintro e wt ⟨a2, m2, rfl, hr2, hf2, hi2, hs2⟩; have HR2 := hide hr2; have HO2 := hide hf2; have HI2 := hide hi2; have HS2 := hide hs2; clear hr2 hf2 hi2 hs2; unfold MRes.v))
          clear d0 d1 xc HDo
          have HBt : Hid (Below W1.heap.size W1 wt) := mstep_kp HS2.out (fun j hj => (HX1.out j hj).2) HBe.out.size HBe.out
          have HPt : Hid (a2.p = M + 1) := HS2.out.p.trans HP6.out
          have HO1t := hide (HS2.out.foot HO9.out)
          have HIt : Hid (IsMm (fun _ => False) w8.heap.size wt a2 (2 * k + 2 + 2) (doM (stM ms k) m.c).2) := by
            have hh := HI2.out
            rw [HAg.out] at hh
            exact hh
          have HEr : Hid (m1.r = m2.r) := by
            show _ = _
            rw [HR6.out, HR2.out, HAg.out]
          have HXt : Hid (wt.rangeAt w6.heap.size 0 #[.int .i64 m1.er, .int .u64 m1.tx, .int .u64 m1.ts, .bool m1.fl, .slice m1.sa m1.sn m1.sc, .slice none 0 0, .slice m1.ta m1.tn m1.tc].toList) := HX9.out wt (HS2.out.kp.block w6.heap.size HL9.out (fun e => by have := (HX1.out _ e).1; omega))
          have HLt : Hid (w6.heap.size < wt.heap.size) := Nat.lt_of_lt_of_le HL9.out HS2.out.kp.size
          clear HS2 HI2 HR2 HR6 HAg HX9 HL9 HO9 HCf9 HI9 HX1 HBe
          obtain ⟨W5, hW5⟩ : ∃ W5, W5 = (wt.alloc (.cells #[.int .i64 m2.er, .int .u64 m2.tx, .int .u64 m2.ts, .bool m2.fl, .slice m2.sa m2.sn m2.sc, .slice none 0 0, .slice m2.ta m2.tn m2.tc] 55)) := ⟨_, rfl⟩
          rw [← hW5]
          have HN5 : Hid (Below wt.heap.size wt W5) := by subst hW5; exact new_below _ _
          have hx5 : W5.rangeAt wt.heap.size 0 #[.int .i64 m2.er, .int .u64 m2.tx, .int .u64 m2.ts, .bool m2.fl, .slice m2.sa m2.sn m2.sc, .slice none 0 0, .slice m2.ta m2.tn m2.tc].toList := by subst hW5; exact rangeY_new wt wt.heap.size _ _ rfl
          have hx1 : W5.rangeAt w6.heap.size 0 #[.int .i64 m1.er, .int .u64 m1.tx, .int .u64 m1.ts, .bool m1.fl, .slice m1.sa m1.sn m1.sc, .slice none 0 0, .slice m1.ta m1.tn m1.tc].toList := rangeY_same HXt.out (HN5.out.block _ HLt.out)
          clear hW5
          have x0 : W5.cell? ⟨w6.heap.size, 0, none⟩ = some (.int .i64 m1.er) := hx1 0 _ rfl
          have x1 : W5.cell? ⟨w6.heap.size, 1, none⟩ = some (.int .u64 m1.tx) := hx1 1 _ rfl
          have x2 : W5.cell? ⟨w6.heap.size, 2, none⟩ = some (.int .u64 m1.ts) := hx1 2 _ rfl
          have x3 : W5.cell? ⟨w6.heap.size, 3, none⟩ = some (.bool m1.fl) := hx1 3 _ rfl
          have x4 : W5.cell? ⟨w6.heap.size, 4, none⟩ = some (.slice m1.sa m1.sn m1.sc) := hx1 4 _ rfl
          have x5 : W5.cell? ⟨w6.heap.size, 5, none⟩ = some (.slice none 0 0) := hx1 5 _ rfl
          have x6 : W5.cell? ⟨w6.heap.size, 6, none⟩ = some (.slice m1.ta m1.tn m1.tc) := hx1 6 _ rfl
          have y0 : W5.cell? ⟨wt.heap.size, 0, none⟩ = some (.int .i64 m2.er) := hx5 0 _ rfl
          have y1 : W5.cell? ⟨wt.heap.size, 1, none⟩ = some (.int .u64 m2.tx) := hx5 1 _ rfl
          have y2 : W5.cell? ⟨wt.heap.size, 2, none⟩ = some (.int .u64 m2.ts) := hx5 2 _ rfl
          have y3 : W5.cell? ⟨wt.heap.size, 3, none⟩ = some (.bool m2.fl) := hx5 3 _ rfl
          have y4 : W5.cell? ⟨wt.heap.size, 4, none⟩ = some (.slice m2.sa m2.sn m2.sc) := hx5 4 _ rfl
          have y5 : W5.cell? ⟨wt.heap.size, 5, none⟩ = some (.slice none 0 0) := hx5 5 _ rfl
          have y6 : W5.cell? ⟨wt.heap.size, 6, none⟩ = some (.slice m2.ta m2.tn m2.tc) := hx5 6 _ rfl
          clear hx1 hx5
          have HSr := hide (xsameRes_any m1 m2 W5 (HO1t.out.keep HN5.out).now (HO2.out.keep HN5.out).now HEr.out)
          have HI5 := hide (HIt.out.keep HN5.out)
          have HBu : Hid (Below W1.heap.size W1 W5) := HBt.out.trans (HN5.out.mono HBt.out.size)
          have hck : ((doM (stM ms k) m.c).2.ck == (doM (stM ms k) m.c).2.ck) = true := by simp
          clear HXt HLt HO1t HO2 HEr HIt HBt HN5
          go_wp2_with (first
            | (go_at_call 15; have hq := HI6.out; go_must (refine (mheld_any hq (by omega)).mono ?_); rintro e wv ⟨lb, ld, rfl, hbv⟩; have HBv := hide (HBs.out.trans (hbv.mono HBs.out.size)); clear hbv hq)
            | (go_at_call 13; have hq := HI6.out; go_must (refine (plocksP_any hq (M + 1) HPt.out).mono ?_); rintro e wz ⟨rfl, hw⟩; have hw := hw.symm; subst hw; clear hq)
            | (go_at_call 12; have hq := HI6.out; go_must (refine (pclockP_any hq (M + 1) HPt.out).mono ?_); rintro e wz ⟨rfl, hw⟩; have hw := hw.symm; subst hw; clear hq)
            | (go_at_call 9; go_must (refine HSr.out.mono ?_); rintro e ws ⟨rfl, hbs⟩; have HBs := hide (HBu.out.trans (hbs.mono HBu.out.size)); have HI6 := hide (HI5.out.keep hbs); clear hbs))
          go_ret
          exact ⟨rfl, HBw.out.trans (HBv.out.mono HBw.out.size)⟩
end Go.Proofs.YtcgiicmmfleinaaGreatDoor
