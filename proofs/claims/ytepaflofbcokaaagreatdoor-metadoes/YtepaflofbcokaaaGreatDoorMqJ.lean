/- The law MetaAgain. Printed by part/gen_mqj.py. -/
import Derived.Test.YtepaflofbcokaaaGreatDoorMeP
import Derived.Test.YtepaflofbcokaaaGreatDoorMrB
namespace Go.Proofs.YtepaflofbcokaaaGreatDoor
open Go.RowKit NumMath Go.ChangeShapes Go.WideShapes Go.Deep
set_option linter.unusedVariables false
set_option maxRecDepth 100000

/-- a machine's result, as a law has it -/
def MRes.R (m : MRes) : MRr := ⟨m.er, m.tx, m.ts, m.fl, ⟨m.sa, m.sn, m.sc, m.ss⟩, ⟨none, 0, 0, []⟩, ⟨m.ta, m.tn, m.tc, m.tbs⟩⟩

theorem MRes.R_ok {m : MRes} {w : World} (h : m.ok w) : m.R.ok w := ⟨h.s, isY_nil w, h.t, by simp [MRes.R], h.k⟩

/-- a table, as results are held against each other -/
def Tbl.b (t : Tbl) : TbP := (t.id, (strB t.nm).toList, t.cs.map Colm.b, t.ky, t.ix)

def Res.p (r : Res) : ReP := (r.er, r.tx, r.ts, r.fl, r.ss, [], r.tbs.map Tbl.b)

theorem MRes.R_e (q : MRes) : q.R.p = q.r.p := by
  have e2 : q.tbs.map MTb.b = (q.tbs.map MTb.t).map Tbl.b := by rw [List.map_map]; rfl
  show ((q.er, q.tx, q.ts, q.fl, q.ss, ([] : List MCe).map MCe.p, q.tbs.map MTb.b) : ReP) = (q.er, q.tx, q.ts, q.fl, q.ss, [], (q.tbs.map MTb.t).map Tbl.b)
  rw [e2]
  rfl

theorem MRes.R_p {m k : MRes} (h : m.r = k.r) : m.R.p = k.R.p := by rw [MRes.R_e, MRes.R_e, h]

theorem xsameRes_any (x y : MRes) (w : World) (h : x.ok w) (k : y.ok w) (e : x.r = y.r) :
    Calls Tryz.prog 8 #[.agg #[.int .i64 x.er, .int .u64 x.tx, .int .u64 x.ts, .bool x.fl, .slice x.sa x.sn x.sc, .slice none 0 0, .slice x.ta x.tn x.tc], .agg #[.int .i64 y.er, .int .u64 y.tx, .int .u64 y.ts, .bool y.fl, .slice y.sa y.sn y.sc, .slice none 0 0, .slice y.ta y.tn y.tc]] w fun e w' => e = .returned (.bool true) ∧ Below w.heap.size w w' := by
  have h1 := xsameR_any x.R y.R w (MRes.R_ok h) (MRes.R_ok k)
  rw [show decide (x.R.p = y.R.p) = true from decide_eq_true (MRes.R_p e)] at h1
  exact h1

/-- a thing read at once, at an operation that its guard lets through -/
theorem wp_loadG {α : Type} (L : Lay α) {ops : Array Oper} {rest : List Oper} {o : Oper} {a : Act} {Q : Exit → Act → World → Prop} (w : World) (d : TypeDesc) (hu : Tryz.prog.underlying L.e = some d) (hd : d.isRow = true) (hgd : Region.wanted o (yielded ops a.tmps) = true) (y : Operand) (ho : o.op = .load L.e y) (g f : Nat) (x : α) (cs : Array Value) (hcs : (L.cells x).toArray = cs) (hx : a.eval y = .pointer (some ⟨g, f, none⟩)) (hc : w.rangeAt g f (L.cells x))
    (h : wpList Tryz.prog ops Q rest (a.put o.dst (.agg cs)) w) : wpList Tryz.prog ops Q (o :: rest) a w := by
  subst hcs
  refine wpList_step fun K hK => ?_
  rw [if_pos hgd]
  unfold Oper.wp execOp
  simp only [ho, hx, Sem.run_bind, run_loadY L w g f x d hu hd hc, Sem.run_pure, Result.andThen_ok]
  exact hK _ _ h

/-- one command, laid into a list of its own -/
theorem small_one (m : MCmd) (w W : World) (hW : W = w.alloc (.cells #[.int .u64 m.cl, .int .u64 m.sq, .int .i64 m.kd, .int .u64 m.tx, .int .u64 m.ts, .bool m.fl, .int .u64 m.lk.l.tx, .int .i64 m.lk.l.lv, .int .i64 m.lk.l.md, .slice m.lk.la m.lk.ln m.lk.lc, .slice m.lk.ha m.lk.hn m.lk.hc, .slice m.lo.a m.lo.n m.lo.c, .slice m.hi.a m.hi.n m.hi.c, .slice m.txs.a m.txs.n m.txs.c, .slice m.ws.a m.ws.n m.ws.c, .slice m.ks.a m.ks.n m.ks.c, .int .i64 m.tb.id, .string (strB m.tb.nm), .slice m.tb.cs.a m.tb.cs.n m.tb.cs.c, .int .i64 m.tb.ky, .slice m.tb.ix.a m.tb.ix.n m.tb.ix.c] 50)) (hm : m.handed w) : Calls Tryz.prog 6 #[.slice (some ⟨w.heap.size, 0, none⟩) 1 1] W fun e w' => ∃ z, e = .returned (.bool z) ∧ (z = true → m.small) ∧ Below w.heap.size w w' := by
  have hb : Below w.heap.size w W := by rw [hW]; exact new_below _ _
  have hI : IsY layCm W (some ⟨w.heap.size, 0, none⟩) 1 1 [m] := by rw [hW]; exact (ownY_one (L := layCm) w w.heap.size #[.int .u64 m.cl, .int .u64 m.sq, .int .i64 m.kd, .int .u64 m.tx, .int .u64 m.ts, .bool m.fl, .int .u64 m.lk.l.tx, .int .i64 m.lk.l.lv, .int .i64 m.lk.l.md, .slice m.lk.la m.lk.ln m.lk.lc, .slice m.lk.ha m.lk.hn m.lk.hc, .slice m.lo.a m.lo.n m.lo.c, .slice m.hi.a m.hi.n m.hi.c, .slice m.txs.a m.txs.n m.txs.c, .slice m.ws.a m.ws.n m.ws.c, .slice m.ks.a m.ks.n m.ks.c, .int .i64 m.tb.id, .string (strB m.tb.nm), .slice m.tb.cs.a m.tb.cs.n m.tb.cs.c, .int .i64 m.tb.ky, .slice m.tb.ix.a m.tb.ix.n m.tb.ix.c] m (Nat.le_refl _) rfl).is
  clear hW
  refine (small_any (some ⟨w.heap.size, 0, none⟩) 1 1 [m] W hI (fun q hq => by rw [List.mem_singleton] at hq; subst hq; exact hm.keep hb) (by omega)).mono ?_
  rintro e w' ⟨z, rfl, h1, h2⟩
  exact ⟨z, rfl, fun hz => (h1 hz).1 m (List.mem_singleton.2 rfl), hb.trans (h2.mono hb.size)⟩

theorem field0R (v0 v1 v2 v3 v4 v5 v6 : Value) (W : World) : (Instr.field 55 (.agg #[v0, v1, v2, v3, v4, v5, v6]) 0).run Tryz.prog W = .ok v0 W := by rfl

/-- .. as one operation of a region that draws -/
theorem run_loadT {α : Type} (L : Lay α) (w : World) (d : TypeDesc) (hu : Tryz.prog.underlying L.e = some d) (hd : d.isRow = true) (a : Act) (o : Oper) (y : Operand) (ho : o.op = .load L.e y) (g f : Nat) (x : α) (cs : Array Value) (hcs : (L.cells x).toArray = cs) (hx : a.eval y = .pointer (some ⟨g, f, none⟩)) (hc : w.rangeAt g f (L.cells x)) :
    (execOp a.eval o).run Tryz.prog w = .ok (.value (.agg cs)) w := by
  subst hcs
  unfold execOp
  simp only [ho, hx, Sem.run_bind, run_loadY L w g f x d hu hd hc, Sem.run_pure, Result.andThen_ok]

theorem pclockP_any {F : Nat → Prop} {base : Nat} {a : Mm} {z : Nat} {S : Mac} {w : World} (h : IsMm F base w a z S) (p : Nat) (hp : a.p = p) : Calls Tryz.prog 11 #[.pointer (some ⟨p, 0, none⟩)] w fun e w' => e = .returned (.int .u64 S.ck) ∧ w' = w := by
  subst hp
  exact pclock_any h

theorem plocksP_any {F : Nat → Prop} {base : Nat} {a : Mm} {z : Nat} {S : Mac} {w : World} (h : IsMm F base w a z S) (p : Nat) (hp : a.p = p) : Calls Tryz.prog 12 #[.pointer (some ⟨p, 0, none⟩)] w fun e w' => e = .returned (.pointer (some ⟨a.q, 0, none⟩)) ∧ w' = w := by
  subst hp
  exact plocks_any h