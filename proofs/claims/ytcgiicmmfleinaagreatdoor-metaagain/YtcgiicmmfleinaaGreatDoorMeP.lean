/- The law MetaDecides. Printed by part/gen_mep.py. -/
import Derived.Test.YtcgiicmmfleinaaGreatDoorMfL
import Derived.Test.YtcgiicmmfleinaaGreatDoorDrA
import Derived.Test.YtcgiicmmfleinaaGreatDoorTx
import Derived.Deep.QuietTactic
import Derived.BigQuiet
namespace Go.Proofs.YtcgiicmmfleinaaGreatDoor
open Go.RowKit NumMath Go.ChangeShapes Go.WideShapes Go.Deep
set_option linter.unusedVariables false
set_option maxRecDepth 100000

theorem MB.handed.keep {m : MB} {w w' : World} (h : m.handed w) (hb : Below w.heap.size w w') : m.handed w' := ⟨h.1.keep hb, h.2⟩

theorem MCmd.handed.keep {m : MCmd} {w w' : World} (h : m.handed w) (hb : Below w.heap.size w w') : m.handed w' :=
  ⟨h.cl, h.sq, h.kd, h.tx, h.ts, ⟨⟨h.lk.1.1.keep hb, h.lk.1.2⟩, h.lk.2⟩, h.lo.keep hb, h.hi.keep hb, h.txs.keep hb, h.txr, h.ws.keep hb, fun x hx => ⟨(h.wok x hx).1.keep hb, (h.wok x hx).2.keep hb⟩, h.ks.keep hb, fun x hx => (h.kok x hx).keep hb, ⟨h.tb.1.keep hb, h.tb.2⟩⟩

/-- a list of commands that a law is handed -/
def IsCmL (w : World) (a : Option Addr) (n c : Nat) (xs : List MCmd) : Prop := IsY layCm w a n c xs ∧ (∀ m ∈ xs, m.handed w) ∧ n * 320 ≤ 140737488355328

/-- the machine behind the first k commands -/
def stM (ms : List MCmd) (k : Nat) : Mac := (ms.take k).foldl (fun S m => (doM S m.c).2) mac0

theorem stM_more {ms : List MCmd} {k : Nat} {m : MCmd} (h : ms[k]? = some m) : stM ms (k + 1) = (doM (stM ms k) m.c).2 := by
  unfold stM
  rw [List.take_add_one, h, List.foldl_append]
  rfl

theorem pdoP_any {F : Nat → Prop} {base : Nat} {a : Mm} {z : Nat} {S : Mac} {w : World} (h : IsMm F base w a z S) (m : MCmd) (p : Nat) (hp : a.p = p) (hc : Foot (fun k => a.X k ∨ F k) w (fun V => m.ok V)) (hf : m.c.Few) (hz : z ≤ 159) :
    Calls Tryz.prog 10 #[.pointer (some ⟨p, 0, none⟩), .agg #[.int .u64 m.cl, .int .u64 m.sq, .int .i64 m.kd, .int .u64 m.tx, .int .u64 m.ts, .bool m.fl, .int .u64 m.lk.l.tx, .int .i64 m.lk.l.lv, .int .i64 m.lk.l.md, .slice m.lk.la m.lk.ln m.lk.lc, .slice m.lk.ha m.lk.hn m.lk.hc, .slice m.lo.a m.lo.n m.lo.c, .slice m.hi.a m.hi.n m.hi.c, .slice m.txs.a m.txs.n m.txs.c, .slice m.ws.a m.ws.n m.ws.c, .slice m.ks.a m.ks.n m.ks.c, .int .i64 m.tb.id, .string (strB m.tb.nm), .slice m.tb.cs.a m.tb.cs.n m.tb.cs.c, .int .i64 m.tb.ky, .slice m.tb.ix.a m.tb.ix.n m.tb.ix.c]] w (RsPost F base w a (z + 2) (doM S m.c)) := by
  subst hp
  exact pdo_any h m hc hf hz
