/- Two messages that are alike, side by side; a message read behind a guard. -/
import Derived.Test.YtodmieehdleohaaMx3
import Derived.Deep.CutRange
namespace Go.Proofs.Ytodmieehdleohaa
open Go.RowKit NumMath Go.ChangeShapes Go.WideShapes Go.Deep
set_option linter.unusedVariables false
set_option maxRecDepth 100000

theorem same_any (m y : MMsg) (w : World) (hp : m.pure = y.pure) (h1 : m.okX (fun _ => False) w) (h2 : y.okX (fun _ => False) w) (ga gb : Nat) (hx : CellG w ga 0 m) (hy : CellG w gb 0 y) (hga : ga < w.heap.size) (hgb : gb < w.heap.size) :
    Calls Try.prog 13 #[.slice (some ⟨ga, 0, none⟩) 1 1, .slice (some ⟨gb, 0, none⟩) 1 1] w fun e w' => e = .returned (.bool true) ∧ Below w.heap.size w w' := by
  obtain ⟨k, fr, tt, tm, ix, lt, cm, hn, rj, ea, en, ec, es, si, st, ma, mn, mc, mm, sa, sn, sc, sd⟩ := m
  obtain ⟨k', fr', tt', tm', ix', lt', cm', hn', rj', ea', en', ec', es', si', st', ma', mn', mc', mm', sa', sn', sc', sd'⟩ := y
  simp only [MMsg.pure, PMsg.mk.injEq] at hp
  obtain ⟨rfl, rfl, rfl, rfl, rfl, rfl, rfl, rfl, rfl, hes, rfl, rfl, rfl, rfl⟩ := hp
  have e1 := h1.es
  have e2 := h2.es
  have n1 := h1.mm
  have n2 := h2.mm
  dsimp only at e1 e2 n1 n2
  have hen : en' = en := by have := congrArg List.length hes; rw [List.length_map, List.length_map] at this; have := e1.1; have := e2.1; omega
  have hmn : mn' = mn := by have := n1.1; have := n2.1; omega
  subst hen hmn
  exact sameMs_one _ _ _ _ _ _ _ _ _ _ _ _ _ _ _ _ _ _ _ _ _ _ _ _ _ _ _ _ _ _ _ _ _ w hx hy hga hgb e1 e2 hes n1 n2 h1.sd h2.sd

/-- a message read whole, where its guard lets it -/
theorem wp_loadGw {ops : Array Oper} {rest : List Oper} {o : Oper} {a : Act} {Q : Exit → Act → World → Prop} (w : World) (hgd : Region.wanted o (yielded ops a.tmps) = true) (x : Operand) (ho : o.op = .load 39 x) (g f : Nat) (m : MMsg) (hx : a.eval x = .pointer (some ⟨g, f, none⟩)) (hc : CellG w g f m)
    (h : wpList Try.prog ops Q rest (a.put o.dst (.agg #[.int .i64 m.k, .int .u64 m.fr, .int .u64 m.tt, .int .u64 m.tm, .int .u64 m.ix, .int .u64 m.lt, .int .u64 m.cm, .int .u64 m.hn, .bool m.rj, .slice m.ea m.en m.ec, .int .u64 m.si, .int .u64 m.st, .slice m.ma m.mn m.mc, .slice m.sa m.sn m.sc])) w) : wpList Try.prog ops Q (o :: rest) a w := by
  refine BigFrame.wpList_want hgd fun K hK => ?_
  unfold Oper.wp execOp
  simp only [ho, hx, Sem.run_bind, run_loadG w g f m hc, Sem.run_pure, Result.andThen_ok]
  exact hK _ _ h

theorem same_new (w6 : World) (y1 y2 : MMsg) (hpp : y1.pure = y2.pure) (ho1 : y1.okX (fun _ => False) w6) (ho2 : y2.okX (fun _ => False) w6) (ta tb tc : TypeId) (ga gb : Nat) (hga : w6.heap.size + 1 = ga) (hgb : w6.heap.size + 2 = gb) :
    Calls Try.prog 13 #[.slice (some ⟨ga, 0, none⟩) 1 1, .slice (some ⟨gb, 0, none⟩) 1 1] (((w6.alloc (.cells #[.int .i64 y2.k, .int .u64 y2.fr, .int .u64 y2.tt, .int .u64 y2.tm, .int .u64 y2.ix, .int .u64 y2.lt, .int .u64 y2.cm, .int .u64 y2.hn, .bool y2.rj, .slice y2.ea y2.en y2.ec, .int .u64 y2.si, .int .u64 y2.st, .slice y2.ma y2.mn y2.mc, .slice y2.sa y2.sn y2.sc] ta)).alloc (.cells #[.int .i64 y1.k, .int .u64 y1.fr, .int .u64 y1.tt, .int .u64 y1.tm, .int .u64 y1.ix, .int .u64 y1.lt, .int .u64 y1.cm, .int .u64 y1.hn, .bool y1.rj, .slice y1.ea y1.en y1.ec, .int .u64 y1.si, .int .u64 y1.st, .slice y1.ma y1.mn y1.mc, .slice y1.sa y1.sn y1.sc] tb)).alloc (.cells #[.int .i64 y2.k, .int .u64 y2.fr, .int .u64 y2.tt, .int .u64 y2.tm, .int .u64 y2.ix, .int .u64 y2.lt, .int .u64 y2.cm, .int .u64 y2.hn, .bool y2.rj, .slice y2.ea y2.en y2.ec, .int .u64 y2.si, .int .u64 y2.st, .slice y2.ma y2.mn y2.mc, .slice y2.sa y2.sn y2.sc] tc)) fun e w' => e = .returned (.bool true) ∧ Below w6.heap.size w6 w' := by
  subst hga hgb
  have hb : Below w6.heap.size w6 (((w6.alloc (.cells #[.int .i64 y2.k, .int .u64 y2.fr, .int .u64 y2.tt, .int .u64 y2.tm, .int .u64 y2.ix, .int .u64 y2.lt, .int .u64 y2.cm, .int .u64 y2.hn, .bool y2.rj, .slice y2.ea y2.en y2.ec, .int .u64 y2.si, .int .u64 y2.st, .slice y2.ma y2.mn y2.mc, .slice y2.sa y2.sn y2.sc] ta)).alloc (.cells #[.int .i64 y1.k, .int .u64 y1.fr, .int .u64 y1.tt, .int .u64 y1.tm, .int .u64 y1.ix, .int .u64 y1.lt, .int .u64 y1.cm, .int .u64 y1.hn, .bool y1.rj, .slice y1.ea y1.en y1.ec, .int .u64 y1.si, .int .u64 y1.st, .slice y1.ma y1.mn y1.mc, .slice y1.sa y1.sn y1.sc] tb)).alloc (.cells #[.int .i64 y2.k, .int .u64 y2.fr, .int .u64 y2.tt, .int .u64 y2.tm, .int .u64 y2.ix, .int .u64 y2.lt, .int .u64 y2.cm, .int .u64 y2.hn, .bool y2.rj, .slice y2.ea y2.en y2.ec, .int .u64 y2.si, .int .u64 y2.st, .slice y2.ma y2.mn y2.mc, .slice y2.sa y2.sn y2.sc] tc)) := belA (belA (new_below _ _) _) _
  have h1 := (boxG_new (w6.alloc (.cells #[.int .i64 y2.k, .int .u64 y2.fr, .int .u64 y2.tt, .int .u64 y2.tm, .int .u64 y2.ix, .int .u64 y2.lt, .int .u64 y2.cm, .int .u64 y2.hn, .bool y2.rj, .slice y2.ea y2.en y2.ec, .int .u64 y2.si, .int .u64 y2.st, .slice y2.ma y2.mn y2.mc, .slice y2.sa y2.sn y2.sc] ta)) y1 (w6.heap.size + 1) tb (by simp)).keep (new_below _ (.cells #[.int .i64 y2.k, .int .u64 y2.fr, .int .u64 y2.tt, .int .u64 y2.tm, .int .u64 y2.ix, .int .u64 y2.lt, .int .u64 y2.cm, .int .u64 y2.hn, .bool y2.rj, .slice y2.ea y2.en y2.ec, .int .u64 y2.si, .int .u64 y2.st, .slice y2.ma y2.mn y2.mc, .slice y2.sa y2.sn y2.sc] tc))
  have h2 := boxG_new ((w6.alloc (.cells #[.int .i64 y2.k, .int .u64 y2.fr, .int .u64 y2.tt, .int .u64 y2.tm, .int .u64 y2.ix, .int .u64 y2.lt, .int .u64 y2.cm, .int .u64 y2.hn, .bool y2.rj, .slice y2.ea y2.en y2.ec, .int .u64 y2.si, .int .u64 y2.st, .slice y2.ma y2.mn y2.mc, .slice y2.sa y2.sn y2.sc] ta)).alloc (.cells #[.int .i64 y1.k, .int .u64 y1.fr, .int .u64 y1.tt, .int .u64 y1.tm, .int .u64 y1.ix, .int .u64 y1.lt, .int .u64 y1.cm, .int .u64 y1.hn, .bool y1.rj, .slice y1.ea y1.en y1.ec, .int .u64 y1.si, .int .u64 y1.st, .slice y1.ma y1.mn y1.mc, .slice y1.sa y1.sn y1.sc] tb)) y2 (w6.heap.size + 2) tc (by simp)
  exact (same_any y1 y2 _ hpp (ho1.keep hb) (ho2.keep hb) _ _ h1.c h2.c h1.lt h2.lt).mono (fun e w' h => ⟨h.1, hb.trans (h.2.mono hb.size)⟩)

end Go.Proofs.Ytodmieehdleohaa
