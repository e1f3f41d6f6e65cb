/- A message comes: Step, in the node's own term or an elder one. -/
import Derived.Test.YtodmieehdleohaaGreatTm9
import Derived.Test.YtodmieehdleohaaGreatAs9
import Derived.Deep.MidRow
namespace Go.Proofs.YtodmieehdleohaaGreat
open Go.RowKit NumMath
set_option linter.unusedVariables false
set_option maxRecDepth 100000

theorem info14 : (Tryz.prog.info? 49).map (·.size) = some 14 := by kernel_rfl

/-- a message read whole -/
theorem wp_load14 {ops : Array Oper} {rest : List Oper} {o : Oper} {a : Act} {Q : Exit → Act → World → Prop} (w : World) (hgd : o.guard = none) (x : Operand) (ho : o.op = .load 49 x) (g : Nat) (m : MMsg) (hx : a.eval x = .pointer (some ⟨g, 0, none⟩)) (hc : Box14 w g m)
    (h : wpList Tryz.prog ops Q rest (a.put o.dst (.agg #[.int .i64 m.k, .int .u64 m.fr, .int .u64 m.tt, .int .u64 m.tm, .int .u64 m.ix, .int .u64 m.lt, .int .u64 m.cm, .int .u64 m.hn, .bool m.rj, .slice m.ea m.en m.ec, .int .u64 m.si, .int .u64 m.st, .slice m.ma m.mn m.mc, .slice m.sa m.sn m.sc])) w) : wpList Tryz.prog ops Q (o :: rest) a w := by
  refine wpList_plain hgd fun K hK => ?_
  have hr : w.rangeAt g 0 m.vals := fun j u hj => by
    have hj1 : j < 14 := (List.getElem?_eq_some_iff.1 hj).1
    rw [Nat.zero_add]
    exact (hc.1 j hj1).trans hj
  have hrun : (Instr.loadAt 49 (.pointer (some ⟨g, 0, none⟩))).run Tryz.prog w = .ok (.agg #[.int .i64 m.k, .int .u64 m.fr, .int .u64 m.tt, .int .u64 m.tm, .int .u64 m.ix, .int .u64 m.lt, .int .u64 m.cm, .int .u64 m.hn, .bool m.rj, .slice m.ea m.en m.ec, .int .u64 m.si, .int .u64 m.st, .slice m.ma m.mn m.mc, .slice m.sa m.sn m.sc]) w := run_loadAt_mid w g 0 49 m.vals _ hr Tryz.underlying49 rfl info14
  unfold Oper.wp execOp
  simp only [ho, hx, Sem.run_bind, hrun, Sem.run_pure, Result.andThen_ok]
  exact hK _ _ h

set_option maxHeartbeats 4000000 in
theorem step_a (X : Nat → Prop) (base p z : Nat) (N : Nd) (m : MMsg) (w0 w : World) (h : IsNd X w base p z N) (hO : N.Ok z) (hz : z ≤ 9000) (hB : w0.heap.size ≤ base) (hb0 : Below w0.heap.size w0 w) (hm : m.ok w0) (hS : SmallM m.en m.es) (hmn : m.mn ≤ 9) (hdn : m.sn ≤ 5000) (hl : N.L.s.i ≤ N.commit) (gt : (m.tt != N.id) = true) :
    Calls Tryz.prog 23 #[.pointer (some ⟨p, 0, none⟩), .agg #[.int .i64 m.k, .int .u64 m.fr, .int .u64 m.tt, .int .u64 m.tm, .int .u64 m.ix, .int .u64 m.lt, .int .u64 m.cm, .int .u64 m.hn, .bool m.rj, .slice m.ea m.en m.ec, .int .u64 m.si, .int .u64 m.st, .slice m.ma m.mn m.mc, .slice m.sa m.sn m.sc]] w fun e w' => e = .returned (.tuple #[]) ∧ NPost X w base p (z + 21) (Fwd (z + 12) N) w' := by
  have HO := hide hO
  have hpl := h.at.2
  have hne : ¬ w.heap.size = p := by omega
  have hne2 : ¬ p = w.heap.size := by omega
  have HXB : Hid (¬ X w.heap.size) := fun hx => by have := (h.rng _ hx).2; omega
  have HBx := hide (box14_new w m w.heap.size 49 rfl)
  have hb0w := new_below w (.cells #[.int .i64 m.k, .int .u64 m.fr, .int .u64 m.tt, .int .u64 m.tm, .int .u64 m.ix, .int .u64 m.lt, .int .u64 m.cm, .int .u64 m.hn, .bool m.rj, .slice m.ea m.en m.ec, .int .u64 m.si, .int .u64 m.st, .slice m.ma m.mn m.mc, .slice m.sa m.sn m.sc] 49)
  have HBW := hide hb0w
  have HN := hide h
  have HM := hide hm
  have HS := hide hS
  have HFin0 : Hid (Fwd (z + 12) N N) := Fwd.refl (hO.mono (by omega))
  have HB0w := hide hb0
  have HL := hide hl
  obtain ⟨c0, c1, c2, -⟩ := (h.keep hb0w).c
  have f1 := (h.keep hb0w).fz 1
  have f2 := (h.keep hb0w).fz 2
  have hB1 : w.heap.size < (w.alloc (.cells #[.int .i64 m.k, .int .u64 m.fr, .int .u64 m.tt, .int .u64 m.tm, .int .u64 m.ix, .int .u64 m.lt, .int .u64 m.cm, .int .u64 m.hn, .bool m.rj, .slice m.ea m.en m.ec, .int .u64 m.si, .int .u64 m.st, .slice m.ma m.mn m.mc, .slice m.sa m.sn m.sc] 49)).heap.size := HBx.out.2
  have hp1 : p < (w.alloc (.cells #[.int .i64 m.k, .int .u64 m.fr, .int .u64 m.tt, .int .u64 m.tm, .int .u64 m.ix, .int .u64 m.lt, .int .u64 m.cm, .int .u64 m.hn, .bool m.rj, .slice m.ea m.en m.ec, .int .u64 m.si, .int .u64 m.st, .slice m.ma m.mn m.mc, .slice m.sa m.sn m.sc] 49)).heap.size := (h.keep hb0w).at.2
  obtain ⟨b0, -, b2, b3, -⟩ := HBx.out.c
  have HK1 := hide (fun W (hW : Below (w.alloc (.cells #[.int .i64 m.k, .int .u64 m.fr, .int .u64 m.tt, .int .u64 m.tm, .int .u64 m.ix, .int .u64 m.lt, .int .u64 m.cm, .int .u64 m.hn, .bool m.rj, .slice m.ea m.en m.ec, .int .u64 m.si, .int .u64 m.st, .slice m.ma m.mn m.mc, .slice m.sa m.sn m.sc] 49)).heap.size (w.alloc (.cells #[.int .i64 m.k, .int .u64 m.fr, .int .u64 m.tt, .int .u64 m.tm, .int .u64 m.ix, .int .u64 m.lt, .int .u64 m.cm, .int .u64 m.hn, .bool m.rj, .slice m.ea m.en m.ec, .int .u64 m.si, .int .u64 m.st, .slice m.ma m.mn m.mc, .slice m.sa m.sn m.sc] 49)) W) => And.intro ((hW.cell (p := ⟨p, 0, none⟩) hp1).trans c0) (And.intro ((hW.cell (p := ⟨p, 1, none⟩) hp1).trans c1) (And.intro ((hW.cell (p := ⟨w.heap.size, 2, none⟩) hB1).trans b2) ((hW.cell (p := ⟨w.heap.size, 3, none⟩) hB1).trans b3))))
  clear h hO hm hS hb0w hb0 hl
  go_enter Tryz.func23, Tryz.ntmps23
  go_wp2_with fail
  go_region_held3 (fun W => W.cell? ⟨p, 0, none⟩ = some (.int .u64 N.id) ∧ W.cell? ⟨p, 1, none⟩ = some (.int .u64 N.term) ∧ W.cell? ⟨w.heap.size, 2, none⟩ = some (.int .u64 m.tt) ∧ W.cell? ⟨w.heap.size, 3, none⟩ = some (.int .u64 m.tm)) (first | exact HK1.out _ (by repeat (first | exact Below.refl _ _ | refine bel_alloc ?_ _ | refine Below.drew ?_))) (first
    | (go_at_call 56; go_must (refine (made_any X base p z N _ (HN.out.keep (by repeat (first | exact Below.refl _ _ | refine bel_alloc ?_ _ | refine Below.drew ?_)))).mono ?_); rintro e wm ⟨rfl, hw⟩; have hw := hw.symm; subst hw))
  all_goals
    go_wp2
    refine bodyPost_ret (results_none rfl _ _ _) rfl ?_
    exact ⟨rfl, NPost.behind (NPost.of (HN.out.mono (by omega)) HFin0.out (Keeps.self _ _)) (by repeat (first | exact Below.refl _ _ | refine bel_alloc ?_ _ | refine Below.drew ?_))⟩

set_option maxHeartbeats 4000000 in
theorem step_b (X : Nat → Prop) (base p z : Nat) (N : Nd) (m : MMsg) (w0 w : World) (h : IsNd X w base p z N) (hO : N.Ok z) (hz : z ≤ 9000) (hB : w0.heap.size ≤ base) (hb0 : Below w0.heap.size w0 w) (hm : m.ok w0) (hS : SmallM m.en m.es) (hmn : m.mn ≤ 9) (hdn : m.sn ≤ 5000) (hl : N.L.s.i ≤ N.commit) (gt : (m.tt != N.id) = false) (g2 : decide (N.term < m.tm) = false) (g5 : decide (m.tm < N.term) = true) :
    Calls Tryz.prog 23 #[.pointer (some ⟨p, 0, none⟩), .agg #[.int .i64 m.k, .int .u64 m.fr, .int .u64 m.tt, .int .u64 m.tm, .int .u64 m.ix, .int .u64 m.lt, .int .u64 m.cm, .int .u64 m.hn, .bool m.rj, .slice m.ea m.en m.ec, .int .u64 m.si, .int .u64 m.st, .slice m.ma m.mn m.mc, .slice m.sa m.sn m.sc]] w fun e w' => e = .returned (.tuple #[]) ∧ NPost X w base p (z + 21) (Fwd (z + 12) N) w' := by
  have HO := hide hO
  have hpl := h.at.2
  have hne : ¬ w.heap.size = p := by omega
  have hne2 : ¬ p = w.heap.size := by omega
  have HXB : Hid (¬ X w.heap.size) := fun hx => by have := (h.rng _ hx).2; omega
  have HBx := hide (box14_new w m w.heap.size 49 rfl)
  have hb0w := new_below w (.cells #[.int .i64 m.k, .int .u64 m.fr, .int .u64 m.tt, .int .u64 m.tm, .int .u64 m.ix, .int .u64 m.lt, .int .u64 m.cm, .int .u64 m.hn, .bool m.rj, .slice m.ea m.en m.ec, .int .u64 m.si, .int .u64 m.st, .slice m.ma m.mn m.mc, .slice m.sa m.sn m.sc] 49)
  have HBW := hide hb0w
  have HN := hide h
  have HM := hide hm
  have HS := hide hS
  have HFin0 : Hid (Fwd (z + 12) N N) := Fwd.refl (hO.mono (by omega))
  have HB0w := hide hb0
  have HL := hide hl
  obtain ⟨c0, c1, c2, -⟩ := (h.keep hb0w).c
  have f1 := (h.keep hb0w).fz 1
  have f2 := (h.keep hb0w).fz 2
  have hB1 : w.heap.size < (w.alloc (.cells #[.int .i64 m.k, .int .u64 m.fr, .int .u64 m.tt, .int .u64 m.tm, .int .u64 m.ix, .int .u64 m.lt, .int .u64 m.cm, .int .u64 m.hn, .bool m.rj, .slice m.ea m.en m.ec, .int .u64 m.si, .int .u64 m.st, .slice m.ma m.mn m.mc, .slice m.sa m.sn m.sc] 49)).heap.size := HBx.out.2
  have hp1 : p < (w.alloc (.cells #[.int .i64 m.k, .int .u64 m.fr, .int .u64 m.tt, .int .u64 m.tm, .int .u64 m.ix, .int .u64 m.lt, .int .u64 m.cm, .int .u64 m.hn, .bool m.rj, .slice m.ea m.en m.ec, .int .u64 m.si, .int .u64 m.st, .slice m.ma m.mn m.mc, .slice m.sa m.sn m.sc] 49)).heap.size := (h.keep hb0w).at.2
  obtain ⟨b0, -, b2, b3, -⟩ := HBx.out.c
  have HK1 := hide (fun W (hW : Below (w.alloc (.cells #[.int .i64 m.k, .int .u64 m.fr, .int .u64 m.tt, .int .u64 m.tm, .int .u64 m.ix, .int .u64 m.lt, .int .u64 m.cm, .int .u64 m.hn, .bool m.rj, .slice m.ea m.en m.ec, .int .u64 m.si, .int .u64 m.st, .slice m.ma m.mn m.mc, .slice m.sa m.sn m.sc] 49)).heap.size (w.alloc (.cells #[.int .i64 m.k, .int .u64 m.fr, .int .u64 m.tt, .int .u64 m.tm, .int .u64 m.ix, .int .u64 m.lt, .int .u64 m.cm, .int .u64 m.hn, .bool m.rj, .slice m.ea m.en m.ec, .int .u64 m.si, .int .u64 m.st, .slice m.ma m.mn m.mc, .slice m.sa m.sn m.sc] 49)) W) => And.intro ((hW.cell (p := ⟨p, 0, none⟩) hp1).trans c0) (And.intro ((hW.cell (p := ⟨p, 1, none⟩) hp1).trans c1) (And.intro ((hW.cell (p := ⟨w.heap.size, 2, none⟩) hB1).trans b2) ((hW.cell (p := ⟨w.heap.size, 3, none⟩) hB1).trans b3))))
  clear h hO hm hS hb0w hb0 hl
  go_enter Tryz.func23, Tryz.ntmps23
  go_wp2_with fail
  go_region_held3 (fun W => W.cell? ⟨p, 0, none⟩ = some (.int .u64 N.id) ∧ W.cell? ⟨p, 1, none⟩ = some (.int .u64 N.term) ∧ W.cell? ⟨w.heap.size, 2, none⟩ = some (.int .u64 m.tt) ∧ W.cell? ⟨w.heap.size, 3, none⟩ = some (.int .u64 m.tm)) (first | exact HK1.out _ (by repeat (first | exact Below.refl _ _ | refine bel_alloc ?_ _ | refine Below.drew ?_))) (first
    | (go_at_call 56; go_must (refine (made_any X base p z N _ (HN.out.keep (by repeat (first | exact Below.refl _ _ | refine bel_alloc ?_ _ | refine Below.drew ?_)))).mono ?_); rintro e wm ⟨rfl, hw⟩; have hw := hw.symm; subst hw))
  all_goals
    go_wp2_with fail
    go_region_held3 (fun W => W.cell? ⟨p, 0, none⟩ = some (.int .u64 N.id) ∧ W.cell? ⟨p, 1, none⟩ = some (.int .u64 N.term) ∧ W.cell? ⟨w.heap.size, 2, none⟩ = some (.int .u64 m.tt) ∧ W.cell? ⟨w.heap.size, 3, none⟩ = some (.int .u64 m.tm)) (first | exact HK1.out _ (by repeat (first | exact Below.refl _ _ | refine bel_alloc ?_ _ | refine Below.drew ?_))) (fail)
  all_goals
    go_wp2_with fail
    go_region_held3 (fun W => W.cell? ⟨p, 0, none⟩ = some (.int .u64 N.id) ∧ W.cell? ⟨p, 1, none⟩ = some (.int .u64 N.term) ∧ W.cell? ⟨w.heap.size, 2, none⟩ = some (.int .u64 m.tt) ∧ W.cell? ⟨w.heap.size, 3, none⟩ = some (.int .u64 m.tm)) (first | exact HK1.out _ (by repeat (first | exact Below.refl _ _ | refine bel_alloc ?_ _ | refine Below.drew ?_))) (fail)
  all_goals
    go_wp2_with (first
      | (refine wp_load14 _ rfl (.tmp 3) rfl w.heap.size m rfl (HBx.out.keep (by repeat (first | exact Below.refl _ _ | refine bel_alloc ?_ _ | refine Below.drew ?_))) ?_)
      | (go_at_call 60; go_must (refine (refuse_any X base p z N m _ (HN.out.keep (by repeat (first | exact Below.refl _ _ | refine bel_alloc ?_ _ | refine Below.drew ?_))) (by omega)).mono ?_); rintro e w9 ⟨rfl, hp9⟩; have HP9 := hide (NPost.ahead (w := w) (w1 := _) (by repeat (first | exact Below.refl _ _ | refine bel_alloc ?_ _ | refine Below.drew ?_)) (hp9.imp (z' := z + 21) (by omega) (R' := Fwd (z + 12) N) (fun N' e => by rw [e]; exact HFin0.out))); clear hp9))
    refine bodyPost_ret (results_none rfl _ _ _) rfl ?_
    exact ⟨rfl, HP9.out⟩

set_option maxHeartbeats 4000000 in
theorem step_c1 (X : Nat → Prop) (base p z : Nat) (N : Nd) (m : MMsg) (w0 w : World) (h : IsNd X w base p z N) (hO : N.Ok z) (hz : z ≤ 9000) (hB : w0.heap.size ≤ base) (hb0 : Below w0.heap.size w0 w) (hm : m.ok w0) (hS : SmallM m.en m.es) (hmn : m.mn ≤ 9) (hdn : m.sn ≤ 5000) (hl : N.L.s.i ≤ N.commit) (gt : (m.tt != N.id) = false) (g2 : decide (N.term < m.tm) = false) (g5 : decide (m.tm < N.term) = false) (k1 : (m.k == 1) = true) :
    Calls Tryz.prog 23 #[.pointer (some ⟨p, 0, none⟩), .agg #[.int .i64 m.k, .int .u64 m.fr, .int .u64 m.tt, .int .u64 m.tm, .int .u64 m.ix, .int .u64 m.lt, .int .u64 m.cm, .int .u64 m.hn, .bool m.rj, .slice m.ea m.en m.ec, .int .u64 m.si, .int .u64 m.st, .slice m.ma m.mn m.mc, .slice m.sa m.sn m.sc]] w fun e w' => e = .returned (.tuple #[]) ∧ NPost X w base p (z + 21) (Fwd (z + 12) N) w' := by
  have HO := hide hO
  have hpl := h.at.2
  have hne : ¬ w.heap.size = p := by omega
  have hne2 : ¬ p = w.heap.size := by omega
  have HXB : Hid (¬ X w.heap.size) := fun hx => by have := (h.rng _ hx).2; omega
  have HBx := hide (box14_new w m w.heap.size 49 rfl)
  have hb0w := new_below w (.cells #[.int .i64 m.k, .int .u64 m.fr, .int .u64 m.tt, .int .u64 m.tm, .int .u64 m.ix, .int .u64 m.lt, .int .u64 m.cm, .int .u64 m.hn, .bool m.rj, .slice m.ea m.en m.ec, .int .u64 m.si, .int .u64 m.st, .slice m.ma m.mn m.mc, .slice m.sa m.sn m.sc] 49)
  have HBW := hide hb0w
  have HN := hide h
  have HM := hide hm
  have HS := hide hS
  have HFin0 : Hid (Fwd (z + 12) N N) := Fwd.refl (hO.mono (by omega))
  have HB0w := hide hb0
  have HL := hide hl
  obtain ⟨c0, c1, c2, -⟩ := (h.keep hb0w).c
  have f1 := (h.keep hb0w).fz 1
  have f2 := (h.keep hb0w).fz 2
  have hB1 : w.heap.size < (w.alloc (.cells #[.int .i64 m.k, .int .u64 m.fr, .int .u64 m.tt, .int .u64 m.tm, .int .u64 m.ix, .int .u64 m.lt, .int .u64 m.cm, .int .u64 m.hn, .bool m.rj, .slice m.ea m.en m.ec, .int .u64 m.si, .int .u64 m.st, .slice m.ma m.mn m.mc, .slice m.sa m.sn m.sc] 49)).heap.size := HBx.out.2
  have hp1 : p < (w.alloc (.cells #[.int .i64 m.k, .int .u64 m.fr, .int .u64 m.tt, .int .u64 m.tm, .int .u64 m.ix, .int .u64 m.lt, .int .u64 m.cm, .int .u64 m.hn, .bool m.rj, .slice m.ea m.en m.ec, .int .u64 m.si, .int .u64 m.st, .slice m.ma m.mn m.mc, .slice m.sa m.sn m.sc] 49)).heap.size := (h.keep hb0w).at.2
  obtain ⟨b0, -, b2, b3, -⟩ := HBx.out.c
  have HK1 := hide (fun W (hW : Below (w.alloc (.cells #[.int .i64 m.k, .int .u64 m.fr, .int .u64 m.tt, .int .u64 m.tm, .int .u64 m.ix, .int .u64 m.lt, .int .u64 m.cm, .int .u64 m.hn, .bool m.rj, .slice m.ea m.en m.ec, .int .u64 m.si, .int .u64 m.st, .slice m.ma m.mn m.mc, .slice m.sa m.sn m.sc] 49)).heap.size (w.alloc (.cells #[.int .i64 m.k, .int .u64 m.fr, .int .u64 m.tt, .int .u64 m.tm, .int .u64 m.ix, .int .u64 m.lt, .int .u64 m.cm, .int .u64 m.hn, .bool m.rj, .slice m.ea m.en m.ec, .int .u64 m.si, .int .u64 m.st, .slice m.ma m.mn m.mc, .slice m.sa m.sn m.sc] 49)) W) => And.intro ((hW.cell (p := ⟨p, 0, none⟩) hp1).trans c0) (And.intro ((hW.cell (p := ⟨p, 1, none⟩) hp1).trans c1) (And.intro ((hW.cell (p := ⟨w.heap.size, 2, none⟩) hB1).trans b2) ((hW.cell (p := ⟨w.heap.size, 3, none⟩) hB1).trans b3))))
  clear h hO hm hS hb0w hb0 hl
  have HN1 := hide (HN.out.keep HBW.out)
  have HKW := hide (Below.keeps HBW.out X)
  have HFm := hide (Fw.refl N)
  go_enter Tryz.func23, Tryz.ntmps23
  go_wp2_with fail
  go_region_held3 (fun W => W.cell? ⟨p, 0, none⟩ = some (.int .u64 N.id) ∧ W.cell? ⟨p, 1, none⟩ = some (.int .u64 N.term) ∧ W.cell? ⟨w.heap.size, 2, none⟩ = some (.int .u64 m.tt) ∧ W.cell? ⟨w.heap.size, 3, none⟩ = some (.int .u64 m.tm)) (first | exact HK1.out _ (by repeat (first | exact Below.refl _ _ | refine bel_alloc ?_ _ | refine Below.drew ?_))) (first
    | (go_at_call 56; go_must (refine (made_any X base p z N _ (HN.out.keep (by repeat (first | exact Below.refl _ _ | refine bel_alloc ?_ _ | refine Below.drew ?_)))).mono ?_); rintro e wm ⟨rfl, hw⟩; have hw := hw.symm; subst hw))
  all_goals
    go_wp2_with fail
    go_region_held3 (fun W => W.cell? ⟨p, 0, none⟩ = some (.int .u64 N.id) ∧ W.cell? ⟨p, 1, none⟩ = some (.int .u64 N.term) ∧ W.cell? ⟨w.heap.size, 2, none⟩ = some (.int .u64 m.tt) ∧ W.cell? ⟨w.heap.size, 3, none⟩ = some (.int .u64 m.tm)) (first | exact HK1.out _ (by repeat (first | exact Below.refl _ _ | refine bel_alloc ?_ _ | refine Below.drew ?_))) (fail)
  all_goals
    go_wp2_with fail
    go_region_held3 (fun W => W.cell? ⟨p, 0, none⟩ = some (.int .u64 N.id) ∧ W.cell? ⟨p, 1, none⟩ = some (.int .u64 N.term) ∧ W.cell? ⟨w.heap.size, 2, none⟩ = some (.int .u64 m.tt) ∧ W.cell? ⟨w.heap.size, 3, none⟩ = some (.int .u64 m.tm)) (first | exact HK1.out _ (by repeat (first | exact Below.refl _ _ | refine bel_alloc ?_ _ | refine Below.drew ?_))) (fail)
  all_goals
    go_wp2_with (first
      | (refine wp_load14 _ rfl (.tmp 3) rfl w.heap.size m rfl (HBx.out.keep (by repeat (first | exact Below.refl _ _ | refine bel_alloc ?_ _ | refine Below.drew ?_))) ?_)
      | (go_at_call 61; go_must (refine (askedVote_any X base p z N m _ (HN1.out.keep (by repeat (first | exact Below.refl _ _ | refine bel_alloc ?_ _ | refine Below.drew ?_))) HO.out (by omega) HM.out.fr).mono ?_); rintro e w9 ⟨rfl, hp9⟩; have HP9 := hide (NPost.then HKW.out (fun _ h => .inl h) (NPost.ahead (w := (w.alloc (.cells #[.int .i64 m.k, .int .u64 m.fr, .int .u64 m.tt, .int .u64 m.tm, .int .u64 m.ix, .int .u64 m.lt, .int .u64 m.cm, .int .u64 m.hn, .bool m.rj, .slice m.ea m.en m.ec, .int .u64 m.si, .int .u64 m.st, .slice m.ma m.mn m.mc, .slice m.sa m.sn m.sc] 49))) (w1 := _) (by repeat (first | exact Below.refl _ _ | refine bel_alloc ?_ _ | refine Below.drew ?_)) (hp9.imp (z' := z + 21) (by omega) (R' := Fwd (z + 12) N) (fun N' hF => ⟨HFm.out.trans hF.1, hF.2.mono (by omega)⟩)))); clear hp9))
    go_end0
    exact ⟨rfl, HP9.out⟩

set_option maxHeartbeats 4000000 in
theorem step_c2 (X : Nat → Prop) (base p z : Nat) (N : Nd) (m : MMsg) (w0 w : World) (h : IsNd X w base p z N) (hO : N.Ok z) (hz : z ≤ 9000) (hB : w0.heap.size ≤ base) (hb0 : Below w0.heap.size w0 w) (hm : m.ok w0) (hS : SmallM m.en m.es) (hmn : m.mn ≤ 9) (hdn : m.sn ≤ 5000) (hl : N.L.s.i ≤ N.commit) (gt : (m.tt != N.id) = false) (g2 : decide (N.term < m.tm) = false) (g5 : decide (m.tm < N.term) = false) (k1 : (m.k == 1) = false) (k2 : (m.k == 2) = true) :
    Calls Tryz.prog 23 #[.pointer (some ⟨p, 0, none⟩), .agg #[.int .i64 m.k, .int .u64 m.fr, .int .u64 m.tt, .int .u64 m.tm, .int .u64 m.ix, .int .u64 m.lt, .int .u64 m.cm, .int .u64 m.hn, .bool m.rj, .slice m.ea m.en m.ec, .int .u64 m.si, .int .u64 m.st, .slice m.ma m.mn m.mc, .slice m.sa m.sn m.sc]] w fun e w' => e = .returned (.tuple #[]) ∧ NPost X w base p (z + 21) (Fwd (z + 12) N) w' := by
  have HO := hide hO
  have hpl := h.at.2
  have hne : ¬ w.heap.size = p := by omega
  have hne2 : ¬ p = w.heap.size := by omega
  have HXB : Hid (¬ X w.heap.size) := fun hx => by have := (h.rng _ hx).2; omega
  have HBx := hide (box14_new w m w.heap.size 49 rfl)
  have hb0w := new_below w (.cells #[.int .i64 m.k, .int .u64 m.fr, .int .u64 m.tt, .int .u64 m.tm, .int .u64 m.ix, .int .u64 m.lt, .int .u64 m.cm, .int .u64 m.hn, .bool m.rj, .slice m.ea m.en m.ec, .int .u64 m.si, .int .u64 m.st, .slice m.ma m.mn m.mc, .slice m.sa m.sn m.sc] 49)
  have HBW := hide hb0w
  have HN := hide h
  have HM := hide hm
  have HS := hide hS
  have HFin0 : Hid (Fwd (z + 12) N N) := Fwd.refl (hO.mono (by omega))
  have HB0w := hide hb0
  have HL := hide hl
  obtain ⟨c0, c1, c2, -⟩ := (h.keep hb0w).c
  have f1 := (h.keep hb0w).fz 1
  have f2 := (h.keep hb0w).fz 2
  have hB1 : w.heap.size < (w.alloc (.cells #[.int .i64 m.k, .int .u64 m.fr, .int .u64 m.tt, .int .u64 m.tm, .int .u64 m.ix, .int .u64 m.lt, .int .u64 m.cm, .int .u64 m.hn, .bool m.rj, .slice m.ea m.en m.ec, .int .u64 m.si, .int .u64 m.st, .slice m.ma m.mn m.mc, .slice m.sa m.sn m.sc] 49)).heap.size := HBx.out.2
  have hp1 : p < (w.alloc (.cells #[.int .i64 m.k, .int .u64 m.fr, .int .u64 m.tt, .int .u64 m.tm, .int .u64 m.ix, .int .u64 m.lt, .int .u64 m.cm, .int .u64 m.hn, .bool m.rj, .slice m.ea m.en m.ec, .int .u64 m.si, .int .u64 m.st, .slice m.ma m.mn m.mc, .slice m.sa m.sn m.sc] 49)).heap.size := (h.keep hb0w).at.2
  obtain ⟨b0, -, b2, b3, -⟩ := HBx.out.c
  have HK1 := hide (fun W (hW : Below (w.alloc (.cells #[.int .i64 m.k, .int .u64 m.fr, .int .u64 m.tt, .int .u64 m.tm, .int .u64 m.ix, .int .u64 m.lt, .int .u64 m.cm, .int .u64 m.hn, .bool m.rj, .slice m.ea m.en m.ec, .int .u64 m.si, .int .u64 m.st, .slice m.ma m.mn m.mc, .slice m.sa m.sn m.sc] 49)).heap.size (w.alloc (.cells #[.int .i64 m.k, .int .u64 m.fr, .int .u64 m.tt, .int .u64 m.tm, .int .u64 m.ix, .int .u64 m.lt, .int .u64 m.cm, .int .u64 m.hn, .bool m.rj, .slice m.ea m.en m.ec, .int .u64 m.si, .int .u64 m.st, .slice m.ma m.mn m.mc, .slice m.sa m.sn m.sc] 49)) W) => And.intro ((hW.cell (p := ⟨p, 0, none⟩) hp1).trans c0) (And.intro ((hW.cell (p := ⟨p, 1, none⟩) hp1).trans c1) (And.intro ((hW.cell (p := ⟨w.heap.size, 2, none⟩) hB1).trans b2) ((hW.cell (p := ⟨w.heap.size, 3, none⟩) hB1).trans b3))))
  clear h hO hm hS hb0w hb0 hl
  have HN1 := hide (HN.out.keep HBW.out)
  have HKW := hide (Below.keeps HBW.out X)
  have HFm := hide (Fw.refl N)
  go_enter Tryz.func23, Tryz.ntmps23
  go_wp2_with fail
  go_region_held3 (fun W => W.cell? ⟨p, 0, none⟩ = some (.int .u64 N.id) ∧ W.cell? ⟨p, 1, none⟩ = some (.int .u64 N.term) ∧ W.cell? ⟨w.heap.size, 2, none⟩ = some (.int .u64 m.tt) ∧ W.cell? ⟨w.heap.size, 3, none⟩ = some (.int .u64 m.tm)) (first | exact HK1.out _ (by repeat (first | exact Below.refl _ _ | refine bel_alloc ?_ _ | refine Below.drew ?_))) (first
    | (go_at_call 56; go_must (refine (made_any X base p z N _ (HN.out.keep (by repeat (first | exact Below.refl _ _ | refine bel_alloc ?_ _ | refine Below.drew ?_)))).mono ?_); rintro e wm ⟨rfl, hw⟩; have hw := hw.symm; subst hw))
  all_goals
    go_wp2_with fail
    go_region_held3 (fun W => W.cell? ⟨p, 0, none⟩ = some (.int .u64 N.id) ∧ W.cell? ⟨p, 1, none⟩ = some (.int .u64 N.term) ∧ W.cell? ⟨w.heap.size, 2, none⟩ = some (.int .u64 m.tt) ∧ W.cell? ⟨w.heap.size, 3, none⟩ = some (.int .u64 m.tm)) (first | exact HK1.out _ (by repeat (first | exact Below.refl _ _ | refine bel_alloc ?_ _ | refine Below.drew ?_))) (fail)
  all_goals
    go_wp2_with fail
    go_region_held3 (fun W => W.cell? ⟨p, 0, none⟩ = some (.int .u64 N.id) ∧ W.cell? ⟨p, 1, none⟩ = some (.int .u64 N.term) ∧ W.cell? ⟨w.heap.size, 2, none⟩ = some (.int .u64 m.tt) ∧ W.cell? ⟨w.heap.size, 3, none⟩ = some (.int .u64 m.tm)) (first | exact HK1.out _ (by repeat (first | exact Below.refl _ _ | refine bel_alloc ?_ _ | refine Below.drew ?_))) (fail)
  all_goals
    go_wp2_with (first
      | (refine wp_load14 _ rfl (.tmp 3) rfl w.heap.size m rfl (HBx.out.keep (by repeat (first | exact Below.refl _ _ | refine bel_alloc ?_ _ | refine Below.drew ?_))) ?_)
      | (go_at_call 62; go_must (refine (toldVote_any X base p z N m _ (HN1.out.keep (by repeat (first | exact Below.refl _ _ | refine bel_alloc ?_ _ | refine Below.drew ?_))) HO.out (by omega) HM.out.fr).mono ?_); rintro e w9 ⟨rfl, hp9⟩; have HP9 := hide (NPost.then HKW.out (fun _ h => .inl h) (NPost.ahead (w := (w.alloc (.cells #[.int .i64 m.k, .int .u64 m.fr, .int .u64 m.tt, .int .u64 m.tm, .int .u64 m.ix, .int .u64 m.lt, .int .u64 m.cm, .int .u64 m.hn, .bool m.rj, .slice m.ea m.en m.ec, .int .u64 m.si, .int .u64 m.st, .slice m.ma m.mn m.mc, .slice m.sa m.sn m.sc] 49))) (w1 := _) (by repeat (first | exact Below.refl _ _ | refine bel_alloc ?_ _ | refine Below.drew ?_)) (hp9.imp (z' := z + 21) (by omega) (R' := Fwd (z + 12) N) (fun N' hF => ⟨HFm.out.trans hF.1, hF.2.mono (by omega)⟩)))); clear hp9))
    go_end0
    exact ⟨rfl, HP9.out⟩

set_option maxHeartbeats 4000000 in
theorem step_c3 (X : Nat → Prop) (base p z : Nat) (N : Nd) (m : MMsg) (w0 w : World) (h : IsNd X w base p z N) (hO : N.Ok z) (hz : z ≤ 9000) (hB : w0.heap.size ≤ base) (hb0 : Below w0.heap.size w0 w) (hm : m.ok w0) (hS : SmallM m.en m.es) (hmn : m.mn ≤ 9) (hdn : m.sn ≤ 5000) (hl : N.L.s.i ≤ N.commit) (gt : (m.tt != N.id) = false) (g2 : decide (N.term < m.tm) = false) (g5 : decide (m.tm < N.term) = false) (k1 : (m.k == 1) = false) (k2 : (m.k == 2) = false) (k3 : (m.k == 3) = true) :
    Calls Tryz.prog 23 #[.pointer (some ⟨p, 0, none⟩), .agg #[.int .i64 m.k, .int .u64 m.fr, .int .u64 m.tt, .int .u64 m.tm, .int .u64 m.ix, .int .u64 m.lt, .int .u64 m.cm, .int .u64 m.hn, .bool m.rj, .slice m.ea m.en m.ec, .int .u64 m.si, .int .u64 m.st, .slice m.ma m.mn m.mc, .slice m.sa m.sn m.sc]] w fun e w' => e = .returned (.tuple #[]) ∧ NPost X w base p (z + 21) (Fwd (z + 12) N) w' := by
  have HO := hide hO
  have hpl := h.at.2
  have hne : ¬ w.heap.size = p := by omega
  have hne2 : ¬ p = w.heap.size := by omega
  have HXB : Hid (¬ X w.heap.size) := fun hx => by have := (h.rng _ hx).2; omega
  have HBx := hide (box14_new w m w.heap.size 49 rfl)
  have hb0w := new_below w (.cells #[.int .i64 m.k, .int .u64 m.fr, .int .u64 m.tt, .int .u64 m.tm, .int .u64 m.ix, .int .u64 m.lt, .int .u64 m.cm, .int .u64 m.hn, .bool m.rj, .slice m.ea m.en m.ec, .int .u64 m.si, .int .u64 m.st, .slice m.ma m.mn m.mc, .slice m.sa m.sn m.sc] 49)
  have HBW := hide hb0w
  have HN := hide h
  have HM := hide hm
  have HS := hide hS
  have HFin0 : Hid (Fwd (z + 12) N N) := Fwd.refl (hO.mono (by omega))
  have HB0w := hide hb0
  have HL := hide hl
  obtain ⟨c0, c1, c2, -⟩ := (h.keep hb0w).c
  have f1 := (h.keep hb0w).fz 1
  have f2 := (h.keep hb0w).fz 2
  have hB1 : w.heap.size < (w.alloc (.cells #[.int .i64 m.k, .int .u64 m.fr, .int .u64 m.tt, .int .u64 m.tm, .int .u64 m.ix, .int .u64 m.lt, .int .u64 m.cm, .int .u64 m.hn, .bool m.rj, .slice m.ea m.en m.ec, .int .u64 m.si, .int .u64 m.st, .slice m.ma m.mn m.mc, .slice m.sa m.sn m.sc] 49)).heap.size := HBx.out.2
  have hp1 : p < (w.alloc (.cells #[.int .i64 m.k, .int .u64 m.fr, .int .u64 m.tt, .int .u64 m.tm, .int .u64 m.ix, .int .u64 m.lt, .int .u64 m.cm, .int .u64 m.hn, .bool m.rj, .slice m.ea m.en m.ec, .int .u64 m.si, .int .u64 m.st, .slice m.ma m.mn m.mc, .slice m.sa m.sn m.sc] 49)).heap.size := (h.keep hb0w).at.2
  obtain ⟨b0, -, b2, b3, -⟩ := HBx.out.c
  have HK1 := hide (fun W (hW : Below (w.alloc (.cells #[.int .i64 m.k, .int .u64 m.fr, .int .u64 m.tt, .int .u64 m.tm, .int .u64 m.ix, .int .u64 m.lt, .int .u64 m.cm, .int .u64 m.hn, .bool m.rj, .slice m.ea m.en m.ec, .int .u64 m.si, .int .u64 m.st, .slice m.ma m.mn m.mc, .slice m.sa m.sn m.sc] 49)).heap.size (w.alloc (.cells #[.int .i64 m.k, .int .u64 m.fr, .int .u64 m.tt, .int .u64 m.tm, .int .u64 m.ix, .int .u64 m.lt, .int .u64 m.cm, .int .u64 m.hn, .bool m.rj, .slice m.ea m.en m.ec, .int .u64 m.si, .int .u64 m.st, .slice m.ma m.mn m.mc, .slice m.sa m.sn m.sc] 49)) W) => And.intro ((hW.cell (p := ⟨p, 0, none⟩) hp1).trans c0) (And.intro ((hW.cell (p := ⟨p, 1, none⟩) hp1).trans c1) (And.intro ((hW.cell (p := ⟨w.heap.size, 2, none⟩) hB1).trans b2) ((hW.cell (p := ⟨w.heap.size, 3, none⟩) hB1).trans b3))))
  clear h hO hm hS hb0w hb0 hl
  have HN1 := hide (HN.out.keep HBW.out)
  have HKW := hide (Below.keeps HBW.out X)
  have HFm := hide (Fw.refl N)
  go_enter Tryz.func23, Tryz.ntmps23
  go_wp2_with fail
  go_region_held3 (fun W => W.cell? ⟨p, 0, none⟩ = some (.int .u64 N.id) ∧ W.cell? ⟨p, 1, none⟩ = some (.int .u64 N.term) ∧ W.cell? ⟨w.heap.size, 2, none⟩ = some (.int .u64 m.tt) ∧ W.cell? ⟨w.heap.size, 3, none⟩ = some (.int .u64 m.tm)) (first | exact HK1.out _ (by repeat (first | exact Below.refl _ _ | refine bel_alloc ?_ _ | refine Below.drew ?_))) (first
    | (go_at_call 56; go_must (refine (made_any X base p z N _ (HN.out.keep (by repeat (first | exact Below.refl _ _ | refine bel_alloc ?_ _ | refine Below.drew ?_)))).mono ?_); rintro e wm ⟨rfl, hw⟩; have hw := hw.symm; subst hw))
  all_goals
    go_wp2_with fail
    go_region_held3 (fun W => W.cell? ⟨p, 0, none⟩ = some (.int .u64 N.id) ∧ W.cell? ⟨p, 1, none⟩ = some (.int .u64 N.term) ∧ W.cell? ⟨w.heap.size, 2, none⟩ = some (.int .u64 m.tt) ∧ W.cell? ⟨w.heap.size, 3, none⟩ = some (.int .u64 m.tm)) (first | exact HK1.out _ (by repeat (first | exact Below.refl _ _ | refine bel_alloc ?_ _ | refine Below.drew ?_))) (fail)
  all_goals
    go_wp2_with fail
    go_region_held3 (fun W => W.cell? ⟨p, 0, none⟩ = some (.int .u64 N.id) ∧ W.cell? ⟨p, 1, none⟩ = some (.int .u64 N.term) ∧ W.cell? ⟨w.heap.size, 2, none⟩ = some (.int .u64 m.tt) ∧ W.cell? ⟨w.heap.size, 3, none⟩ = some (.int .u64 m.tm)) (first | exact HK1.out _ (by repeat (first | exact Below.refl _ _ | refine bel_alloc ?_ _ | refine Below.drew ?_))) (fail)
  all_goals
    go_wp2_with (first
      | (refine wp_load14 _ rfl (.tmp 3) rfl w.heap.size m rfl (HBx.out.keep (by repeat (first | exact Below.refl _ _ | refine bel_alloc ?_ _ | refine Below.drew ?_))) ?_)
      | (go_at_call 63; go_must (refine (askedApp_any X base p z N m w0 _ (HN1.out.keep (by repeat (first | exact Below.refl _ _ | refine bel_alloc ?_ _ | refine Below.drew ?_))) HO.out (by omega) hB (HB0w.out.trans ((HKW.out.thenBelow (w2 := _) (by repeat (first | exact Below.refl _ _ | refine bel_alloc ?_ _ | refine Below.drew ?_))).below (B := w0.heap.size) HB0w.out.size (fun k hk => Nat.le_trans hB (HN.out.rng k hk).1))) HM.out HS.out).mono ?_); rintro e w9 ⟨rfl, hp9⟩; have HP9 := hide (NPost.then HKW.out (fun _ h => .inl h) (NPost.ahead (w := (w.alloc (.cells #[.int .i64 m.k, .int .u64 m.fr, .int .u64 m.tt, .int .u64 m.tm, .int .u64 m.ix, .int .u64 m.lt, .int .u64 m.cm, .int .u64 m.hn, .bool m.rj, .slice m.ea m.en m.ec, .int .u64 m.si, .int .u64 m.st, .slice m.ma m.mn m.mc, .slice m.sa m.sn m.sc] 49))) (w1 := _) (by repeat (first | exact Below.refl _ _ | refine bel_alloc ?_ _ | refine Below.drew ?_)) (hp9.imp (z' := z + 21) (by omega) (R' := Fwd (z + 12) N) (fun N' hF => ⟨HFm.out.trans hF.1, hF.2.mono (by omega)⟩)))); clear hp9))
    go_end0
    exact ⟨rfl, HP9.out⟩

set_option maxHeartbeats 4000000 in
theorem step_c4 (X : Nat → Prop) (base p z : Nat) (N : Nd) (m : MMsg) (w0 w : World) (h : IsNd X w base p z N) (hO : N.Ok z) (hz : z ≤ 9000) (hB : w0.heap.size ≤ base) (hb0 : Below w0.heap.size w0 w) (hm : m.ok w0) (hS : SmallM m.en m.es) (hmn : m.mn ≤ 9) (hdn : m.sn ≤ 5000) (hl : N.L.s.i ≤ N.commit) (gt : (m.tt != N.id) = false) (g2 : decide (N.term < m.tm) = false) (g5 : decide (m.tm < N.term) = false) (k1 : (m.k == 1) = false) (k2 : (m.k == 2) = false) (k3 : (m.k == 3) = false) (k4 : (m.k == 4) = true) :
    Calls Tryz.prog 23 #[.pointer (some ⟨p, 0, none⟩), .agg #[.int .i64 m.k, .int .u64 m.fr, .int .u64 m.tt, .int .u64 m.tm, .int .u64 m.ix, .int .u64 m.lt, .int .u64 m.cm, .int .u64 m.hn, .bool m.rj, .slice m.ea m.en m.ec, .int .u64 m.si, .int .u64 m.st, .slice m.ma m.mn m.mc, .slice m.sa m.sn m.sc]] w fun e w' => e = .returned (.tuple #[]) ∧ NPost X w base p (z + 21) (Fwd (z + 12) N) w' := by
  have HO := hide hO
  have hpl := h.at.2
  have hne : ¬ w.heap.size = p := by omega
  have hne2 : ¬ p = w.heap.size := by omega
  have HXB : Hid (¬ X w.heap.size) := fun hx => by have := (h.rng _ hx).2; omega
  have HBx := hide (box14_new w m w.heap.size 49 rfl)
  have hb0w := new_below w (.cells #[.int .i64 m.k, .int .u64 m.fr, .int .u64 m.tt, .int .u64 m.tm, .int .u64 m.ix, .int .u64 m.lt, .int .u64 m.cm, .int .u64 m.hn, .bool m.rj, .slice m.ea m.en m.ec, .int .u64 m.si, .int .u64 m.st, .slice m.ma m.mn m.mc, .slice m.sa m.sn m.sc] 49)
  have HBW := hide hb0w
  have HN := hide h
  have HM := hide hm
  have HS := hide hS
  have HFin0 : Hid (Fwd (z + 12) N N) := Fwd.refl (hO.mono (by omega))
  have HB0w := hide hb0
  have HL := hide hl
  obtain ⟨c0, c1, c2, -⟩ := (h.keep hb0w).c
  have f1 := (h.keep hb0w).fz 1
  have f2 := (h.keep hb0w).fz 2
  have hB1 : w.heap.size < (w.alloc (.cells #[.int .i64 m.k, .int .u64 m.fr, .int .u64 m.tt, .int .u64 m.tm, .int .u64 m.ix, .int .u64 m.lt, .int .u64 m.cm, .int .u64 m.hn, .bool m.rj, .slice m.ea m.en m.ec, .int .u64 m.si, .int .u64 m.st, .slice m.ma m.mn m.mc, .slice m.sa m.sn m.sc] 49)).heap.size := HBx.out.2
  have hp1 : p < (w.alloc (.cells #[.int .i64 m.k, .int .u64 m.fr, .int .u64 m.tt, .int .u64 m.tm, .int .u64 m.ix, .int .u64 m.lt, .int .u64 m.cm, .int .u64 m.hn, .bool m.rj, .slice m.ea m.en m.ec, .int .u64 m.si, .int .u64 m.st, .slice m.ma m.mn m.mc, .slice m.sa m.sn m.sc] 49)).heap.size := (h.keep hb0w).at.2
  obtain ⟨b0, -, b2, b3, -⟩ := HBx.out.c
  have HK1 := hide (fun W (hW : Below (w.alloc (.cells #[.int .i64 m.k, .int .u64 m.fr, .int .u64 m.tt, .int .u64 m.tm, .int .u64 m.ix, .int .u64 m.lt, .int .u64 m.cm, .int .u64 m.hn, .bool m.rj, .slice m.ea m.en m.ec, .int .u64 m.si, .int .u64 m.st, .slice m.ma m.mn m.mc, .slice m.sa m.sn m.sc] 49)).heap.size (w.alloc (.cells #[.int .i64 m.k, .int .u64 m.fr, .int .u64 m.tt, .int .u64 m.tm, .int .u64 m.ix, .int .u64 m.lt, .int .u64 m.cm, .int .u64 m.hn, .bool m.rj, .slice m.ea m.en m.ec, .int .u64 m.si, .int .u64 m.st, .slice m.ma m.mn m.mc, .slice m.sa m.sn m.sc] 49)) W) => And.intro ((hW.cell (p := ⟨p, 0, none⟩) hp1).trans c0) (And.intro ((hW.cell (p := ⟨p, 1, none⟩) hp1).trans c1) (And.intro ((hW.cell (p := ⟨w.heap.size, 2, none⟩) hB1).trans b2) ((hW.cell (p := ⟨w.heap.size, 3, none⟩) hB1).trans b3))))
  clear h hO hm hS hb0w hb0 hl
  have HN1 := hide (HN.out.keep HBW.out)
  have HKW := hide (Below.keeps HBW.out X)
  have HFm := hide (Fw.refl N)
  go_enter Tryz.func23, Tryz.ntmps23
  go_wp2_with fail
  go_region_held3 (fun W => W.cell? ⟨p, 0, none⟩ = some (.int .u64 N.id) ∧ W.cell? ⟨p, 1, none⟩ = some (.int .u64 N.term) ∧ W.cell? ⟨w.heap.size, 2, none⟩ = some (.int .u64 m.tt) ∧ W.cell? ⟨w.heap.size, 3, none⟩ = some (.int .u64 m.tm)) (first | exact HK1.out _ (by repeat (first | exact Below.refl _ _ | refine bel_alloc ?_ _ | refine Below.drew ?_))) (first
    | (go_at_call 56; go_must (refine (made_any X base p z N _ (HN.out.keep (by repeat (first | exact Below.refl _ _ | refine bel_alloc ?_ _ | refine Below.drew ?_)))).mono ?_); rintro e wm ⟨rfl, hw⟩; have hw := hw.symm; subst hw))
  all_goals
    go_wp2_with fail
    go_region_held3 (fun W => W.cell? ⟨p, 0, none⟩ = some (.int .u64 N.id) ∧ W.cell? ⟨p, 1, none⟩ = some (.int .u64 N.term) ∧ W.cell? ⟨w.heap.size, 2, none⟩ = some (.int .u64 m.tt) ∧ W.cell? ⟨w.heap.size, 3, none⟩ = some (.int .u64 m.tm)) (first | exact HK1.out _ (by repeat (first | exact Below.refl _ _ | refine bel_alloc ?_ _ | refine Below.drew ?_))) (fail)
  all_goals
    go_wp2_with fail
    go_region_held3 (fun W => W.cell? ⟨p, 0, none⟩ = some (.int .u64 N.id) ∧ W.cell? ⟨p, 1, none⟩ = some (.int .u64 N.term) ∧ W.cell? ⟨w.heap.size, 2, none⟩ = some (.int .u64 m.tt) ∧ W.cell? ⟨w.heap.size, 3, none⟩ = some (.int .u64 m.tm)) (first | exact HK1.out _ (by repeat (first | exact Below.refl _ _ | refine bel_alloc ?_ _ | refine Below.drew ?_))) (fail)
  all_goals
    go_wp2_with (first
      | (refine wp_load14 _ rfl (.tmp 3) rfl w.heap.size m rfl (HBx.out.keep (by repeat (first | exact Below.refl _ _ | refine bel_alloc ?_ _ | refine Below.drew ?_))) ?_)
      | (go_at_call 64; go_must (refine (toldMatch_any X base p z N m _ (HN1.out.keep (by repeat (first | exact Below.refl _ _ | refine bel_alloc ?_ _ | refine Below.drew ?_))) HO.out (by omega) HM.out.fr HM.out.ix HM.out.hn).mono ?_); rintro e w9 ⟨rfl, hp9⟩; have HP9 := hide (NPost.then HKW.out (fun _ h => .inl h) (NPost.ahead (w := (w.alloc (.cells #[.int .i64 m.k, .int .u64 m.fr, .int .u64 m.tt, .int .u64 m.tm, .int .u64 m.ix, .int .u64 m.lt, .int .u64 m.cm, .int .u64 m.hn, .bool m.rj, .slice m.ea m.en m.ec, .int .u64 m.si, .int .u64 m.st, .slice m.ma m.mn m.mc, .slice m.sa m.sn m.sc] 49))) (w1 := _) (by repeat (first | exact Below.refl _ _ | refine bel_alloc ?_ _ | refine Below.drew ?_)) (hp9.imp (z' := z + 21) (by omega) (R' := Fwd (z + 12) N) (fun N' hF => ⟨HFm.out.trans hF.1, hF.2.mono (by omega)⟩)))); clear hp9))
    go_end0
    exact ⟨rfl, HP9.out⟩

set_option maxHeartbeats 4000000 in
theorem step_c5 (X : Nat → Prop) (base p z : Nat) (N : Nd) (m : MMsg) (w0 w : World) (h : IsNd X w base p z N) (hO : N.Ok z) (hz : z ≤ 9000) (hB : w0.heap.size ≤ base) (hb0 : Below w0.heap.size w0 w) (hm : m.ok w0) (hS : SmallM m.en m.es) (hmn : m.mn ≤ 9) (hdn : m.sn ≤ 5000) (hl : N.L.s.i ≤ N.commit) (gt : (m.tt != N.id) = false) (g2 : decide (N.term < m.tm) = false) (g5 : decide (m.tm < N.term) = false) (k1 : (m.k == 1) = false) (k2 : (m.k == 2) = false) (k3 : (m.k == 3) = false) (k4 : (m.k == 4) = false) (k5 : (m.k == 5) = true) :
    Calls Tryz.prog 23 #[.pointer (some ⟨p, 0, none⟩), .agg #[.int .i64 m.k, .int .u64 m.fr, .int .u64 m.tt, .int .u64 m.tm, .int .u64 m.ix, .int .u64 m.lt, .int .u64 m.cm, .int .u64 m.hn, .bool m.rj, .slice m.ea m.en m.ec, .int .u64 m.si, .int .u64 m.st, .slice m.ma m.mn m.mc, .slice m.sa m.sn m.sc]] w fun e w' => e = .returned (.tuple #[]) ∧ NPost X w base p (z + 21) (Fwd (z + 12) N) w' := by
  have HO := hide hO
  have hpl := h.at.2
  have hne : ¬ w.heap.size = p := by omega
  have hne2 : ¬ p = w.heap.size := by omega
  have HXB : Hid (¬ X w.heap.size) := fun hx => by have := (h.rng _ hx).2; omega
  have HBx := hide (box14_new w m w.heap.size 49 rfl)
  have hb0w := new_below w (.cells #[.int .i64 m.k, .int .u64 m.fr, .int .u64 m.tt, .int .u64 m.tm, .int .u64 m.ix, .int .u64 m.lt, .int .u64 m.cm, .int .u64 m.hn, .bool m.rj, .slice m.ea m.en m.ec, .int .u64 m.si, .int .u64 m.st, .slice m.ma m.mn m.mc, .slice m.sa m.sn m.sc] 49)
  have HBW := hide hb0w
  have HN := hide h
  have HM := hide hm
  have HS := hide hS
  have HFin0 : Hid (Fwd (z + 12) N N) := Fwd.refl (hO.mono (by omega))
  have HB0w := hide hb0
  have HL := hide hl
  obtain ⟨c0, c1, c2, -⟩ := (h.keep hb0w).c
  have f1 := (h.keep hb0w).fz 1
  have f2 := (h.keep hb0w).fz 2
  have hB1 : w.heap.size < (w.alloc (.cells #[.int .i64 m.k, .int .u64 m.fr, .int .u64 m.tt, .int .u64 m.tm, .int .u64 m.ix, .int .u64 m.lt, .int .u64 m.cm, .int .u64 m.hn, .bool m.rj, .slice m.ea m.en m.ec, .int .u64 m.si, .int .u64 m.st, .slice m.ma m.mn m.mc, .slice m.sa m.sn m.sc] 49)).heap.size := HBx.out.2
  have hp1 : p < (w.alloc (.cells #[.int .i64 m.k, .int .u64 m.fr, .int .u64 m.tt, .int .u64 m.tm, .int .u64 m.ix, .int .u64 m.lt, .int .u64 m.cm, .int .u64 m.hn, .bool m.rj, .slice m.ea m.en m.ec, .int .u64 m.si, .int .u64 m.st, .slice m.ma m.mn m.mc, .slice m.sa m.sn m.sc] 49)).heap.size := (h.keep hb0w).at.2
  obtain ⟨b0, -, b2, b3, -⟩ := HBx.out.c
  have HK1 := hide (fun W (hW : Below (w.alloc (.cells #[.int .i64 m.k, .int .u64 m.fr, .int .u64 m.tt, .int .u64 m.tm, .int .u64 m.ix, .int .u64 m.lt, .int .u64 m.cm, .int .u64 m.hn, .bool m.rj, .slice m.ea m.en m.ec, .int .u64 m.si, .int .u64 m.st, .slice m.ma m.mn m.mc, .slice m.sa m.sn m.sc] 49)).heap.size (w.alloc (.cells #[.int .i64 m.k, .int .u64 m.fr, .int .u64 m.tt, .int .u64 m.tm, .int .u64 m.ix, .int .u64 m.lt, .int .u64 m.cm, .int .u64 m.hn, .bool m.rj, .slice m.ea m.en m.ec, .int .u64 m.si, .int .u64 m.st, .slice m.ma m.mn m.mc, .slice m.sa m.sn m.sc] 49)) W) => And.intro ((hW.cell (p := ⟨p, 0, none⟩) hp1).trans c0) (And.intro ((hW.cell (p := ⟨p, 1, none⟩) hp1).trans c1) (And.intro ((hW.cell (p := ⟨w.heap.size, 2, none⟩) hB1).trans b2) ((hW.cell (p := ⟨w.heap.size, 3, none⟩) hB1).trans b3))))
  clear h hO hm hS hb0w hb0 hl
  have HN1 := hide (HN.out.keep HBW.out)
  have HKW := hide (Below.keeps HBW.out X)
  have HFm := hide (Fw.refl N)
  go_enter Tryz.func23, Tryz.ntmps23
  go_wp2_with fail
  go_region_held3 (fun W => W.cell? ⟨p, 0, none⟩ = some (.int .u64 N.id) ∧ W.cell? ⟨p, 1, none⟩ = some (.int .u64 N.term) ∧ W.cell? ⟨w.heap.size, 2, none⟩ = some (.int .u64 m.tt) ∧ W.cell? ⟨w.heap.size, 3, none⟩ = some (.int .u64 m.tm)) (first | exact HK1.out _ (by repeat (first | exact Below.refl _ _ | refine bel_alloc ?_ _ | refine Below.drew ?_))) (first
    | (go_at_call 56; go_must (refine (made_any X base p z N _ (HN.out.keep (by repeat (first | exact Below.refl _ _ | refine bel_alloc ?_ _ | refine Below.drew ?_)))).mono ?_); rintro e wm ⟨rfl, hw⟩; have hw := hw.symm; subst hw))
  all_goals
    go_wp2_with fail
    go_region_held3 (fun W => W.cell? ⟨p, 0, none⟩ = some (.int .u64 N.id) ∧ W.cell? ⟨p, 1, none⟩ = some (.int .u64 N.term) ∧ W.cell? ⟨w.heap.size, 2, none⟩ = some (.int .u64 m.tt) ∧ W.cell? ⟨w.heap.size, 3, none⟩ = some (.int .u64 m.tm)) (first | exact HK1.out _ (by repeat (first | exact Below.refl _ _ | refine bel_alloc ?_ _ | refine Below.drew ?_))) (fail)
  all_goals
    go_wp2_with fail
    go_region_held3 (fun W => W.cell? ⟨p, 0, none⟩ = some (.int .u64 N.id) ∧ W.cell? ⟨p, 1, none⟩ = some (.int .u64 N.term) ∧ W.cell? ⟨w.heap.size, 2, none⟩ = some (.int .u64 m.tt) ∧ W.cell? ⟨w.heap.size, 3, none⟩ = some (.int .u64 m.tm)) (first | exact HK1.out _ (by repeat (first | exact Below.refl _ _ | refine bel_alloc ?_ _ | refine Below.drew ?_))) (fail)
  all_goals
    go_wp2_with (first
      | (refine wp_load14 _ rfl (.tmp 3) rfl w.heap.size m rfl (HBx.out.keep (by repeat (first | exact Below.refl _ _ | refine bel_alloc ?_ _ | refine Below.drew ?_))) ?_)
      | (go_at_call 65; go_must (refine (askedSnap_any X base p z N m w0 _ (HN1.out.keep (by repeat (first | exact Below.refl _ _ | refine bel_alloc ?_ _ | refine Below.drew ?_))) HO.out hz hB (HB0w.out.trans ((HKW.out.thenBelow (w2 := _) (by repeat (first | exact Below.refl _ _ | refine bel_alloc ?_ _ | refine Below.drew ?_))).below (B := w0.heap.size) HB0w.out.size (fun k hk => Nat.le_trans hB (HN.out.rng k hk).1))) HM.out hmn hdn HL.out).mono ?_); rintro e w9 ⟨rfl, hp9⟩; have HP9 := hide (NPost.then HKW.out (fun _ h => .inl h) (NPost.ahead (w := (w.alloc (.cells #[.int .i64 m.k, .int .u64 m.fr, .int .u64 m.tt, .int .u64 m.tm, .int .u64 m.ix, .int .u64 m.lt, .int .u64 m.cm, .int .u64 m.hn, .bool m.rj, .slice m.ea m.en m.ec, .int .u64 m.si, .int .u64 m.st, .slice m.ma m.mn m.mc, .slice m.sa m.sn m.sc] 49))) (w1 := _) (by repeat (first | exact Below.refl _ _ | refine bel_alloc ?_ _ | refine Below.drew ?_)) (hp9.imp (z' := z + 21) (by omega) (R' := Fwd (z + 12) N) (fun N' hF => ⟨HFm.out.trans hF.1, hF.2.mono (by omega)⟩)))); clear hp9))
    go_end0
    exact ⟨rfl, HP9.out⟩

set_option maxHeartbeats 4000000 in
theorem step_co (X : Nat → Prop) (base p z : Nat) (N : Nd) (m : MMsg) (w0 w : World) (h : IsNd X w base p z N) (hO : N.Ok z) (hz : z ≤ 9000) (hB : w0.heap.size ≤ base) (hb0 : Below w0.heap.size w0 w) (hm : m.ok w0) (hS : SmallM m.en m.es) (hmn : m.mn ≤ 9) (hdn : m.sn ≤ 5000) (hl : N.L.s.i ≤ N.commit) (gt : (m.tt != N.id) = false) (g2 : decide (N.term < m.tm) = false) (g5 : decide (m.tm < N.term) = false) (k1 : (m.k == 1) = false) (k2 : (m.k == 2) = false) (k3 : (m.k == 3) = false) (k4 : (m.k == 4) = false) (k5 : (m.k == 5) = false) :
    Calls Tryz.prog 23 #[.pointer (some ⟨p, 0, none⟩), .agg #[.int .i64 m.k, .int .u64 m.fr, .int .u64 m.tt, .int .u64 m.tm, .int .u64 m.ix, .int .u64 m.lt, .int .u64 m.cm, .int .u64 m.hn, .bool m.rj, .slice m.ea m.en m.ec, .int .u64 m.si, .int .u64 m.st, .slice m.ma m.mn m.mc, .slice m.sa m.sn m.sc]] w fun e w' => e = .returned (.tuple #[]) ∧ NPost X w base p (z + 21) (Fwd (z + 12) N) w' := by
  have HO := hide hO
  have hpl := h.at.2
  have hne : ¬ w.heap.size = p := by omega
  have hne2 : ¬ p = w.heap.size := by omega
  have HXB : Hid (¬ X w.heap.size) := fun hx => by have := (h.rng _ hx).2; omega
  have HBx := hide (box14_new w m w.heap.size 49 rfl)
  have hb0w := new_below w (.cells #[.int .i64 m.k, .int .u64 m.fr, .int .u64 m.tt, .int .u64 m.tm, .int .u64 m.ix, .int .u64 m.lt, .int .u64 m.cm, .int .u64 m.hn, .bool m.rj, .slice m.ea m.en m.ec, .int .u64 m.si, .int .u64 m.st, .slice m.ma m.mn m.mc, .slice m.sa m.sn m.sc] 49)
  have HBW := hide hb0w
  have HN := hide h
  have HM := hide hm
  have HS := hide hS
  have HFin0 : Hid (Fwd (z + 12) N N) := Fwd.refl (hO.mono (by omega))
  have HB0w := hide hb0
  have HL := hide hl
  obtain ⟨c0, c1, c2, -⟩ := (h.keep hb0w).c
  have f1 := (h.keep hb0w).fz 1
  have f2 := (h.keep hb0w).fz 2
  have hB1 : w.heap.size < (w.alloc (.cells #[.int .i64 m.k, .int .u64 m.fr, .int .u64 m.tt, .int .u64 m.tm, .int .u64 m.ix, .int .u64 m.lt, .int .u64 m.cm, .int .u64 m.hn, .bool m.rj, .slice m.ea m.en m.ec, .int .u64 m.si, .int .u64 m.st, .slice m.ma m.mn m.mc, .slice m.sa m.sn m.sc] 49)).heap.size := HBx.out.2
  have hp1 : p < (w.alloc (.cells #[.int .i64 m.k, .int .u64 m.fr, .int .u64 m.tt, .int .u64 m.tm, .int .u64 m.ix, .int .u64 m.lt, .int .u64 m.cm, .int .u64 m.hn, .bool m.rj, .slice m.ea m.en m.ec, .int .u64 m.si, .int .u64 m.st, .slice m.ma m.mn m.mc, .slice m.sa m.sn m.sc] 49)).heap.size := (h.keep hb0w).at.2
  obtain ⟨b0, -, b2, b3, -⟩ := HBx.out.c
  have HK1 := hide (fun W (hW : Below (w.alloc (.cells #[.int .i64 m.k, .int .u64 m.fr, .int .u64 m.tt, .int .u64 m.tm, .int .u64 m.ix, .int .u64 m.lt, .int .u64 m.cm, .int .u64 m.hn, .bool m.rj, .slice m.ea m.en m.ec, .int .u64 m.si, .int .u64 m.st, .slice m.ma m.mn m.mc, .slice m.sa m.sn m.sc] 49)).heap.size (w.alloc (.cells #[.int .i64 m.k, .int .u64 m.fr, .int .u64 m.tt, .int .u64 m.tm, .int .u64 m.ix, .int .u64 m.lt, .int .u64 m.cm, .int .u64 m.hn, .bool m.rj, .slice m.ea m.en m.ec, .int .u64 m.si, .int .u64 m.st, .slice m.ma m.mn m.mc, .slice m.sa m.sn m.sc] 49)) W) => And.intro ((hW.cell (p := ⟨p, 0, none⟩) hp1).trans c0) (And.intro ((hW.cell (p := ⟨p, 1, none⟩) hp1).trans c1) (And.intro ((hW.cell (p := ⟨w.heap.size, 2, none⟩) hB1).trans b2) ((hW.cell (p := ⟨w.heap.size, 3, none⟩) hB1).trans b3))))
  clear h hO hm hS hb0w hb0 hl
  have HN1 := hide (HN.out.keep HBW.out)
  have HKW := hide (Below.keeps HBW.out X)
  have HFm := hide (Fw.refl N)
  go_enter Tryz.func23, Tryz.ntmps23
  go_wp2_with fail
  go_region_held3 (fun W => W.cell? ⟨p, 0, none⟩ = some (.int .u64 N.id) ∧ W.cell? ⟨p, 1, none⟩ = some (.int .u64 N.term) ∧ W.cell? ⟨w.heap.size, 2, none⟩ = some (.int .u64 m.tt) ∧ W.cell? ⟨w.heap.size, 3, none⟩ = some (.int .u64 m.tm)) (first | exact HK1.out _ (by repeat (first | exact Below.refl _ _ | refine bel_alloc ?_ _ | refine Below.drew ?_))) (first
    | (go_at_call 56; go_must (refine (made_any X base p z N _ (HN.out.keep (by repeat (first | exact Below.refl _ _ | refine bel_alloc ?_ _ | refine Below.drew ?_)))).mono ?_); rintro e wm ⟨rfl, hw⟩; have hw := hw.symm; subst hw))
  all_goals
    go_wp2_with fail
    go_region_held3 (fun W => W.cell? ⟨p, 0, none⟩ = some (.int .u64 N.id) ∧ W.cell? ⟨p, 1, none⟩ = some (.int .u64 N.term) ∧ W.cell? ⟨w.heap.size, 2, none⟩ = some (.int .u64 m.tt) ∧ W.cell? ⟨w.heap.size, 3, none⟩ = some (.int .u64 m.tm)) (first | exact HK1.out _ (by repeat (first | exact Below.refl _ _ | refine bel_alloc ?_ _ | refine Below.drew ?_))) (fail)
  all_goals
    go_wp2_with fail
    go_region_held3 (fun W => W.cell? ⟨p, 0, none⟩ = some (.int .u64 N.id) ∧ W.cell? ⟨p, 1, none⟩ = some (.int .u64 N.term) ∧ W.cell? ⟨w.heap.size, 2, none⟩ = some (.int .u64 m.tt) ∧ W.cell? ⟨w.heap.size, 3, none⟩ = some (.int .u64 m.tm)) (first | exact HK1.out _ (by repeat (first | exact Below.refl _ _ | refine bel_alloc ?_ _ | refine Below.drew ?_))) (fail)
  all_goals
    go_wp2
    go_end0
    exact ⟨rfl, NPost.then HKW.out (fun _ h => .inl h) (NPost.behind (w1 := (w.alloc (.cells #[.int .i64 m.k, .int .u64 m.fr, .int .u64 m.tt, .int .u64 m.tm, .int .u64 m.ix, .int .u64 m.lt, .int .u64 m.cm, .int .u64 m.hn, .bool m.rj, .slice m.ea m.en m.ec, .int .u64 m.si, .int .u64 m.st, .slice m.ma m.mn m.mc, .slice m.sa m.sn m.sc] 49))) (NPost.of (HN1.out.mono (by omega)) ⟨HFm.out, HO.out.mono (by omega)⟩ (Keeps.self _ _)) (by repeat (first | exact Below.refl _ _ | refine bel_alloc ?_ _ | refine Below.drew ?_)))⟩

end Go.Proofs.YtodmieehdleohaaGreat
