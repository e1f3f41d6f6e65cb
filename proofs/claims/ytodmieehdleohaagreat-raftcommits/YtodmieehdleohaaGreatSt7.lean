/- A message comes: Step, of a greater term; whatever message. -/
import Derived.Test.YtodmieehdleohaaGreatSt6
import Derived.Deep.MidRow
namespace Go.Proofs.YtodmieehdleohaaGreat
open Go.RowKit NumMath
set_option linter.unusedVariables false
set_option maxRecDepth 100000

set_option maxHeartbeats 4000000 in
theorem step_d1 (X : Nat → Prop) (base p z : Nat) (N : Nd) (m : MMsg) (w0 w : World) (h : IsNd X w base p z N) (hO : N.Ok z) (hz : z ≤ 9000) (hB : w0.heap.size ≤ base) (hb0 : Below w0.heap.size w0 w) (hm : m.ok w0) (hS : SmallM m.en m.es) (hmn : m.mn ≤ 9) (hdn : m.sn ≤ 5000) (hl : N.L.s.i ≤ N.commit) (gt : (m.tt != N.id) = false) (g2 : decide (N.term < m.tm) = true) (k1 : (m.k == 1) = true) :
    Calls Tryz.prog 23 #[.pointer (some ⟨p, 0, none⟩), .agg #[.int .i64 m.k, .int .u64 m.fr, .int .u64 m.tt, .int .u64 m.tm, .int .u64 m.ix, .int .u64 m.lt, .int .u64 m.cm, .int .u64 m.hn, .bool m.rj, .slice m.ea m.en m.ec, .int .u64 m.si, .int .u64 m.st, .slice m.ma m.mn m.mc, .slice m.sa m.sn m.sc]] w fun e w' => e = .returned (.tuple #[]) ∧ NPost X w base p (z + 21) (Fwd (z + 12) N) w' := by
  have HO := hide hO
  have hpl := h.at.2
  have hne : ¬ w.heap.size = p := by omega
  have hne2 : ¬ p = w.heap.size := by omega
  have HXB : Hid (¬ X w.heap.size) := fun hx => by have := (h.rng _ hx).2; omega
  have HBx := hide (box14_new w m w.heap.size 49 rfl)
  have hb0w := new_below w (.cells #[.int .i64 m.k, .int .u64 m.fr, .int .u64 m.tt, .int .u64 m.tm, .int .u64 m.ix, .int .u64 m.lt, .int .u64 m.cm, .int .u64 m.hn, .bool m.rj, .slice m.ea m.en m.ec, .int .u64 m.si, .int .u64 m.st, .slice m.ma m.mn m.mc, .slice m.sa m.sn m.sc] 49)
  have HBW := hide hb0w
  have HN := hide h
  have HM := hide hm
  have HS := hide hS
  have HFin0 : Hid (Fwd (z + 12) N N) := Fwd.refl (hO.mono (by omega))
  have HB0w := hide hb0
  have HL := hide hl
  obtain ⟨c0, c1, c2, -⟩ := (h.keep hb0w).c
  have f1 := (h.keep hb0w).fz 1
  have f2 := (h.keep hb0w).fz 2
  have hB1 : w.heap.size < (w.alloc (.cells #[.int .i64 m.k, .int .u64 m.fr, .int .u64 m.tt, .int .u64 m.tm, .int .u64 m.ix, .int .u64 m.lt, .int .u64 m.cm, .int .u64 m.hn, .bool m.rj, .slice m.ea m.en m.ec, .int .u64 m.si, .int .u64 m.st, .slice m.ma m.mn m.mc, .slice m.sa m.sn m.sc] 49)).heap.size := HBx.out.2
  have hp1 : p < (w.alloc (.cells #[.int .i64 m.k, .int .u64 m.fr, .int .u64 m.tt, .int .u64 m.tm, .int .u64 m.ix, .int .u64 m.lt, .int .u64 m.cm, .int .u64 m.hn, .bool m.rj, .slice m.ea m.en m.ec, .int .u64 m.si, .int .u64 m.st, .slice m.ma m.mn m.mc, .slice m.sa m.sn m.sc] 49)).heap.size := (h.keep hb0w).at.2
  obtain ⟨b0, -, b2, b3, -⟩ := HBx.out.c
  have HK1 := hide (fun W (hW : Below (w.alloc (.cells #[.int .i64 m.k, .int .u64 m.fr, .int .u64 m.tt, .int .u64 m.tm, .int .u64 m.ix, .int .u64 m.lt, .int .u64 m.cm, .int .u64 m.hn, .bool m.rj, .slice m.ea m.en m.ec, .int .u64 m.si, .int .u64 m.st, .slice m.ma m.mn m.mc, .slice m.sa m.sn m.sc] 49)).heap.size (w.alloc (.cells #[.int .i64 m.k, .int .u64 m.fr, .int .u64 m.tt, .int .u64 m.tm, .int .u64 m.ix, .int .u64 m.lt, .int .u64 m.cm, .int .u64 m.hn, .bool m.rj, .slice m.ea m.en m.ec, .int .u64 m.si, .int .u64 m.st, .slice m.ma m.mn m.mc, .slice m.sa m.sn m.sc] 49)) W) => And.intro ((hW.cell (p := ⟨p, 0, none⟩) hp1).trans c0) (And.intro ((hW.cell (p := ⟨p, 1, none⟩) hp1).trans c1) (And.intro ((hW.cell (p := ⟨w.heap.size, 2, none⟩) hB1).trans b2) ((hW.cell (p := ⟨w.heap.size, 3, none⟩) hB1).trans b3))))
  clear h hO hm hS hb0w hb0 hl
  have hlt : N.term < m.tm := of_decide_eq_true g2
  have HFm : Hid (Fw N { N with term := m.tm, vote := 0, role := 0, leader := 0 }) := ⟨rfl, by show N.term ≤ m.tm; omega, Int.le_refl _, (fun e => by have : N.term = m.tm := e; omega), Int.le_refl _, fun e h _ _ => h, fun x => x⟩
  have HO2 : Hid (({ N with term := m.tm, vote := 0, role := 0, leader := 0 } : Nd).Ok z) := ⟨HO.out.good, HO.out.n, HO.out.m9, HO.out.i62, HO.out.d, (fun e => by cases e), (fun e => by cases e), HO.out.id, HM.out.tm, (by show U64 0; exact ⟨by decide, by decide⟩), (by show U64 0; exact ⟨by decide, by decide⟩), HO.out.ticks, HO.out.commit, HO.out.given⟩
  clear hlt
  go_enter Tryz.func23, Tryz.ntmps23
  go_wp2_with fail
  go_region_held3 (fun W => W.cell? ⟨p, 0, none⟩ = some (.int .u64 N.id) ∧ W.cell? ⟨p, 1, none⟩ = some (.int .u64 N.term) ∧ W.cell? ⟨w.heap.size, 2, none⟩ = some (.int .u64 m.tt) ∧ W.cell? ⟨w.heap.size, 3, none⟩ = some (.int .u64 m.tm)) (first | exact HK1.out _ (by repeat (first | exact Below.refl _ _ | refine bel_alloc ?_ _ | refine Below.drew ?_))) (first
    | (go_at_call 56; go_must (refine (made_any X base p z N _ (HN.out.keep (by repeat (first | exact Below.refl _ _ | refine bel_alloc ?_ _ | refine Below.drew ?_)))).mono ?_); rintro e wm ⟨rfl, hw⟩; have hw := hw.symm; subst hw))
  all_goals
    go_wp2_with fail
    go_region_held3 (fun W => W.cell? ⟨p, 0, none⟩ = some (.int .u64 N.id) ∧ W.cell? ⟨p, 1, none⟩ = some (.int .u64 N.term) ∧ W.cell? ⟨w.heap.size, 2, none⟩ = some (.int .u64 m.tt) ∧ W.cell? ⟨w.heap.size, 3, none⟩ = some (.int .u64 m.tm)) (first | exact HK1.out _ (by repeat (first | exact Below.refl _ _ | refine bel_alloc ?_ _ | refine Below.drew ?_))) (fail)
  all_goals
    obtain ⟨W2, hW2⟩ : ∃ W, W = (w.alloc (.cells #[.int .i64 m.k, .int .u64 m.fr, .int .u64 m.tt, .int .u64 m.tm, .int .u64 m.ix, .int .u64 m.lt, .int .u64 m.cm, .int .u64 m.hn, .bool m.rj, .slice m.ea m.en m.ec, .int .u64 m.si, .int .u64 m.st, .slice m.ma m.mn m.mc, .slice m.sa m.sn m.sc] 49)).drew.drew := ⟨_, rfl⟩
    have HB2 : Hid (Below w.heap.size w W2) := by show Below _ _ _; rw [hW2]; exact (by repeat (first | exact Below.refl _ _ | refine bel_alloc ?_ _ | refine Below.drew ?_))
    have HBx2 : Hid (Box14 W2 w.heap.size m) := by show Box14 _ _ _; rw [hW2]; exact HBx.out.keep (by repeat (first | exact Below.refl _ _ | refine bel_alloc ?_ _ | refine Below.drew ?_))
    rw [← hW2]
    clear hW2 HK1 c0 c1 c2 f1 f2 b0 b2 b3 hB1 hp1
    obtain ⟨-, c12, c22, -⟩ := (HN.out.keep HB2.out).c
    have f12 := (HN.out.keep HB2.out).fz 1
    have f22 := (HN.out.keep HB2.out).fz 2
    obtain ⟨-, -, -, b32, -⟩ := HBx2.out.c
    have HS2 := hide (((HN.out.keep HB2.out).set 1 (.int .u64 m.tm) { N with term := m.tm } (by decide) (fun _ _ _ _ => rfl) rfl rfl rfl).set 2 (.int .u64 0) { N with term := m.tm, vote := 0 } (by decide) (fun _ _ _ _ => rfl) rfl rfl rfl)
    have HKs := hide (((Below.keeps HB2.out X).thenSet (i := 1) HN.out.xp (.int .u64 m.tm)).thenSet (i := 2) HN.out.xp (.int .u64 0))
    have HBs := hide (HBx2.out.lies (((Keeps.self X W2).thenSet (i := 1) HN.out.xp (.int .u64 m.tm)).thenSet (i := 2) HN.out.xp (.int .u64 0)) HXB.out)
    go_wp2_with (first
      | (go_at_call 59; go_must (refine (follow_any X base p z { N with term := m.tm, vote := 0 } 0 _ (by exact HS2.out)).mono ?_); rintro e w4 ⟨rfl, hN4, hK4⟩; have HN4 : Hid (IsNd X w4 base p z { N with term := m.tm, vote := 0, role := 0, leader := 0 }) := hN4; have HK4 := hide (HKs.out.then (fun _ h => .inl h) hK4); have HB4 := hide (HBs.out.lies hK4 HXB.out); have c14 : w4.cell? ⟨p, 1, none⟩ = some (.int .u64 m.tm) := hN4.c.2.1; obtain ⟨b04, -, -, b34, -⟩ := HB4.out.c; have hp4 : p < w4.heap.size := hN4.at.2; have hB4 : w.heap.size < w4.heap.size := HB4.out.2; clear hN4 hK4))
    have HK4c := hide (fun W (hW : Below w4.heap.size w4 W) => And.intro ((hW.cell (p := ⟨p, 1, none⟩) hp4).trans c14) ((hW.cell (p := ⟨w.heap.size, 3, none⟩) hB4).trans b34))
    go_region_held3 (fun W => W.cell? ⟨p, 1, none⟩ = some (.int .u64 m.tm) ∧ W.cell? ⟨w.heap.size, 3, none⟩ = some (.int .u64 m.tm)) (first | exact HK4c.out _ (by repeat (first | exact Below.refl _ _ | refine bel_alloc ?_ _ | refine Below.drew ?_))) (fail)
  all_goals
    go_wp2_with (first
      | (refine wp_load14 _ rfl (.tmp 3) rfl w.heap.size m rfl (HB4.out.keep (by repeat (first | exact Below.refl _ _ | refine bel_alloc ?_ _ | refine Below.drew ?_))) ?_)
      | (go_at_call 61; go_must (refine (askedVote_any X base p z { N with term := m.tm, vote := 0, role := 0, leader := 0 } m _ (HN4.out.keep (by repeat (first | exact Below.refl _ _ | refine bel_alloc ?_ _ | refine Below.drew ?_))) HO2.out (by omega) HM.out.fr).mono ?_); rintro e w9 ⟨rfl, hp9⟩; have HP9 := hide (NPost.then HK4.out (fun _ h => .inl h) (NPost.ahead (w := w4) (w1 := _) (by repeat (first | exact Below.refl _ _ | refine bel_alloc ?_ _ | refine Below.drew ?_)) (hp9.imp (z' := z + 21) (by omega) (R' := Fwd (z + 12) N) (fun N' hF => ⟨HFm.out.trans hF.1, hF.2.mono (by omega)⟩)))); clear hp9))
    go_end0
    exact ⟨rfl, HP9.out⟩

set_option maxHeartbeats 4000000 in
theorem step_d2 (X : Nat → Prop) (base p z : Nat) (N : Nd) (m : MMsg) (w0 w : World) (h : IsNd X w base p z N) (hO : N.Ok z) (hz : z ≤ 9000) (hB : w0.heap.size ≤ base) (hb0 : Below w0.heap.size w0 w) (hm : m.ok w0) (hS : SmallM m.en m.es) (hmn : m.mn ≤ 9) (hdn : m.sn ≤ 5000) (hl : N.L.s.i ≤ N.commit) (gt : (m.tt != N.id) = false) (g2 : decide (N.term < m.tm) = true) (k1 : (m.k == 1) = false) (k2 : (m.k == 2) = true) :
    Calls Tryz.prog 23 #[.pointer (some ⟨p, 0, none⟩), .agg #[.int .i64 m.k, .int .u64 m.fr, .int .u64 m.tt, .int .u64 m.tm, .int .u64 m.ix, .int .u64 m.lt, .int .u64 m.cm, .int .u64 m.hn, .bool m.rj, .slice m.ea m.en m.ec, .int .u64 m.si, .int .u64 m.st, .slice m.ma m.mn m.mc, .slice m.sa m.sn m.sc]] w fun e w' => e = .returned (.tuple #[]) ∧ NPost X w base p (z + 21) (Fwd (z + 12) N) w' := by
  have HO := hide hO
  have hpl := h.at.2
  have hne : ¬ w.heap.size = p := by omega
  have hne2 : ¬ p = w.heap.size := by omega
  have HXB : Hid (¬ X w.heap.size) := fun hx => by have := (h.rng _ hx).2; omega
  have HBx := hide (box14_new w m w.heap.size 49 rfl)
  have hb0w := new_below w (.cells #[.int .i64 m.k, .int .u64 m.fr, .int .u64 m.tt, .int .u64 m.tm, .int .u64 m.ix, .int .u64 m.lt, .int .u64 m.cm, .int .u64 m.hn, .bool m.rj, .slice m.ea m.en m.ec, .int .u64 m.si, .int .u64 m.st, .slice m.ma m.mn m.mc, .slice m.sa m.sn m.sc] 49)
  have HBW := hide hb0w
  have HN := hide h
  have HM := hide hm
  have HS := hide hS
  have HFin0 : Hid (Fwd (z + 12) N N) := Fwd.refl (hO.mono (by omega))
  have HB0w := hide hb0
  have HL := hide hl
  obtain ⟨c0, c1, c2, -⟩ := (h.keep hb0w).c
  have f1 := (h.keep hb0w).fz 1
  have f2 := (h.keep hb0w).fz 2
  have hB1 : w.heap.size < (w.alloc (.cells #[.int .i64 m.k, .int .u64 m.fr, .int .u64 m.tt, .int .u64 m.tm, .int .u64 m.ix, .int .u64 m.lt, .int .u64 m.cm, .int .u64 m.hn, .bool m.rj, .slice m.ea m.en m.ec, .int .u64 m.si, .int .u64 m.st, .slice m.ma m.mn m.mc, .slice m.sa m.sn m.sc] 49)).heap.size := HBx.out.2
  have hp1 : p < (w.alloc (.cells #[.int .i64 m.k, .int .u64 m.fr, .int .u64 m.tt, .int .u64 m.tm, .int .u64 m.ix, .int .u64 m.lt, .int .u64 m.cm, .int .u64 m.hn, .bool m.rj, .slice m.ea m.en m.ec, .int .u64 m.si, .int .u64 m.st, .slice m.ma m.mn m.mc, .slice m.sa m.sn m.sc] 49)).heap.size := (h.keep hb0w).at.2
  obtain ⟨b0, -, b2, b3, -⟩ := HBx.out.c
  have HK1 := hide (fun W (hW : Below (w.alloc (.cells #[.int .i64 m.k, .int .u64 m.fr, .int .u64 m.tt, .int .u64 m.tm, .int .u64 m.ix, .int .u64 m.lt, .int .u64 m.cm, .int .u64 m.hn, .bool m.rj, .slice m.ea m.en m.ec, .int .u64 m.si, .int .u64 m.st, .slice m.ma m.mn m.mc, .slice m.sa m.sn m.sc] 49)).heap.size (w.alloc (.cells #[.int .i64 m.k, .int .u64 m.fr, .int .u64 m.tt, .int .u64 m.tm, .int .u64 m.ix, .int .u64 m.lt, .int .u64 m.cm, .int .u64 m.hn, .bool m.rj, .slice m.ea m.en m.ec, .int .u64 m.si, .int .u64 m.st, .slice m.ma m.mn m.mc, .slice m.sa m.sn m.sc] 49)) W) => And.intro ((hW.cell (p := ⟨p, 0, none⟩) hp1).trans c0) (And.intro ((hW.cell (p := ⟨p, 1, none⟩) hp1).trans c1) (And.intro ((hW.cell (p := ⟨w.heap.size, 2, none⟩) hB1).trans b2) ((hW.cell (p := ⟨w.heap.size, 3, none⟩) hB1).trans b3))))
  clear h hO hm hS hb0w hb0 hl
  have hlt : N.term < m.tm := of_decide_eq_true g2
  have HFm : Hid (Fw N { N with term := m.tm, vote := 0, role := 0, leader := 0 }) := ⟨rfl, by show N.term ≤ m.tm; omega, Int.le_refl _, (fun e => by have : N.term = m.tm := e; omega), Int.le_refl _, fun e h _ _ => h, fun x => x⟩
  have HO2 : Hid (({ N with term := m.tm, vote := 0, role := 0, leader := 0 } : Nd).Ok z) := ⟨HO.out.good, HO.out.n, HO.out.m9, HO.out.i62, HO.out.d, (fun e => by cases e), (fun e => by cases e), HO.out.id, HM.out.tm, (by show U64 0; exact ⟨by decide, by decide⟩), (by show U64 0; exact ⟨by decide, by decide⟩), HO.out.ticks, HO.out.commit, HO.out.given⟩
  clear hlt
  go_enter Tryz.func23, Tryz.ntmps23
  go_wp2_with fail
  go_region_held3 (fun W => W.cell? ⟨p, 0, none⟩ = some (.int .u64 N.id) ∧ W.cell? ⟨p, 1, none⟩ = some (.int .u64 N.term) ∧ W.cell? ⟨w.heap.size, 2, none⟩ = some (.int .u64 m.tt) ∧ W.cell? ⟨w.heap.size, 3, none⟩ = some (.int .u64 m.tm)) (first | exact HK1.out _ (by repeat (first | exact Below.refl _ _ | refine bel_alloc ?_ _ | refine Below.drew ?_))) (first
    | (go_at_call 56; go_must (refine (made_any X base p z N _ (HN.out.keep (by repeat (first | exact Below.refl _ _ | refine bel_alloc ?_ _ | refine Below.drew ?_)))).mono ?_); rintro e wm ⟨rfl, hw⟩; have hw := hw.symm; subst hw))
  all_goals
    go_wp2_with fail
    go_region_held3 (fun W => W.cell? ⟨p, 0, none⟩ = some (.int .u64 N.id) ∧ W.cell? ⟨p, 1, none⟩ = some (.int .u64 N.term) ∧ W.cell? ⟨w.heap.size, 2, none⟩ = some (.int .u64 m.tt) ∧ W.cell? ⟨w.heap.size, 3, none⟩ = some (.int .u64 m.tm)) (first | exact HK1.out _ (by repeat (first | exact Below.refl _ _ | refine bel_alloc ?_ _ | refine Below.drew ?_))) (fail)
  all_goals
    obtain ⟨W2, hW2⟩ : ∃ W, W = (w.alloc (.cells #[.int .i64 m.k, .int .u64 m.fr, .int .u64 m.tt, .int .u64 m.tm, .int .u64 m.ix, .int .u64 m.lt, .int .u64 m.cm, .int .u64 m.hn, .bool m.rj, .slice m.ea m.en m.ec, .int .u64 m.si, .int .u64 m.st, .slice m.ma m.mn m.mc, .slice m.sa m.sn m.sc] 49)).drew.drew := ⟨_, rfl⟩
    have HB2 : Hid (Below w.heap.size w W2) := by show Below _ _ _; rw [hW2]; exact (by repeat (first | exact Below.refl _ _ | refine bel_alloc ?_ _ | refine Below.drew ?_))
    have HBx2 : Hid (Box14 W2 w.heap.size m) := by show Box14 _ _ _; rw [hW2]; exact HBx.out.keep (by repeat (first | exact Below.refl _ _ | refine bel_alloc ?_ _ | refine Below.drew ?_))
    rw [← hW2]
    clear hW2 HK1 c0 c1 c2 f1 f2 b0 b2 b3 hB1 hp1
    obtain ⟨-, c12, c22, -⟩ := (HN.out.keep HB2.out).c
    have f12 := (HN.out.keep HB2.out).fz 1
    have f22 := (HN.out.keep HB2.out).fz 2
    obtain ⟨-, -, -, b32, -⟩ := HBx2.out.c
    have HS2 := hide (((HN.out.keep HB2.out).set 1 (.int .u64 m.tm) { N with term := m.tm } (by decide) (fun _ _ _ _ => rfl) rfl rfl rfl).set 2 (.int .u64 0) { N with term := m.tm, vote := 0 } (by decide) (fun _ _ _ _ => rfl) rfl rfl rfl)
    have HKs := hide (((Below.keeps HB2.out X).thenSet (i := 1) HN.out.xp (.int .u64 m.tm)).thenSet (i := 2) HN.out.xp (.int .u64 0))
    have HBs := hide (HBx2.out.lies (((Keeps.self X W2).thenSet (i := 1) HN.out.xp (.int .u64 m.tm)).thenSet (i := 2) HN.out.xp (.int .u64 0)) HXB.out)
    go_wp2_with (first
      | (go_at_call 59; go_must (refine (follow_any X base p z { N with term := m.tm, vote := 0 } 0 _ (by exact HS2.out)).mono ?_); rintro e w4 ⟨rfl, hN4, hK4⟩; have HN4 : Hid (IsNd X w4 base p z { N with term := m.tm, vote := 0, role := 0, leader := 0 }) := hN4; have HK4 := hide (HKs.out.then (fun _ h => .inl h) hK4); have HB4 := hide (HBs.out.lies hK4 HXB.out); have c14 : w4.cell? ⟨p, 1, none⟩ = some (.int .u64 m.tm) := hN4.c.2.1; obtain ⟨b04, -, -, b34, -⟩ := HB4.out.c; have hp4 : p < w4.heap.size := hN4.at.2; have hB4 : w.heap.size < w4.heap.size := HB4.out.2; clear hN4 hK4))
    have HK4c := hide (fun W (hW : Below w4.heap.size w4 W) => And.intro ((hW.cell (p := ⟨p, 1, none⟩) hp4).trans c14) ((hW.cell (p := ⟨w.heap.size, 3, none⟩) hB4).trans b34))
    go_region_held3 (fun W => W.cell? ⟨p, 1, none⟩ = some (.int .u64 m.tm) ∧ W.cell? ⟨w.heap.size, 3, none⟩ = some (.int .u64 m.tm)) (first | exact HK4c.out _ (by repeat (first | exact Below.refl _ _ | refine bel_alloc ?_ _ | refine Below.drew ?_))) (fail)
  all_goals
    go_wp2_with (first
      | (refine wp_load14 _ rfl (.tmp 3) rfl w.heap.size m rfl (HB4.out.keep (by repeat (first | exact Below.refl _ _ | refine bel_alloc ?_ _ | refine Below.drew ?_))) ?_)
      | (go_at_call 62; go_must (refine (toldVote_any X base p z { N with term := m.tm, vote := 0, role := 0, leader := 0 } m _ (HN4.out.keep (by repeat (first | exact Below.refl _ _ | refine bel_alloc ?_ _ | refine Below.drew ?_))) HO2.out (by omega) HM.out.fr).mono ?_); rintro e w9 ⟨rfl, hp9⟩; have HP9 := hide (NPost.then HK4.out (fun _ h => .inl h) (NPost.ahead (w := w4) (w1 := _) (by repeat (first | exact Below.refl _ _ | refine bel_alloc ?_ _ | refine Below.drew ?_)) (hp9.imp (z' := z + 21) (by omega) (R' := Fwd (z + 12) N) (fun N' hF => ⟨HFm.out.trans hF.1, hF.2.mono (by omega)⟩)))); clear hp9))
    go_end0
    exact ⟨rfl, HP9.out⟩

set_option maxHeartbeats 4000000 in
theorem step_d3 (X : Nat → Prop) (base p z : Nat) (N : Nd) (m : MMsg) (w0 w : World) (h : IsNd X w base p z N) (hO : N.Ok z) (hz : z ≤ 9000) (hB : w0.heap.size ≤ base) (hb0 : Below w0.heap.size w0 w) (hm : m.ok w0) (hS : SmallM m.en m.es) (hmn : m.mn ≤ 9) (hdn : m.sn ≤ 5000) (hl : N.L.s.i ≤ N.commit) (gt : (m.tt != N.id) = false) (g2 : decide (N.term < m.tm) = true) (k1 : (m.k == 1) = false) (k2 : (m.k == 2) = false) (k3 : (m.k == 3) = true) :
    Calls Tryz.prog 23 #[.pointer (some ⟨p, 0, none⟩), .agg #[.int .i64 m.k, .int .u64 m.fr, .int .u64 m.tt, .int .u64 m.tm, .int .u64 m.ix, .int .u64 m.lt, .int .u64 m.cm, .int .u64 m.hn, .bool m.rj, .slice m.ea m.en m.ec, .int .u64 m.si, .int .u64 m.st, .slice m.ma m.mn m.mc, .slice m.sa m.sn m.sc]] w fun e w' => e = .returned (.tuple #[]) ∧ NPost X w base p (z + 21) (Fwd (z + 12) N) w' := by
  have HO := hide hO
  have hpl := h.at.2
  have hne : ¬ w.heap.size = p := by omega
  have hne2 : ¬ p = w.heap.size := by omega
  have HXB : Hid (¬ X w.heap.size) := fun hx => by have := (h.rng _ hx).2; omega
  have HBx := hide (box14_new w m w.heap.size 49 rfl)
  have hb0w := new_below w (.cells #[.int .i64 m.k, .int .u64 m.fr, .int .u64 m.tt, .int .u64 m.tm, .int .u64 m.ix, .int .u64 m.lt, .int .u64 m.cm, .int .u64 m.hn, .bool m.rj, .slice m.ea m.en m.ec, .int .u64 m.si, .int .u64 m.st, .slice m.ma m.mn m.mc, .slice m.sa m.sn m.sc] 49)
  have HBW := hide hb0w
  have HN := hide h
  have HM := hide hm
  have HS := hide hS
  have HFin0 : Hid (Fwd (z + 12) N N) := Fwd.refl (hO.mono (by omega))
  have HB0w := hide hb0
  have HL := hide hl
  obtain ⟨c0, c1, c2, -⟩ := (h.keep hb0w).c
  have f1 := (h.keep hb0w).fz 1
  have f2 := (h.keep hb0w).fz 2
  have hB1 : w.heap.size < (w.alloc (.cells #[.int .i64 m.k, .int .u64 m.fr, .int .u64 m.tt, .int .u64 m.tm, .int .u64 m.ix, .int .u64 m.lt, .int .u64 m.cm, .int .u64 m.hn, .bool m.rj, .slice m.ea m.en m.ec, .int .u64 m.si, .int .u64 m.st, .slice m.ma m.mn m.mc, .slice m.sa m.sn m.sc] 49)).heap.size := HBx.out.2
  have hp1 : p < (w.alloc (.cells #[.int .i64 m.k, .int .u64 m.fr, .int .u64 m.tt, .int .u64 m.tm, .int .u64 m.ix, .int .u64 m.lt, .int .u64 m.cm, .int .u64 m.hn, .bool m.rj, .slice m.ea m.en m.ec, .int .u64 m.si, .int .u64 m.st, .slice m.ma m.mn m.mc, .slice m.sa m.sn m.sc] 49)).heap.size := (h.keep hb0w).at.2
  obtain ⟨b0, -, b2, b3, -⟩ := HBx.out.c
  have HK1 := hide (fun W (hW : Below (w.alloc (.cells #[.int .i64 m.k, .int .u64 m.fr, .int .u64 m.tt, .int .u64 m.tm, .int .u64 m.ix, .int .u64 m.lt, .int .u64 m.cm, .int .u64 m.hn, .bool m.rj, .slice m.ea m.en m.ec, .int .u64 m.si, .int .u64 m.st, .slice m.ma m.mn m.mc, .slice m.sa m.sn m.sc] 49)).heap.size (w.alloc (.cells #[.int .i64 m.k, .int .u64 m.fr, .int .u64 m.tt, .int .u64 m.tm, .int .u64 m.ix, .int .u64 m.lt, .int .u64 m.cm, .int .u64 m.hn, .bool m.rj, .slice m.ea m.en m.ec, .int .u64 m.si, .int .u64 m.st, .slice m.ma m.mn m.mc, .slice m.sa m.sn m.sc] 49)) W) => And.intro ((hW.cell (p := ⟨p, 0, none⟩) hp1).trans c0) (And.intro ((hW.cell (p := ⟨p, 1, none⟩) hp1).trans c1) (And.intro ((hW.cell (p := ⟨w.heap.size, 2, none⟩) hB1).trans b2) ((hW.cell (p := ⟨w.heap.size, 3, none⟩) hB1).trans b3))))
  clear h hO hm hS hb0w hb0 hl
  have hlt : N.term < m.tm := of_decide_eq_true g2
  have HFm : Hid (Fw N { N with term := m.tm, vote := 0, role := 0, leader := 0 }) := ⟨rfl, by show N.term ≤ m.tm; omega, Int.le_refl _, (fun e => by have : N.term = m.tm := e; omega), Int.le_refl _, fun e h _ _ => h, fun x => x⟩
  have HO2 : Hid (({ N with term := m.tm, vote := 0, role := 0, leader := 0 } : Nd).Ok z) := ⟨HO.out.good, HO.out.n, HO.out.m9, HO.out.i62, HO.out.d, (fun e => by cases e), (fun e => by cases e), HO.out.id, HM.out.tm, (by show U64 0; exact ⟨by decide, by decide⟩), (by show U64 0; exact ⟨by decide, by decide⟩), HO.out.ticks, HO.out.commit, HO.out.given⟩
  clear hlt
  go_enter Tryz.func23, Tryz.ntmps23
  go_wp2_with fail
  go_region_held3 (fun W => W.cell? ⟨p, 0, none⟩ = some (.int .u64 N.id) ∧ W.cell? ⟨p, 1, none⟩ = some (.int .u64 N.term) ∧ W.cell? ⟨w.heap.size, 2, none⟩ = some (.int .u64 m.tt) ∧ W.cell? ⟨w.heap.size, 3, none⟩ = some (.int .u64 m.tm)) (first | exact HK1.out _ (by repeat (first | exact Below.refl _ _ | refine bel_alloc ?_ _ | refine Below.drew ?_))) (first
    | (go_at_call 56; go_must (refine (made_any X base p z N _ (HN.out.keep (by repeat (first | exact Below.refl _ _ | refine bel_alloc ?_ _ | refine Below.drew ?_)))).mono ?_); rintro e wm ⟨rfl, hw⟩; have hw := hw.symm; subst hw))
  all_goals
    go_wp2_with fail
    go_region_held3 (fun W => W.cell? ⟨p, 0, none⟩ = some (.int .u64 N.id) ∧ W.cell? ⟨p, 1, none⟩ = some (.int .u64 N.term) ∧ W.cell? ⟨w.heap.size, 2, none⟩ = some (.int .u64 m.tt) ∧ W.cell? ⟨w.heap.size, 3, none⟩ = some (.int .u64 m.tm)) (first | exact HK1.out _ (by repeat (first | exact Below.refl _ _ | refine bel_alloc ?_ _ | refine Below.drew ?_))) (fail)
  all_goals
    obtain ⟨W2, hW2⟩ : ∃ W, W = (w.alloc (.cells #[.int .i64 m.k, .int .u64 m.fr, .int .u64 m.tt, .int .u64 m.tm, .int .u64 m.ix, .int .u64 m.lt, .int .u64 m.cm, .int .u64 m.hn, .bool m.rj, .slice m.ea m.en m.ec, .int .u64 m.si, .int .u64 m.st, .slice m.ma m.mn m.mc, .slice m.sa m.sn m.sc] 49)).drew.drew := ⟨_, rfl⟩
    have HB2 : Hid (Below w.heap.size w W2) := by show Below _ _ _; rw [hW2]; exact (by repeat (first | exact Below.refl _ _ | refine bel_alloc ?_ _ | refine Below.drew ?_))
    have HBx2 : Hid (Box14 W2 w.heap.size m) := by show Box14 _ _ _; rw [hW2]; exact HBx.out.keep (by repeat (first | exact Below.refl _ _ | refine bel_alloc ?_ _ | refine Below.drew ?_))
    rw [← hW2]
    clear hW2 HK1 c0 c1 c2 f1 f2 b0 b2 b3 hB1 hp1
    obtain ⟨-, c12, c22, -⟩ := (HN.out.keep HB2.out).c
    have f12 := (HN.out.keep HB2.out).fz 1
    have f22 := (HN.out.keep HB2.out).fz 2
    obtain ⟨-, -, -, b32, -⟩ := HBx2.out.c
    have HS2 := hide (((HN.out.keep HB2.out).set 1 (.int .u64 m.tm) { N with term := m.tm } (by decide) (fun _ _ _ _ => rfl) rfl rfl rfl).set 2 (.int .u64 0) { N with term := m.tm, vote := 0 } (by decide) (fun _ _ _ _ => rfl) rfl rfl rfl)
    have HKs := hide (((Below.keeps HB2.out X).thenSet (i := 1) HN.out.xp (.int .u64 m.tm)).thenSet (i := 2) HN.out.xp (.int .u64 0))
    have HBs := hide (HBx2.out.lies (((Keeps.self X W2).thenSet (i := 1) HN.out.xp (.int .u64 m.tm)).thenSet (i := 2) HN.out.xp (.int .u64 0)) HXB.out)
    go_wp2_with (first
      | (go_at_call 59; go_must (refine (follow_any X base p z { N with term := m.tm, vote := 0 } 0 _ (by exact HS2.out)).mono ?_); rintro e w4 ⟨rfl, hN4, hK4⟩; have HN4 : Hid (IsNd X w4 base p z { N with term := m.tm, vote := 0, role := 0, leader := 0 }) := hN4; have HK4 := hide (HKs.out.then (fun _ h => .inl h) hK4); have HB4 := hide (HBs.out.lies hK4 HXB.out); have c14 : w4.cell? ⟨p, 1, none⟩ = some (.int .u64 m.tm) := hN4.c.2.1; obtain ⟨b04, -, -, b34, -⟩ := HB4.out.c; have hp4 : p < w4.heap.size := hN4.at.2; have hB4 : w.heap.size < w4.heap.size := HB4.out.2; clear hN4 hK4))
    have HK4c := hide (fun W (hW : Below w4.heap.size w4 W) => And.intro ((hW.cell (p := ⟨p, 1, none⟩) hp4).trans c14) ((hW.cell (p := ⟨w.heap.size, 3, none⟩) hB4).trans b34))
    go_region_held3 (fun W => W.cell? ⟨p, 1, none⟩ = some (.int .u64 m.tm) ∧ W.cell? ⟨w.heap.size, 3, none⟩ = some (.int .u64 m.tm)) (first | exact HK4c.out _ (by repeat (first | exact Below.refl _ _ | refine bel_alloc ?_ _ | refine Below.drew ?_))) (fail)
  all_goals
    go_wp2_with (first
      | (refine wp_load14 _ rfl (.tmp 3) rfl w.heap.size m rfl (HB4.out.keep (by repeat (first | exact Below.refl _ _ | refine bel_alloc ?_ _ | refine Below.drew ?_))) ?_)
      | (go_at_call 63; go_must (refine (askedApp_any X base p z { N with term := m.tm, vote := 0, role := 0, leader := 0 } m w0 _ (HN4.out.keep (by repeat (first | exact Below.refl _ _ | refine bel_alloc ?_ _ | refine Below.drew ?_))) HO2.out (by omega) hB (HB0w.out.trans ((HK4.out.thenBelow (w2 := _) (by repeat (first | exact Below.refl _ _ | refine bel_alloc ?_ _ | refine Below.drew ?_))).below (B := w0.heap.size) HB0w.out.size (fun k hk => Nat.le_trans hB (HN.out.rng k hk).1))) HM.out HS.out).mono ?_); rintro e w9 ⟨rfl, hp9⟩; have HP9 := hide (NPost.then HK4.out (fun _ h => .inl h) (NPost.ahead (w := w4) (w1 := _) (by repeat (first | exact Below.refl _ _ | refine bel_alloc ?_ _ | refine Below.drew ?_)) (hp9.imp (z' := z + 21) (by omega) (R' := Fwd (z + 12) N) (fun N' hF => ⟨HFm.out.trans hF.1, hF.2.mono (by omega)⟩)))); clear hp9))
    go_end0
    exact ⟨rfl, HP9.out⟩

set_option maxHeartbeats 4000000 in
theorem step_d4 (X : Nat → Prop) (base p z : Nat) (N : Nd) (m : MMsg) (w0 w : World) (h : IsNd X w base p z N) (hO : N.Ok z) (hz : z ≤ 9000) (hB : w0.heap.size ≤ base) (hb0 : Below w0.heap.size w0 w) (hm : m.ok w0) (hS : SmallM m.en m.es) (hmn : m.mn ≤ 9) (hdn : m.sn ≤ 5000) (hl : N.L.s.i ≤ N.commit) (gt : (m.tt != N.id) = false) (g2 : decide (N.term < m.tm) = true) (k1 : (m.k == 1) = false) (k2 : (m.k == 2) = false) (k3 : (m.k == 3) = false) (k4 : (m.k == 4) = true) :
    Calls Tryz.prog 23 #[.pointer (some ⟨p, 0, none⟩), .agg #[.int .i64 m.k, .int .u64 m.fr, .int .u64 m.tt, .int .u64 m.tm, .int .u64 m.ix, .int .u64 m.lt, .int .u64 m.cm, .int .u64 m.hn, .bool m.rj, .slice m.ea m.en m.ec, .int .u64 m.si, .int .u64 m.st, .slice m.ma m.mn m.mc, .slice m.sa m.sn m.sc]] w fun e w' => e = .returned (.tuple #[]) ∧ NPost X w base p (z + 21) (Fwd (z + 12) N) w' := by
  have HO := hide hO
  have hpl := h.at.2
  have hne : ¬ w.heap.size = p := by omega
  have hne2 : ¬ p = w.heap.size := by omega
  have HXB : Hid (¬ X w.heap.size) := fun hx => by have := (h.rng _ hx).2; omega
  have HBx := hide (box14_new w m w.heap.size 49 rfl)
  have hb0w := new_below w (.cells #[.int .i64 m.k, .int .u64 m.fr, .int .u64 m.tt, .int .u64 m.tm, .int .u64 m.ix, .int .u64 m.lt, .int .u64 m.cm, .int .u64 m.hn, .bool m.rj, .slice m.ea m.en m.ec, .int .u64 m.si, .int .u64 m.st, .slice m.ma m.mn m.mc, .slice m.sa m.sn m.sc] 49)
  have HBW := hide hb0w
  have HN := hide h
  have HM := hide hm
  have HS := hide hS
  have HFin0 : Hid (Fwd (z + 12) N N) := Fwd.refl (hO.mono (by omega))
  have HB0w := hide hb0
  have HL := hide hl
  obtain ⟨c0, c1, c2, -⟩ := (h.keep hb0w).c
  have f1 := (h.keep hb0w).fz 1
  have f2 := (h.keep hb0w).fz 2
  have hB1 : w.heap.size < (w.alloc (.cells #[.int .i64 m.k, .int .u64 m.fr, .int .u64 m.tt, .int .u64 m.tm, .int .u64 m.ix, .int .u64 m.lt, .int .u64 m.cm, .int .u64 m.hn, .bool m.rj, .slice m.ea m.en m.ec, .int .u64 m.si, .int .u64 m.st, .slice m.ma m.mn m.mc, .slice m.sa m.sn m.sc] 49)).heap.size := HBx.out.2
  have hp1 : p < (w.alloc (.cells #[.int .i64 m.k, .int .u64 m.fr, .int .u64 m.tt, .int .u64 m.tm, .int .u64 m.ix, .int .u64 m.lt, .int .u64 m.cm, .int .u64 m.hn, .bool m.rj, .slice m.ea m.en m.ec, .int .u64 m.si, .int .u64 m.st, .slice m.ma m.mn m.mc, .slice m.sa m.sn m.sc] 49)).heap.size := (h.keep hb0w).at.2
  obtain ⟨b0, -, b2, b3, -⟩ := HBx.out.c
  have HK1 := hide (fun W (hW : Below (w.alloc (.cells #[.int .i64 m.k, .int .u64 m.fr, .int .u64 m.tt, .int .u64 m.tm, .int .u64 m.ix, .int .u64 m.lt, .int .u64 m.cm, .int .u64 m.hn, .bool m.rj, .slice m.ea m.en m.ec, .int .u64 m.si, .int .u64 m.st, .slice m.ma m.mn m.mc, .slice m.sa m.sn m.sc] 49)).heap.size (w.alloc (.cells #[.int .i64 m.k, .int .u64 m.fr, .int .u64 m.tt, .int .u64 m.tm, .int .u64 m.ix, .int .u64 m.lt, .int .u64 m.cm, .int .u64 m.hn, .bool m.rj, .slice m.ea m.en m.ec, .int .u64 m.si, .int .u64 m.st, .slice m.ma m.mn m.mc, .slice m.sa m.sn m.sc] 49)) W) => And.intro ((hW.cell (p := ⟨p, 0, none⟩) hp1).trans c0) (And.intro ((hW.cell (p := ⟨p, 1, none⟩) hp1).trans c1) (And.intro ((hW.cell (p := ⟨w.heap.size, 2, none⟩) hB1).trans b2) ((hW.cell (p := ⟨w.heap.size, 3, none⟩) hB1).trans b3))))
  clear h hO hm hS hb0w hb0 hl
  have hlt : N.term < m.tm := of_decide_eq_true g2
  have HFm : Hid (Fw N { N with term := m.tm, vote := 0, role := 0, leader := 0 }) := ⟨rfl, by show N.term ≤ m.tm; omega, Int.le_refl _, (fun e => by have : N.term = m.tm := e; omega), Int.le_refl _, fun e h _ _ => h, fun x => x⟩
  have HO2 : Hid (({ N with term := m.tm, vote := 0, role := 0, leader := 0 } : Nd).Ok z) := ⟨HO.out.good, HO.out.n, HO.out.m9, HO.out.i62, HO.out.d, (fun e => by cases e), (fun e => by cases e), HO.out.id, HM.out.tm, (by show U64 0; exact ⟨by decide, by decide⟩), (by show U64 0; exact ⟨by decide, by decide⟩), HO.out.ticks, HO.out.commit, HO.out.given⟩
  clear hlt
  go_enter Tryz.func23, Tryz.ntmps23
  go_wp2_with fail
  go_region_held3 (fun W => W.cell? ⟨p, 0, none⟩ = some (.int .u64 N.id) ∧ W.cell? ⟨p, 1, none⟩ = some (.int .u64 N.term) ∧ W.cell? ⟨w.heap.size, 2, none⟩ = some (.int .u64 m.tt) ∧ W.cell? ⟨w.heap.size, 3, none⟩ = some (.int .u64 m.tm)) (first | exact HK1.out _ (by repeat (first | exact Below.refl _ _ | refine bel_alloc ?_ _ | refine Below.drew ?_))) (first
    | (go_at_call 56; go_must (refine (made_any X base p z N _ (HN.out.keep (by repeat (first | exact Below.refl _ _ | refine bel_alloc ?_ _ | refine Below.drew ?_)))).mono ?_); rintro e wm ⟨rfl, hw⟩; have hw := hw.symm; subst hw))
  all_goals
    go_wp2_with fail
    go_region_held3 (fun W => W.cell? ⟨p, 0, none⟩ = some (.int .u64 N.id) ∧ W.cell? ⟨p, 1, none⟩ = some (.int .u64 N.term) ∧ W.cell? ⟨w.heap.size, 2, none⟩ = some (.int .u64 m.tt) ∧ W.cell? ⟨w.heap.size, 3, none⟩ = some (.int .u64 m.tm)) (first | exact HK1.out _ (by repeat (first | exact Below.refl _ _ | refine bel_alloc ?_ _ | refine Below.drew ?_))) (fail)
  all_goals
    obtain ⟨W2, hW2⟩ : ∃ W, W = (w.alloc (.cells #[.int .i64 m.k, .int .u64 m.fr, .int .u64 m.tt, .int .u64 m.tm, .int .u64 m.ix, .int .u64 m.lt, .int .u64 m.cm, .int .u64 m.hn, .bool m.rj, .slice m.ea m.en m.ec, .int .u64 m.si, .int .u64 m.st, .slice m.ma m.mn m.mc, .slice m.sa m.sn m.sc] 49)).drew.drew := ⟨_, rfl⟩
    have HB2 : Hid (Below w.heap.size w W2) := by show Below _ _ _; rw [hW2]; exact (by repeat (first | exact Below.refl _ _ | refine bel_alloc ?_ _ | refine Below.drew ?_))
    have HBx2 : Hid (Box14 W2 w.heap.size m) := by show Box14 _ _ _; rw [hW2]; exact HBx.out.keep (by repeat (first | exact Below.refl _ _ | refine bel_alloc ?_ _ | refine Below.drew ?_))
    rw [← hW2]
    clear hW2 HK1 c0 c1 c2 f1 f2 b0 b2 b3 hB1 hp1
    obtain ⟨-, c12, c22, -⟩ := (HN.out.keep HB2.out).c
    have f12 := (HN.out.keep HB2.out).fz 1
    have f22 := (HN.out.keep HB2.out).fz 2
    obtain ⟨-, -, -, b32, -⟩ := HBx2.out.c
    have HS2 := hide (((HN.out.keep HB2.out).set 1 (.int .u64 m.tm) { N with term := m.tm } (by decide) (fun _ _ _ _ => rfl) rfl rfl rfl).set 2 (.int .u64 0) { N with term := m.tm, vote := 0 } (by decide) (fun _ _ _ _ => rfl) rfl rfl rfl)
    have HKs := hide (((Below.keeps HB2.out X).thenSet (i := 1) HN.out.xp (.int .u64 m.tm)).thenSet (i := 2) HN.out.xp (.int .u64 0))
    have HBs := hide (HBx2.out.lies (((Keeps.self X W2).thenSet (i := 1) HN.out.xp (.int .u64 m.tm)).thenSet (i := 2) HN.out.xp (.int .u64 0)) HXB.out)
    go_wp2_with (first
      | (go_at_call 59; go_must (refine (follow_any X base p z { N with term := m.tm, vote := 0 } 0 _ (by exact HS2.out)).mono ?_); rintro e w4 ⟨rfl, hN4, hK4⟩; have HN4 : Hid (IsNd X w4 base p z { N with term := m.tm, vote := 0, role := 0, leader := 0 }) := hN4; have HK4 := hide (HKs.out.then (fun _ h => .inl h) hK4); have HB4 := hide (HBs.out.lies hK4 HXB.out); have c14 : w4.cell? ⟨p, 1, none⟩ = some (.int .u64 m.tm) := hN4.c.2.1; obtain ⟨b04, -, -, b34, -⟩ := HB4.out.c; have hp4 : p < w4.heap.size := hN4.at.2; have hB4 : w.heap.size < w4.heap.size := HB4.out.2; clear hN4 hK4))
    have HK4c := hide (fun W (hW : Below w4.heap.size w4 W) => And.intro ((hW.cell (p := ⟨p, 1, none⟩) hp4).trans c14) ((hW.cell (p := ⟨w.heap.size, 3, none⟩) hB4).trans b34))
    go_region_held3 (fun W => W.cell? ⟨p, 1, none⟩ = some (.int .u64 m.tm) ∧ W.cell? ⟨w.heap.size, 3, none⟩ = some (.int .u64 m.tm)) (first | exact HK4c.out _ (by repeat (first | exact Below.refl _ _ | refine bel_alloc ?_ _ | refine Below.drew ?_))) (fail)
  all_goals
    go_wp2_with (first
      | (refine wp_load14 _ rfl (.tmp 3) rfl w.heap.size m rfl (HB4.out.keep (by repeat (first | exact Below.refl _ _ | refine bel_alloc ?_ _ | refine Below.drew ?_))) ?_)
      | (go_at_call 64; go_must (refine (toldMatch_any X base p z { N with term := m.tm, vote := 0, role := 0, leader := 0 } m _ (HN4.out.keep (by repeat (first | exact Below.refl _ _ | refine bel_alloc ?_ _ | refine Below.drew ?_))) HO2.out (by omega) HM.out.fr HM.out.ix HM.out.hn).mono ?_); rintro e w9 ⟨rfl, hp9⟩; have HP9 := hide (NPost.then HK4.out (fun _ h => .inl h) (NPost.ahead (w := w4) (w1 := _) (by repeat (first | exact Below.refl _ _ | refine bel_alloc ?_ _ | refine Below.drew ?_)) (hp9.imp (z' := z + 21) (by omega) (R' := Fwd (z + 12) N) (fun N' hF => ⟨HFm.out.trans hF.1, hF.2.mono (by omega)⟩)))); clear hp9))
    go_end0
    exact ⟨rfl, HP9.out⟩

set_option maxHeartbeats 4000000 in
theorem step_d5 (X : Nat → Prop) (base p z : Nat) (N : Nd) (m : MMsg) (w0 w : World) (h : IsNd X w base p z N) (hO : N.Ok z) (hz : z ≤ 9000) (hB : w0.heap.size ≤ base) (hb0 : Below w0.heap.size w0 w) (hm : m.ok w0) (hS : SmallM m.en m.es) (hmn : m.mn ≤ 9) (hdn : m.sn ≤ 5000) (hl : N.L.s.i ≤ N.commit) (gt : (m.tt != N.id) = false) (g2 : decide (N.term < m.tm) = true) (k1 : (m.k == 1) = false) (k2 : (m.k == 2) = false) (k3 : (m.k == 3) = false) (k4 : (m.k == 4) = false) (k5 : (m.k == 5) = true) :
    Calls Tryz.prog 23 #[.pointer (some ⟨p, 0, none⟩), .agg #[.int .i64 m.k, .int .u64 m.fr, .int .u64 m.tt, .int .u64 m.tm, .int .u64 m.ix, .int .u64 m.lt, .int .u64 m.cm, .int .u64 m.hn, .bool m.rj, .slice m.ea m.en m.ec, .int .u64 m.si, .int .u64 m.st, .slice m.ma m.mn m.mc, .slice m.sa m.sn m.sc]] w fun e w' => e = .returned (.tuple #[]) ∧ NPost X w base p (z + 21) (Fwd (z + 12) N) w' := by
  have HO := hide hO
  have hpl := h.at.2
  have hne : ¬ w.heap.size = p := by omega
  have hne2 : ¬ p = w.heap.size := by omega
  have HXB : Hid (¬ X w.heap.size) := fun hx => by have := (h.rng _ hx).2; omega
  have HBx := hide (box14_new w m w.heap.size 49 rfl)
  have hb0w := new_below w (.cells #[.int .i64 m.k, .int .u64 m.fr, .int .u64 m.tt, .int .u64 m.tm, .int .u64 m.ix, .int .u64 m.lt, .int .u64 m.cm, .int .u64 m.hn, .bool m.rj, .slice m.ea m.en m.ec, .int .u64 m.si, .int .u64 m.st, .slice m.ma m.mn m.mc, .slice m.sa m.sn m.sc] 49)
  have HBW := hide hb0w
  have HN := hide h
  have HM := hide hm
  have HS := hide hS
  have HFin0 : Hid (Fwd (z + 12) N N) := Fwd.refl (hO.mono (by omega))
  have HB0w := hide hb0
  have HL := hide hl
  obtain ⟨c0, c1, c2, -⟩ := (h.keep hb0w).c
  have f1 := (h.keep hb0w).fz 1
  have f2 := (h.keep hb0w).fz 2
  have hB1 : w.heap.size < (w.alloc (.cells #[.int .i64 m.k, .int .u64 m.fr, .int .u64 m.tt, .int .u64 m.tm, .int .u64 m.ix, .int .u64 m.lt, .int .u64 m.cm, .int .u64 m.hn, .bool m.rj, .slice m.ea m.en m.ec, .int .u64 m.si, .int .u64 m.st, .slice m.ma m.mn m.mc, .slice m.sa m.sn m.sc] 49)).heap.size := HBx.out.2
  have hp1 : p < (w.alloc (.cells #[.int .i64 m.k, .int .u64 m.fr, .int .u64 m.tt, .int .u64 m.tm, .int .u64 m.ix, .int .u64 m.lt, .int .u64 m.cm, .int .u64 m.hn, .bool m.rj, .slice m.ea m.en m.ec, .int .u64 m.si, .int .u64 m.st, .slice m.ma m.mn m.mc, .slice m.sa m.sn m.sc] 49)).heap.size := (h.keep hb0w).at.2
  obtain ⟨b0, -, b2, b3, -⟩ := HBx.out.c
  have HK1 := hide (fun W (hW : Below (w.alloc (.cells #[.int .i64 m.k, .int .u64 m.fr, .int .u64 m.tt, .int .u64 m.tm, .int .u64 m.ix, .int .u64 m.lt, .int .u64 m.cm, .int .u64 m.hn, .bool m.rj, .slice m.ea m.en m.ec, .int .u64 m.si, .int .u64 m.st, .slice m.ma m.mn m.mc, .slice m.sa m.sn m.sc] 49)).heap.size (w.alloc (.cells #[.int .i64 m.k, .int .u64 m.fr, .int .u64 m.tt, .int .u64 m.tm, .int .u64 m.ix, .int .u64 m.lt, .int .u64 m.cm, .int .u64 m.hn, .bool m.rj, .slice m.ea m.en m.ec, .int .u64 m.si, .int .u64 m.st, .slice m.ma m.mn m.mc, .slice m.sa m.sn m.sc] 49)) W) => And.intro ((hW.cell (p := ⟨p, 0, none⟩) hp1).trans c0) (And.intro ((hW.cell (p := ⟨p, 1, none⟩) hp1).trans c1) (And.intro ((hW.cell (p := ⟨w.heap.size, 2, none⟩) hB1).trans b2) ((hW.cell (p := ⟨w.heap.size, 3, none⟩) hB1).trans b3))))
  clear h hO hm hS hb0w hb0 hl
  have hlt : N.term < m.tm := of_decide_eq_true g2
  have HFm : Hid (Fw N { N with term := m.tm, vote := 0, role := 0, leader := 0 }) := ⟨rfl, by show N.term ≤ m.tm; omega, Int.le_refl _, (fun e => by have : N.term = m.tm := e; omega), Int.le_refl _, fun e h _ _ => h, fun x => x⟩
  have HO2 : Hid (({ N with term := m.tm, vote := 0, role := 0, leader := 0 } : Nd).Ok z) := ⟨HO.out.good, HO.out.n, HO.out.m9, HO.out.i62, HO.out.d, (fun e => by cases e), (fun e => by cases e), HO.out.id, HM.out.tm, (by show U64 0; exact ⟨by decide, by decide⟩), (by show U64 0; exact ⟨by decide, by decide⟩), HO.out.ticks, HO.out.commit, HO.out.given⟩
  clear hlt
  go_enter Tryz.func23, Tryz.ntmps23
  go_wp2_with fail
  go_region_held3 (fun W => W.cell? ⟨p, 0, none⟩ = some (.int .u64 N.id) ∧ W.cell? ⟨p, 1, none⟩ = some (.int .u64 N.term) ∧ W.cell? ⟨w.heap.size, 2, none⟩ = some (.int .u64 m.tt) ∧ W.cell? ⟨w.heap.size, 3, none⟩ = some (.int .u64 m.tm)) (first | exact HK1.out _ (by repeat (first | exact Below.refl _ _ | refine bel_alloc ?_ _ | refine Below.drew ?_))) (first
    | (go_at_call 56; go_must (refine (made_any X base p z N _ (HN.out.keep (by repeat (first | exact Below.refl _ _ | refine bel_alloc ?_ _ | refine Below.drew ?_)))).mono ?_); rintro e wm ⟨rfl, hw⟩; have hw := hw.symm; subst hw))
  all_goals
    go_wp2_with fail
    go_region_held3 (fun W => W.cell? ⟨p, 0, none⟩ = some (.int .u64 N.id) ∧ W.cell? ⟨p, 1, none⟩ = some (.int .u64 N.term) ∧ W.cell? ⟨w.heap.size, 2, none⟩ = some (.int .u64 m.tt) ∧ W.cell? ⟨w.heap.size, 3, none⟩ = some (.int .u64 m.tm)) (first | exact HK1.out _ (by repeat (first | exact Below.refl _ _ | refine bel_alloc ?_ _ | refine Below.drew ?_))) (fail)
  all_goals
    obtain ⟨W2, hW2⟩ : ∃ W, W = (w.alloc (.cells #[.int .i64 m.k, .int .u64 m.fr, .int .u64 m.tt, .int .u64 m.tm, .int .u64 m.ix, .int .u64 m.lt, .int .u64 m.cm, .int .u64 m.hn, .bool m.rj, .slice m.ea m.en m.ec, .int .u64 m.si, .int .u64 m.st, .slice m.ma m.mn m.mc, .slice m.sa m.sn m.sc] 49)).drew.drew := ⟨_, rfl⟩
    have HB2 : Hid (Below w.heap.size w W2) := by show Below _ _ _; rw [hW2]; exact (by repeat (first | exact Below.refl _ _ | refine bel_alloc ?_ _ | refine Below.drew ?_))
    have HBx2 : Hid (Box14 W2 w.heap.size m) := by show Box14 _ _ _; rw [hW2]; exact HBx.out.keep (by repeat (first | exact Below.refl _ _ | refine bel_alloc ?_ _ | refine Below.drew ?_))
    rw [← hW2]
    clear hW2 HK1 c0 c1 c2 f1 f2 b0 b2 b3 hB1 hp1
    obtain ⟨-, c12, c22, -⟩ := (HN.out.keep HB2.out).c
    have f12 := (HN.out.keep HB2.out).fz 1
    have f22 := (HN.out.keep HB2.out).fz 2
    obtain ⟨-, -, -, b32, -⟩ := HBx2.out.c
    have HS2 := hide (((HN.out.keep HB2.out).set 1 (.int .u64 m.tm) { N with term := m.tm } (by decide) (fun _ _ _ _ => rfl) rfl rfl rfl).set 2 (.int .u64 0) { N with term := m.tm, vote := 0 } (by decide) (fun _ _ _ _ => rfl) rfl rfl rfl)
    have HKs := hide (((Below.keeps HB2.out X).thenSet (i := 1) HN.out.xp (.int .u64 m.tm)).thenSet (i := 2) HN.out.xp (.int .u64 0))
    have HBs := hide (HBx2.out.lies (((Keeps.self X W2).thenSet (i := 1) HN.out.xp (.int .u64 m.tm)).thenSet (i := 2) HN.out.xp (.int .u64 0)) HXB.out)
    go_wp2_with (first
      | (go_at_call 59; go_must (refine (follow_any X base p z { N with term := m.tm, vote := 0 } 0 _ (by exact HS2.out)).mono ?_); rintro e w4 ⟨rfl, hN4, hK4⟩; have HN4 : Hid (IsNd X w4 base p z { N with term := m.tm, vote := 0, role := 0, leader := 0 }) := hN4; have HK4 := hide (HKs.out.then (fun _ h => .inl h) hK4); have HB4 := hide (HBs.out.lies hK4 HXB.out); have c14 : w4.cell? ⟨p, 1, none⟩ = some (.int .u64 m.tm) := hN4.c.2.1; obtain ⟨b04, -, -, b34, -⟩ := HB4.out.c; have hp4 : p < w4.heap.size := hN4.at.2; have hB4 : w.heap.size < w4.heap.size := HB4.out.2; clear hN4 hK4))
    have HK4c := hide (fun W (hW : Below w4.heap.size w4 W) => And.intro ((hW.cell (p := ⟨p, 1, none⟩) hp4).trans c14) ((hW.cell (p := ⟨w.heap.size, 3, none⟩) hB4).trans b34))
    go_region_held3 (fun W => W.cell? ⟨p, 1, none⟩ = some (.int .u64 m.tm) ∧ W.cell? ⟨w.heap.size, 3, none⟩ = some (.int .u64 m.tm)) (first | exact HK4c.out _ (by repeat (first | exact Below.refl _ _ | refine bel_alloc ?_ _ | refine Below.drew ?_))) (fail)
  all_goals
    go_wp2_with (first
      | (refine wp_load14 _ rfl (.tmp 3) rfl w.heap.size m rfl (HB4.out.keep (by repeat (first | exact Below.refl _ _ | refine bel_alloc ?_ _ | refine Below.drew ?_))) ?_)
      | (go_at_call 65; go_must (refine (askedSnap_any X base p z { N with term := m.tm, vote := 0, role := 0, leader := 0 } m w0 _ (HN4.out.keep (by repeat (first | exact Below.refl _ _ | refine bel_alloc ?_ _ | refine Below.drew ?_))) HO2.out hz hB (HB0w.out.trans ((HK4.out.thenBelow (w2 := _) (by repeat (first | exact Below.refl _ _ | refine bel_alloc ?_ _ | refine Below.drew ?_))).below (B := w0.heap.size) HB0w.out.size (fun k hk => Nat.le_trans hB (HN.out.rng k hk).1))) HM.out hmn hdn HL.out).mono ?_); rintro e w9 ⟨rfl, hp9⟩; have HP9 := hide (NPost.then HK4.out (fun _ h => .inl h) (NPost.ahead (w := w4) (w1 := _) (by repeat (first | exact Below.refl _ _ | refine bel_alloc ?_ _ | refine Below.drew ?_)) (hp9.imp (z' := z + 21) (by omega) (R' := Fwd (z + 12) N) (fun N' hF => ⟨HFm.out.trans hF.1, hF.2.mono (by omega)⟩)))); clear hp9))
    go_end0
    exact ⟨rfl, HP9.out⟩

set_option maxHeartbeats 4000000 in
theorem step_do (X : Nat → Prop) (base p z : Nat) (N : Nd) (m : MMsg) (w0 w : World) (h : IsNd X w base p z N) (hO : N.Ok z) (hz : z ≤ 9000) (hB : w0.heap.size ≤ base) (hb0 : Below w0.heap.size w0 w) (hm : m.ok w0) (hS : SmallM m.en m.es) (hmn : m.mn ≤ 9) (hdn : m.sn ≤ 5000) (hl : N.L.s.i ≤ N.commit) (gt : (m.tt != N.id) = false) (g2 : decide (N.term < m.tm) = true) (k1 : (m.k == 1) = false) (k2 : (m.k == 2) = false) (k3 : (m.k == 3) = false) (k4 : (m.k == 4) = false) (k5 : (m.k == 5) = false) :
    Calls Tryz.prog 23 #[.pointer (some ⟨p, 0, none⟩), .agg #[.int .i64 m.k, .int .u64 m.fr, .int .u64 m.tt, .int .u64 m.tm, .int .u64 m.ix, .int .u64 m.lt, .int .u64 m.cm, .int .u64 m.hn, .bool m.rj, .slice m.ea m.en m.ec, .int .u64 m.si, .int .u64 m.st, .slice m.ma m.mn m.mc, .slice m.sa m.sn m.sc]] w fun e w' => e = .returned (.tuple #[]) ∧ NPost X w base p (z + 21) (Fwd (z + 12) N) w' := by
  have HO := hide hO
  have hpl := h.at.2
  have hne : ¬ w.heap.size = p := by omega
  have hne2 : ¬ p = w.heap.size := by omega
  have HXB : Hid (¬ X w.heap.size) := fun hx => by have := (h.rng _ hx).2; omega
  have HBx := hide (box14_new w m w.heap.size 49 rfl)
  have hb0w := new_below w (.cells #[.int .i64 m.k, .int .u64 m.fr, .int .u64 m.tt, .int .u64 m.tm, .int .u64 m.ix, .int .u64 m.lt, .int .u64 m.cm, .int .u64 m.hn, .bool m.rj, .slice m.ea m.en m.ec, .int .u64 m.si, .int .u64 m.st, .slice m.ma m.mn m.mc, .slice m.sa m.sn m.sc] 49)
  have HBW := hide hb0w
  have HN := hide h
  have HM := hide hm
  have HS := hide hS
  have HFin0 : Hid (Fwd (z + 12) N N) := Fwd.refl (hO.mono (by omega))
  have HB0w := hide hb0
  have HL := hide hl
  obtain ⟨c0, c1, c2, -⟩ := (h.keep hb0w).c
  have f1 := (h.keep hb0w).fz 1
  have f2 := (h.keep hb0w).fz 2
  have hB1 : w.heap.size < (w.alloc (.cells #[.int .i64 m.k, .int .u64 m.fr, .int .u64 m.tt, .int .u64 m.tm, .int .u64 m.ix, .int .u64 m.lt, .int .u64 m.cm, .int .u64 m.hn, .bool m.rj, .slice m.ea m.en m.ec, .int .u64 m.si, .int .u64 m.st, .slice m.ma m.mn m.mc, .slice m.sa m.sn m.sc] 49)).heap.size := HBx.out.2
  have hp1 : p < (w.alloc (.cells #[.int .i64 m.k, .int .u64 m.fr, .int .u64 m.tt, .int .u64 m.tm, .int .u64 m.ix, .int .u64 m.lt, .int .u64 m.cm, .int .u64 m.hn, .bool m.rj, .slice m.ea m.en m.ec, .int .u64 m.si, .int .u64 m.st, .slice m.ma m.mn m.mc, .slice m.sa m.sn m.sc] 49)).heap.size := (h.keep hb0w).at.2
  obtain ⟨b0, -, b2, b3, -⟩ := HBx.out.c
  have HK1 := hide (fun W (hW : Below (w.alloc (.cells #[.int .i64 m.k, .int .u64 m.fr, .int .u64 m.tt, .int .u64 m.tm, .int .u64 m.ix, .int .u64 m.lt, .int .u64 m.cm, .int .u64 m.hn, .bool m.rj, .slice m.ea m.en m.ec, .int .u64 m.si, .int .u64 m.st, .slice m.ma m.mn m.mc, .slice m.sa m.sn m.sc] 49)).heap.size (w.alloc (.cells #[.int .i64 m.k, .int .u64 m.fr, .int .u64 m.tt, .int .u64 m.tm, .int .u64 m.ix, .int .u64 m.lt, .int .u64 m.cm, .int .u64 m.hn, .bool m.rj, .slice m.ea m.en m.ec, .int .u64 m.si, .int .u64 m.st, .slice m.ma m.mn m.mc, .slice m.sa m.sn m.sc] 49)) W) => And.intro ((hW.cell (p := ⟨p, 0, none⟩) hp1).trans c0) (And.intro ((hW.cell (p := ⟨p, 1, none⟩) hp1).trans c1) (And.intro ((hW.cell (p := ⟨w.heap.size, 2, none⟩) hB1).trans b2) ((hW.cell (p := ⟨w.heap.size, 3, none⟩) hB1).trans b3))))
  clear h hO hm hS hb0w hb0 hl
  have hlt : N.term < m.tm := of_decide_eq_true g2
  have HFm : Hid (Fw N { N with term := m.tm, vote := 0, role := 0, leader := 0 }) := ⟨rfl, by show N.term ≤ m.tm; omega, Int.le_refl _, (fun e => by have : N.term = m.tm := e; omega), Int.le_refl _, fun e h _ _ => h, fun x => x⟩
  have HO2 : Hid (({ N with term := m.tm, vote := 0, role := 0, leader := 0 } : Nd).Ok z) := ⟨HO.out.good, HO.out.n, HO.out.m9, HO.out.i62, HO.out.d, (fun e => by cases e), (fun e => by cases e), HO.out.id, HM.out.tm, (by show U64 0; exact ⟨by decide, by decide⟩), (by show U64 0; exact ⟨by decide, by decide⟩), HO.out.ticks, HO.out.commit, HO.out.given⟩
  clear hlt
  go_enter Tryz.func23, Tryz.ntmps23
  go_wp2_with fail
  go_region_held3 (fun W => W.cell? ⟨p, 0, none⟩ = some (.int .u64 N.id) ∧ W.cell? ⟨p, 1, none⟩ = some (.int .u64 N.term) ∧ W.cell? ⟨w.heap.size, 2, none⟩ = some (.int .u64 m.tt) ∧ W.cell? ⟨w.heap.size, 3, none⟩ = some (.int .u64 m.tm)) (first | exact HK1.out _ (by repeat (first | exact Below.refl _ _ | refine bel_alloc ?_ _ | refine Below.drew ?_))) (first
    | (go_at_call 56; go_must (refine (made_any X base p z N _ (HN.out.keep (by repeat (first | exact Below.refl _ _ | refine bel_alloc ?_ _ | refine Below.drew ?_)))).mono ?_); rintro e wm ⟨rfl, hw⟩; have hw := hw.symm; subst hw))
  all_goals
    go_wp2_with fail
    go_region_held3 (fun W => W.cell? ⟨p, 0, none⟩ = some (.int .u64 N.id) ∧ W.cell? ⟨p, 1, none⟩ = some (.int .u64 N.term) ∧ W.cell? ⟨w.heap.size, 2, none⟩ = some (.int .u64 m.tt) ∧ W.cell? ⟨w.heap.size, 3, none⟩ = some (.int .u64 m.tm)) (first | exact HK1.out _ (by repeat (first | exact Below.refl _ _ | refine bel_alloc ?_ _ | refine Below.drew ?_))) (fail)
  all_goals
    obtain ⟨W2, hW2⟩ : ∃ W, W = (w.alloc (.cells #[.int .i64 m.k, .int .u64 m.fr, .int .u64 m.tt, .int .u64 m.tm, .int .u64 m.ix, .int .u64 m.lt, .int .u64 m.cm, .int .u64 m.hn, .bool m.rj, .slice m.ea m.en m.ec, .int .u64 m.si, .int .u64 m.st, .slice m.ma m.mn m.mc, .slice m.sa m.sn m.sc] 49)).drew.drew := ⟨_, rfl⟩
    have HB2 : Hid (Below w.heap.size w W2) := by show Below _ _ _; rw [hW2]; exact (by repeat (first | exact Below.refl _ _ | refine bel_alloc ?_ _ | refine Below.drew ?_))
    have HBx2 : Hid (Box14 W2 w.heap.size m) := by show Box14 _ _ _; rw [hW2]; exact HBx.out.keep (by repeat (first | exact Below.refl _ _ | refine bel_alloc ?_ _ | refine Below.drew ?_))
    rw [← hW2]
    clear hW2 HK1 c0 c1 c2 f1 f2 b0 b2 b3 hB1 hp1
    obtain ⟨-, c12, c22, -⟩ := (HN.out.keep HB2.out).c
    have f12 := (HN.out.keep HB2.out).fz 1
    have f22 := (HN.out.keep HB2.out).fz 2
    obtain ⟨-, -, -, b32, -⟩ := HBx2.out.c
    have HS2 := hide (((HN.out.keep HB2.out).set 1 (.int .u64 m.tm) { N with term := m.tm } (by decide) (fun _ _ _ _ => rfl) rfl rfl rfl).set 2 (.int .u64 0) { N with term := m.tm, vote := 0 } (by decide) (fun _ _ _ _ => rfl) rfl rfl rfl)
    have HKs := hide (((Below.keeps HB2.out X).thenSet (i := 1) HN.out.xp (.int .u64 m.tm)).thenSet (i := 2) HN.out.xp (.int .u64 0))
    have HBs := hide (HBx2.out.lies (((Keeps.self X W2).thenSet (i := 1) HN.out.xp (.int .u64 m.tm)).thenSet (i := 2) HN.out.xp (.int .u64 0)) HXB.out)
    go_wp2_with (first
      | (go_at_call 59; go_must (refine (follow_any X base p z { N with term := m.tm, vote := 0 } 0 _ (by exact HS2.out)).mono ?_); rintro e w4 ⟨rfl, hN4, hK4⟩; have HN4 : Hid (IsNd X w4 base p z { N with term := m.tm, vote := 0, role := 0, leader := 0 }) := hN4; have HK4 := hide (HKs.out.then (fun _ h => .inl h) hK4); have HB4 := hide (HBs.out.lies hK4 HXB.out); have c14 : w4.cell? ⟨p, 1, none⟩ = some (.int .u64 m.tm) := hN4.c.2.1; obtain ⟨b04, -, -, b34, -⟩ := HB4.out.c; have hp4 : p < w4.heap.size := hN4.at.2; have hB4 : w.heap.size < w4.heap.size := HB4.out.2; clear hN4 hK4))
    have HK4c := hide (fun W (hW : Below w4.heap.size w4 W) => And.intro ((hW.cell (p := ⟨p, 1, none⟩) hp4).trans c14) ((hW.cell (p := ⟨w.heap.size, 3, none⟩) hB4).trans b34))
    go_region_held3 (fun W => W.cell? ⟨p, 1, none⟩ = some (.int .u64 m.tm) ∧ W.cell? ⟨w.heap.size, 3, none⟩ = some (.int .u64 m.tm)) (first | exact HK4c.out _ (by repeat (first | exact Below.refl _ _ | refine bel_alloc ?_ _ | refine Below.drew ?_))) (fail)
  all_goals
    go_wp2
    go_end0
    exact ⟨rfl, NPost.then HK4.out (fun _ h => .inl h) (NPost.behind (w1 := w4) (NPost.of (HN4.out.mono (by omega)) ⟨HFm.out, HO2.out.mono (by omega)⟩ (Keeps.self _ _)) (by repeat (first | exact Below.refl _ _ | refine bel_alloc ?_ _ | refine Below.drew ?_)))⟩

theorem step_any (X : Nat → Prop) (base p z : Nat) (N : Nd) (m : MMsg) (w0 w : World) (h : IsNd X w base p z N) (hO : N.Ok z) (hz : z ≤ 9000) (hB : w0.heap.size ≤ base) (hb0 : Below w0.heap.size w0 w) (hm : m.ok w0) (hS : SmallM m.en m.es) (hmn : m.mn ≤ 9) (hdn : m.sn ≤ 5000) (hl : N.L.s.i ≤ N.commit) :
    Calls Tryz.prog 23 #[.pointer (some ⟨p, 0, none⟩), .agg #[.int .i64 m.k, .int .u64 m.fr, .int .u64 m.tt, .int .u64 m.tm, .int .u64 m.ix, .int .u64 m.lt, .int .u64 m.cm, .int .u64 m.hn, .bool m.rj, .slice m.ea m.en m.ec, .int .u64 m.si, .int .u64 m.st, .slice m.ma m.mn m.mc, .slice m.sa m.sn m.sc]] w fun e w' => e = .returned (.tuple #[]) ∧ NPost X w base p (z + 21) (Fwd (z + 12) N) w' := by
  cases gt : (m.tt != N.id) with
  | true => exact step_a X base p z N m w0 w h hO hz hB hb0 hm hS hmn hdn hl gt
  | false =>
    cases g2 : decide (N.term < m.tm) with
    | true =>
      cases k1 : (m.k == 1) with
      | true => exact step_d1 X base p z N m w0 w h hO hz hB hb0 hm hS hmn hdn hl gt g2 k1
      | false =>
        cases k2 : (m.k == 2) with
        | true => exact step_d2 X base p z N m w0 w h hO hz hB hb0 hm hS hmn hdn hl gt g2 k1 k2
        | false =>
          cases k3 : (m.k == 3) with
          | true => exact step_d3 X base p z N m w0 w h hO hz hB hb0 hm hS hmn hdn hl gt g2 k1 k2 k3
          | false =>
            cases k4 : (m.k == 4) with
            | true => exact step_d4 X base p z N m w0 w h hO hz hB hb0 hm hS hmn hdn hl gt g2 k1 k2 k3 k4
            | false =>
              cases k5 : (m.k == 5) with
              | true => exact step_d5 X base p z N m w0 w h hO hz hB hb0 hm hS hmn hdn hl gt g2 k1 k2 k3 k4 k5
              | false =>
                exact step_do X base p z N m w0 w h hO hz hB hb0 hm hS hmn hdn hl gt g2 k1 k2 k3 k4 k5
    | false =>
      cases g5 : decide (m.tm < N.term) with
      | true => exact step_b X base p z N m w0 w h hO hz hB hb0 hm hS hmn hdn hl gt g2 g5
      | false =>
        cases k1 : (m.k == 1) with
        | true => exact step_c1 X base p z N m w0 w h hO hz hB hb0 hm hS hmn hdn hl gt g2 g5 k1
        | false =>
          cases k2 : (m.k == 2) with
          | true => exact step_c2 X base p z N m w0 w h hO hz hB hb0 hm hS hmn hdn hl gt g2 g5 k1 k2
          | false =>
            cases k3 : (m.k == 3) with
            | true => exact step_c3 X base p z N m w0 w h hO hz hB hb0 hm hS hmn hdn hl gt g2 g5 k1 k2 k3
            | false =>
              cases k4 : (m.k == 4) with
              | true => exact step_c4 X base p z N m w0 w h hO hz hB hb0 hm hS hmn hdn hl gt g2 g5 k1 k2 k3 k4
              | false =>
                cases k5 : (m.k == 5) with
                | true => exact step_c5 X base p z N m w0 w h hO hz hB hb0 hm hS hmn hdn hl gt g2 g5 k1 k2 k3 k4 k5
                | false =>
                  exact step_co X base p z N m w0 w h hO hz hB hb0 hm hS hmn hdn hl gt g2 g5 k1 k2 k3 k4 k5

end Go.Proofs.YtodmieehdleohaaGreat
