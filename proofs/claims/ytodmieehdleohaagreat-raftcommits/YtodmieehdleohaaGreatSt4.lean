/- A message comes: askedAppend. -/
import Derived.Test.YtodmieehdleohaaGreatSt3
namespace Go.Proofs.YtodmieehdleohaaGreat
open Go.RowKit NumMath
set_option linter.unusedVariables false
set_option maxRecDepth 100000

set_option maxHeartbeats 8000000 in
theorem askedApp_a (X : Nat → Prop) (base p z : Nat) (N : Nd) (m : MMsg) (w0 w : World) (h : IsNd X w base p z N) (hO : N.Ok z) (hz : z ≤ 38000) (hB : w0.heap.size ≤ base) (hb0 : Below w0.heap.size w0 w) (hm : m.ok w0) (hS : SmallM m.en m.es) (hA : m.ix < N.L.s.i) :
    Calls Tryz.prog 63 #[.pointer (some ⟨p, 0, none⟩), .agg #[.int .i64 m.k, .int .u64 m.fr, .int .u64 m.tt, .int .u64 m.tm, .int .u64 m.ix, .int .u64 m.lt, .int .u64 m.cm, .int .u64 m.hn, .bool m.rj, .slice m.ea m.en m.ec, .int .u64 m.si, .int .u64 m.st, .slice m.ma m.mn m.mc, .slice m.sa m.sn m.sc]] w fun e w' => e = .returned (.tuple #[]) ∧ NPost X w base p (z + 12) (Fwd (z + 12) N) w' := by
  have HO := hide hO
  have hpl := h.at.2
  have hne : ¬ w.heap.size = p := by omega
  have hne2 : ¬ p = w.heap.size := by omega
  have HXB : Hid (¬ X w.heap.size) := fun hx => by have := (h.rng _ hx).2; omega
  have HBx := hide (box14_new w m w.heap.size 49 rfl)
  have hb0w := new_below w (.cells #[.int .i64 m.k, .int .u64 m.fr, .int .u64 m.tt, .int .u64 m.tm, .int .u64 m.ix, .int .u64 m.lt, .int .u64 m.cm, .int .u64 m.hn, .bool m.rj, .slice m.ea m.en m.ec, .int .u64 m.si, .int .u64 m.st, .slice m.ma m.mn m.mc, .slice m.sa m.sn m.sc] 49)
  have HBW := hide hb0w
  have HHe := hide (heed_any X base p z N m.fr _ (h.keep hb0w) hO)
  have HN := hide h
  have HFr := hide hm.fr
  have HIx := hide hm.ix
  have hG := hO.good
  have HFin0 : Hid (Fwd (z + 12) N N) := Fwd.refl (hO.mono (by omega))
  have HOf : Hid (∀ t, U64 t → Fwd (z + 12) N (N.fol m.fr t)) := fun t ht => ⟨fw_fol _ _ _, (ok_fol hO hm.fr ht).mono (by omega)⟩
  have hw1 : IntKind.u64.wrap (N.L.s.i + 1 - 1) = N.L.s.i := by rw [Int.add_sub_cancel]; exact kwrap_u64 _ hG.i0 (by have := hG.i1; omega)
  have hw2 : IntKind.u64.wrap N.L.s.i = N.L.s.i := kwrap_u64 _ hG.i0 (by have := hG.i1; omega)
  have HCm := hide hm.cm
  have HEs := hide hm.es
  have HS := hide hS
  have HB0w := hide hb0
  clear h hO hm hb0w hS hb0
  go_enter Tryz.func63, Tryz.ntmps63
  go_wp2_with (first
    | (go_at_call 111; go_must (refine HHe.out.mono ?_); rintro e w2 (⟨rfl, hw⟩ | ⟨rfl, t2, ht2, hN2, hK2⟩) <;> first | (have hw := hw.symm; subst hw) | (have HK2 := hide ((Below.keeps HBW.out X).then (fun _ h => .inl h) hK2); have HOk2 := hide (ok_fol HO.out HFr.out ht2); have HFw2 := hide (HOf.out t2 ht2); have HBx2 := hide (HBx.out.lies hK2 HXB.out); have HN2 := hide (hN2); obtain ⟨q2, c32, hL2⟩ := HN2.out.log; have HL2 := hide hL2; have c72 : w2.cell? ⟨p, 7, none⟩ = some (.int .u64 N.commit) := HN2.out.c.2.2.2.2.2.2.1; obtain ⟨-, b12, -, -, b42, b52, b62, -, -, b92⟩ := HBx2.out.c; clear hL2; clear ht2 hN2 hK2)))
  · refine bodyPost_ret (results_none rfl _ _ _) rfl ?_
    exact ⟨rfl, NPost.behind (NPost.of (HN.out.mono (by omega)) HFin0.out (Keeps.self _ _)) HBW.out⟩
  have HT2 := hide (fun W (hW : Below w2.heap.size w2 W) => term_any X base q2 N.L m.ix W (HL2.out.keep hW) hG HIx.out.1)
  generalize termL N.L m.ix = tl at *
  obtain ⟨tt, is⟩ := tl
  dsimp only at *
  go_wp2_with fail
  go_region_with (first
    | (go_at_call 112; go_must (refine (HT2.out _ (by repeat (first | exact Below.refl _ _ | refine bel_alloc ?_ _ | refine Below.drew ?_))).mono ?_); rintro e w3 ⟨rfl, hb3⟩; have HB3 := hide (Below.trans (b := _) (B := w2.heap.size) (a := w2) (by repeat (first | exact Below.refl _ _ | refine bel_alloc ?_ _ | refine Below.drew ?_)) (hb3.mono (by simp))); have HBx3 := hide (HBx2.out.keep HB3.out); have HN3 := hide (HN2.out.keep HB3.out); obtain ⟨q3, c33, hL3⟩ := HN3.out.log; have HL3 := hide hL3; have c73 : w3.cell? ⟨p, 7, none⟩ = some (.int .u64 N.commit) := HN3.out.c.2.2.2.2.2.2.1; obtain ⟨-, b13, -, -, b43, b53, b63, -, -, b93⟩ := HBx3.out.c; clear hL3; clear hb3))
  all_goals
    have HF3 := hide (fun W (hW : Below w3.heap.size w3 W) => nfirst_any X base q3 N.L W (HL3.out.keep hW) hG)
    go_wp2_with fail
    go_region_with (first
      | (go_at_call 33; go_must (refine (HF3.out _ (by repeat (first | exact Below.refl _ _ | refine bel_alloc ?_ _ | refine Below.drew ?_))).mono ?_); rintro e w4a ⟨rfl, hw⟩; have hw := hw.symm; subst hw))
    all_goals
      go_wp2_with fail
      go_region_with (first
        | (go_at_call 113; go_must (refine (tellM_any X base p z (N.fol m.fr t2) _ _ _ (HN3.out.keep (by repeat (first | exact Below.refl _ _ | refine bel_alloc ?_ _ | refine Below.drew ?_))) (by omega)).mono ?_); rintro e w6 ⟨rfl, hp6⟩; have HP6 := hide (NPost.then HK2.out (fun _ h => .inl h) (NPost.ahead HB3.out (NPost.ahead (w := w3) (w1 := _) (by repeat (first | exact Below.refl _ _ | refine bel_alloc ?_ _ | refine Below.drew ?_)) (hp6.imp (z' := z + 12) (by omega) (R' := Fwd (z + 12) N) (fun N' e => by rw [e]; exact HFw2.out))))); clear hp6))
      all_goals
        go_wp2
        go_end0
        exact ⟨rfl, HP6.out⟩

set_option maxHeartbeats 8000000 in
theorem askedApp_b (X : Nat → Prop) (base p z : Nat) (N : Nd) (m : MMsg) (w0 w : World) (h : IsNd X w base p z N) (hO : N.Ok z) (hz : z ≤ 38000) (hB : w0.heap.size ≤ base) (hb0 : Below w0.heap.size w0 w) (hm : m.ok w0) (hS : SmallM m.en m.es) (hA : ¬ m.ix < N.L.s.i) (h2 : (termL N.L m.ix).2 = false) :
    Calls Tryz.prog 63 #[.pointer (some ⟨p, 0, none⟩), .agg #[.int .i64 m.k, .int .u64 m.fr, .int .u64 m.tt, .int .u64 m.tm, .int .u64 m.ix, .int .u64 m.lt, .int .u64 m.cm, .int .u64 m.hn, .bool m.rj, .slice m.ea m.en m.ec, .int .u64 m.si, .int .u64 m.st, .slice m.ma m.mn m.mc, .slice m.sa m.sn m.sc]] w fun e w' => e = .returned (.tuple #[]) ∧ NPost X w base p (z + 12) (Fwd (z + 12) N) w' := by
  have HO := hide hO
  have hpl := h.at.2
  have hne : ¬ w.heap.size = p := by omega
  have hne2 : ¬ p = w.heap.size := by omega
  have HXB : Hid (¬ X w.heap.size) := fun hx => by have := (h.rng _ hx).2; omega
  have HBx := hide (box14_new w m w.heap.size 49 rfl)
  have hb0w := new_below w (.cells #[.int .i64 m.k, .int .u64 m.fr, .int .u64 m.tt, .int .u64 m.tm, .int .u64 m.ix, .int .u64 m.lt, .int .u64 m.cm, .int .u64 m.hn, .bool m.rj, .slice m.ea m.en m.ec, .int .u64 m.si, .int .u64 m.st, .slice m.ma m.mn m.mc, .slice m.sa m.sn m.sc] 49)
  have HBW := hide hb0w
  have HHe := hide (heed_any X base p z N m.fr _ (h.keep hb0w) hO)
  have HN := hide h
  have HFr := hide hm.fr
  have HIx := hide hm.ix
  have hG := hO.good
  have HFin0 : Hid (Fwd (z + 12) N N) := Fwd.refl (hO.mono (by omega))
  have HOf : Hid (∀ t, U64 t → Fwd (z + 12) N (N.fol m.fr t)) := fun t ht => ⟨fw_fol _ _ _, (ok_fol hO hm.fr ht).mono (by omega)⟩
  have hw1 : IntKind.u64.wrap (N.L.s.i + 1 - 1) = N.L.s.i := by rw [Int.add_sub_cancel]; exact kwrap_u64 _ hG.i0 (by have := hG.i1; omega)
  have hw2 : IntKind.u64.wrap N.L.s.i = N.L.s.i := kwrap_u64 _ hG.i0 (by have := hG.i1; omega)
  have HCm := hide hm.cm
  have HEs := hide hm.es
  have HS := hide hS
  have HB0w := hide hb0
  clear h hO hm hb0w hS hb0
  go_enter Tryz.func63, Tryz.ntmps63
  go_wp2_with (first
    | (go_at_call 111; go_must (refine HHe.out.mono ?_); rintro e w2 (⟨rfl, hw⟩ | ⟨rfl, t2, ht2, hN2, hK2⟩) <;> first | (have hw := hw.symm; subst hw) | (have HK2 := hide ((Below.keeps HBW.out X).then (fun _ h => .inl h) hK2); have HOk2 := hide (ok_fol HO.out HFr.out ht2); have HFw2 := hide (HOf.out t2 ht2); have HBx2 := hide (HBx.out.lies hK2 HXB.out); have HN2 := hide (hN2); obtain ⟨q2, c32, hL2⟩ := HN2.out.log; have HL2 := hide hL2; have c72 : w2.cell? ⟨p, 7, none⟩ = some (.int .u64 N.commit) := HN2.out.c.2.2.2.2.2.2.1; obtain ⟨-, b12, -, -, b42, b52, b62, -, -, b92⟩ := HBx2.out.c; clear hL2; clear ht2 hN2 hK2)))
  · refine bodyPost_ret (results_none rfl _ _ _) rfl ?_
    exact ⟨rfl, NPost.behind (NPost.of (HN.out.mono (by omega)) HFin0.out (Keeps.self _ _)) HBW.out⟩
  have HT2 := hide (fun W (hW : Below w2.heap.size w2 W) => term_any X base q2 N.L m.ix W (HL2.out.keep hW) hG HIx.out.1)
  generalize termL N.L m.ix = tl at *
  obtain ⟨tt, is⟩ := tl
  dsimp only at *
  subst h2
  go_wp2_with fail
  go_region_with (first
    | (go_at_call 112; go_must (refine (HT2.out _ (by repeat (first | exact Below.refl _ _ | refine bel_alloc ?_ _ | refine Below.drew ?_))).mono ?_); rintro e w3 ⟨rfl, hb3⟩; have HB3 := hide (Below.trans (b := _) (B := w2.heap.size) (a := w2) (by repeat (first | exact Below.refl _ _ | refine bel_alloc ?_ _ | refine Below.drew ?_)) (hb3.mono (by simp))); have HBx3 := hide (HBx2.out.keep HB3.out); have HN3 := hide (HN2.out.keep HB3.out); obtain ⟨q3, c33, hL3⟩ := HN3.out.log; have HL3 := hide hL3; have c73 : w3.cell? ⟨p, 7, none⟩ = some (.int .u64 N.commit) := HN3.out.c.2.2.2.2.2.2.1; obtain ⟨-, b13, -, -, b43, b53, b63, -, -, b93⟩ := HBx3.out.c; clear hL3; clear hb3))
  all_goals
    have HF3 := hide (fun W (hW : Below w3.heap.size w3 W) => nfirst_any X base q3 N.L W (HL3.out.keep hW) hG)
    go_wp2_with fail
    go_region_with (first
      | (go_at_call 33; go_must (refine (HF3.out _ (by repeat (first | exact Below.refl _ _ | refine bel_alloc ?_ _ | refine Below.drew ?_))).mono ?_); rintro e w4a ⟨rfl, hw⟩; have hw := hw.symm; subst hw))
    all_goals
      have HH3 := hide (fun W (hW : Below w3.heap.size w3 W) => hint_any X base p z (N.fol m.fr t2) m.ix W (HN3.out.keep hW) HOk2.out HIx.out (by omega))
      go_wp2_with fail
      go_region_held3 (fun W => W.cell? ⟨w.heap.size, 1, none⟩ = some (.int .u64 m.fr) ∧ W.cell? ⟨w.heap.size, 4, none⟩ = some (.int .u64 m.ix)) (first | with_reducible exact HKS.out | with_reducible exact HKH.out | go_keep) (first
        | (go_at_call 108; go_must (refine (send_any X base p z (N.fol m.fr t2) 4 0 m.fr 0 m.ix 0 0 u5 true none 0 0 0 0 none 0 0 none 0 0 _ (HN3.out.keep HB5.out) (by omega)).mono ?_); rintro e w6 ⟨rfl, hp6⟩; obtain ⟨X6, hN6, hK6, hX6⟩ := hp6.node; have HKS := hide (And.intro ((HBx5.out.lies hK6 HXB.out).c.2.1) ((HBx5.out.lies hK6 HXB.out).c.2.2.2.2.1)); have HP6 := hide (NPost.then HK2.out (fun _ h => .inl h) (NPost.ahead HB3.out (NPost.ahead HB5.out (hp6.imp (z' := z + 12) (by omega) (R' := Fwd (z + 12) N) (fun N' e => by rw [e]; exact HFw2.out))))); clear hp6 hN6 hK6 hX6)
        | (go_at_call 114; go_must (refine (HH3.out _ (by repeat (first | exact Below.refl _ _ | refine bel_alloc ?_ _ | refine Below.drew ?_))).mono ?_); rintro e w5 ⟨u5, rfl, hu5, hb5⟩; have HB5 := hide (Below.trans (b := _) (B := w3.heap.size) (a := w3) (by repeat (first | exact Below.refl _ _ | refine bel_alloc ?_ _ | refine Below.drew ?_)) (hb5.mono (by simp))); have HBx5 := hide (HBx3.out.keep HB5.out); have HKH := hide (And.intro HBx5.out.c.2.1 HBx5.out.c.2.2.2.2.1); clear hu5 hb5))
      all_goals
        go_wp2
        go_end0
        exact ⟨rfl, HP6.out⟩

set_option maxHeartbeats 8000000 in
theorem askedApp_c (X : Nat → Prop) (base p z : Nat) (N : Nd) (m : MMsg) (w0 w : World) (h : IsNd X w base p z N) (hO : N.Ok z) (hz : z ≤ 38000) (hB : w0.heap.size ≤ base) (hb0 : Below w0.heap.size w0 w) (hm : m.ok w0) (hS : SmallM m.en m.es) (hA : ¬ m.ix < N.L.s.i) (h2 : (termL N.L m.ix).2 = true) (h3 : ¬ (termL N.L m.ix).1 = m.lt) :
    Calls Tryz.prog 63 #[.pointer (some ⟨p, 0, none⟩), .agg #[.int .i64 m.k, .int .u64 m.fr, .int .u64 m.tt, .int .u64 m.tm, .int .u64 m.ix, .int .u64 m.lt, .int .u64 m.cm, .int .u64 m.hn, .bool m.rj, .slice m.ea m.en m.ec, .int .u64 m.si, .int .u64 m.st, .slice m.ma m.mn m.mc, .slice m.sa m.sn m.sc]] w fun e w' => e = .returned (.tuple #[]) ∧ NPost X w base p (z + 12) (Fwd (z + 12) N) w' := by
  have HO := hide hO
  have hpl := h.at.2
  have hne : ¬ w.heap.size = p := by omega
  have hne2 : ¬ p = w.heap.size := by omega
  have HXB : Hid (¬ X w.heap.size) := fun hx => by have := (h.rng _ hx).2; omega
  have HBx := hide (box14_new w m w.heap.size 49 rfl)
  have hb0w := new_below w (.cells #[.int .i64 m.k, .int .u64 m.fr, .int .u64 m.tt, .int .u64 m.tm, .int .u64 m.ix, .int .u64 m.lt, .int .u64 m.cm, .int .u64 m.hn, .bool m.rj, .slice m.ea m.en m.ec, .int .u64 m.si, .int .u64 m.st, .slice m.ma m.mn m.mc, .slice m.sa m.sn m.sc] 49)
  have HBW := hide hb0w
  have HHe := hide (heed_any X base p z N m.fr _ (h.keep hb0w) hO)
  have HN := hide h
  have HFr := hide hm.fr
  have HIx := hide hm.ix
  have hG := hO.good
  have HFin0 : Hid (Fwd (z + 12) N N) := Fwd.refl (hO.mono (by omega))
  have HOf : Hid (∀ t, U64 t → Fwd (z + 12) N (N.fol m.fr t)) := fun t ht => ⟨fw_fol _ _ _, (ok_fol hO hm.fr ht).mono (by omega)⟩
  have hw1 : IntKind.u64.wrap (N.L.s.i + 1 - 1) = N.L.s.i := by rw [Int.add_sub_cancel]; exact kwrap_u64 _ hG.i0 (by have := hG.i1; omega)
  have hw2 : IntKind.u64.wrap N.L.s.i = N.L.s.i := kwrap_u64 _ hG.i0 (by have := hG.i1; omega)
  have HCm := hide hm.cm
  have HEs := hide hm.es
  have HS := hide hS
  have HB0w := hide hb0
  clear h hO hm hb0w hS hb0
  go_enter Tryz.func63, Tryz.ntmps63
  go_wp2_with (first
    | (go_at_call 111; go_must (refine HHe.out.mono ?_); rintro e w2 (⟨rfl, hw⟩ | ⟨rfl, t2, ht2, hN2, hK2⟩) <;> first | (have hw := hw.symm; subst hw) | (have HK2 := hide ((Below.keeps HBW.out X).then (fun _ h => .inl h) hK2); have HOk2 := hide (ok_fol HO.out HFr.out ht2); have HFw2 := hide (HOf.out t2 ht2); have HBx2 := hide (HBx.out.lies hK2 HXB.out); have HN2 := hide (hN2); obtain ⟨q2, c32, hL2⟩ := HN2.out.log; have HL2 := hide hL2; have c72 : w2.cell? ⟨p, 7, none⟩ = some (.int .u64 N.commit) := HN2.out.c.2.2.2.2.2.2.1; obtain ⟨-, b12, -, -, b42, b52, b62, -, -, b92⟩ := HBx2.out.c; clear hL2; clear ht2 hN2 hK2)))
  · refine bodyPost_ret (results_none rfl _ _ _) rfl ?_
    exact ⟨rfl, NPost.behind (NPost.of (HN.out.mono (by omega)) HFin0.out (Keeps.self _ _)) HBW.out⟩
  have HT2 := hide (fun W (hW : Below w2.heap.size w2 W) => term_any X base q2 N.L m.ix W (HL2.out.keep hW) hG HIx.out.1)
  generalize termL N.L m.ix = tl at *
  obtain ⟨tt, is⟩ := tl
  dsimp only at *
  subst h2
  have g3 : (tt != m.lt) = true := by simpa using h3
  have g3b : (tt == m.lt) = false := by simpa using h3
  go_wp2_with fail
  go_region_with (first
    | (go_at_call 112; go_must (refine (HT2.out _ (by repeat (first | exact Below.refl _ _ | refine bel_alloc ?_ _ | refine Below.drew ?_))).mono ?_); rintro e w3 ⟨rfl, hb3⟩; have HB3 := hide (Below.trans (b := _) (B := w2.heap.size) (a := w2) (by repeat (first | exact Below.refl _ _ | refine bel_alloc ?_ _ | refine Below.drew ?_)) (hb3.mono (by simp))); have HBx3 := hide (HBx2.out.keep HB3.out); have HN3 := hide (HN2.out.keep HB3.out); obtain ⟨q3, c33, hL3⟩ := HN3.out.log; have HL3 := hide hL3; have c73 : w3.cell? ⟨p, 7, none⟩ = some (.int .u64 N.commit) := HN3.out.c.2.2.2.2.2.2.1; obtain ⟨-, b13, -, -, b43, b53, b63, -, -, b93⟩ := HBx3.out.c; clear hL3; clear hb3))
  all_goals
    have HF3 := hide (fun W (hW : Below w3.heap.size w3 W) => nfirst_any X base q3 N.L W (HL3.out.keep hW) hG)
    go_wp2_with fail
    go_region_with (first
      | (go_at_call 33; go_must (refine (HF3.out _ (by repeat (first | exact Below.refl _ _ | refine bel_alloc ?_ _ | refine Below.drew ?_))).mono ?_); rintro e w4a ⟨rfl, hw⟩; have hw := hw.symm; subst hw))
    all_goals
      have HH3 := hide (fun W (hW : Below w3.heap.size w3 W) => hint_any X base p z (N.fol m.fr t2) m.ix W (HN3.out.keep hW) HOk2.out HIx.out (by omega))
      go_wp2_with fail
      go_region_held3 (fun W => W.cell? ⟨w.heap.size, 1, none⟩ = some (.int .u64 m.fr) ∧ W.cell? ⟨w.heap.size, 4, none⟩ = some (.int .u64 m.ix)) (first | with_reducible exact HKS.out | with_reducible exact HKH.out | go_keep) (first
        | (go_at_call 108; go_must (refine (send_any X base p z (N.fol m.fr t2) 4 0 m.fr 0 m.ix 0 0 u5 true none 0 0 0 0 none 0 0 none 0 0 _ (HN3.out.keep HB5.out) (by omega)).mono ?_); rintro e w6 ⟨rfl, hp6⟩; obtain ⟨X6, hN6, hK6, hX6⟩ := hp6.node; have HKS := hide (And.intro ((HBx5.out.lies hK6 HXB.out).c.2.1) ((HBx5.out.lies hK6 HXB.out).c.2.2.2.2.1)); have HP6 := hide (NPost.then HK2.out (fun _ h => .inl h) (NPost.ahead HB3.out (NPost.ahead HB5.out (hp6.imp (z' := z + 12) (by omega) (R' := Fwd (z + 12) N) (fun N' e => by rw [e]; exact HFw2.out))))); clear hp6 hN6 hK6 hX6)
        | (go_at_call 114; go_must (refine (HH3.out _ (by repeat (first | exact Below.refl _ _ | refine bel_alloc ?_ _ | refine Below.drew ?_))).mono ?_); rintro e w5 ⟨u5, rfl, hu5, hb5⟩; have HB5 := hide (Below.trans (b := _) (B := w3.heap.size) (a := w3) (by repeat (first | exact Below.refl _ _ | refine bel_alloc ?_ _ | refine Below.drew ?_)) (hb5.mono (by simp))); have HBx5 := hide (HBx3.out.keep HB5.out); have HKH := hide (And.intro HBx5.out.c.2.1 HBx5.out.c.2.2.2.2.1); clear hu5 hb5))
      all_goals
        go_wp2
        go_end0
        exact ⟨rfl, HP6.out⟩

end Go.Proofs.YtodmieehdleohaaGreat
