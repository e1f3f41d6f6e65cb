/- A message comes: askedSnap. -/
import Derived.Test.YtodmieehdleohaaGreatRta
import Derived.Test.YtodmieehdleohaaGreatSt5
namespace Go.Proofs.YtodmieehdleohaaGreat
open Go.RowKit NumMath
set_option linter.unusedVariables false
set_option maxRecDepth 100000

set_option maxHeartbeats 4000000 in
theorem askedSnap_a (X : Nat → Prop) (base p z : Nat) (N : Nd) (m : MMsg) (w0 w : World) (h : IsNd X w base p z N) (hO : N.Ok z) (hz : z ≤ 9000) (hB : w0.heap.size ≤ base) (hb0 : Below w0.heap.size w0 w) (hm : m.ok w0) (hmn : m.mn ≤ 9) (hdn : m.sn ≤ 5000) (hl : N.L.s.i ≤ N.commit) (h5 : 4611686018427387904 < m.si) (h6 : 4611686018427387904 ≤ N.commit) :
    Calls Tryz.prog 65 #[.pointer (some ⟨p, 0, none⟩), .agg #[.int .i64 m.k, .int .u64 m.fr, .int .u64 m.tt, .int .u64 m.tm, .int .u64 m.ix, .int .u64 m.lt, .int .u64 m.cm, .int .u64 m.hn, .bool m.rj, .slice m.ea m.en m.ec, .int .u64 m.si, .int .u64 m.st, .slice m.ma m.mn m.mc, .slice m.sa m.sn m.sc]] w fun e w' => e = .returned (.tuple #[]) ∧ NPost X w base p (z + 1) (Fwd z N) w' := by
  have HO := hide hO
  have hpl := h.at.2
  have hne : ¬ w.heap.size = p := by omega
  have hne2 : ¬ p = w.heap.size := by omega
  have HXB : Hid (¬ X w.heap.size) := fun hx => by have := (h.rng _ hx).2; omega
  have HBx := hide (box14_new w m w.heap.size 49 rfl)
  have hb0w := new_below w (.cells #[.int .i64 m.k, .int .u64 m.fr, .int .u64 m.tt, .int .u64 m.tm, .int .u64 m.ix, .int .u64 m.lt, .int .u64 m.cm, .int .u64 m.hn, .bool m.rj, .slice m.ea m.en m.ec, .int .u64 m.si, .int .u64 m.st, .slice m.ma m.mn m.mc, .slice m.sa m.sn m.sc] 49)
  have HBW := hide hb0w
  have HHe := hide (heed_any X base p z N m.fr _ (h.keep hb0w) hO)
  have HN := hide h
  have HFr := hide hm.fr
  have HSn := hide hm.sn
  have HFin0 : Hid (Fwd z N N) := Fwd.refl hO
  have HB0w := hide hb0
  have HL := hide hl
  have hcU := hO.commit
  clear h hO hm hb0w hb0 hl
  go_enter Tryz.func65, Tryz.ntmps65
  go_wp2_with (first
    | (go_at_call 111; go_must (refine HHe.out.mono ?_); rintro e w2 (⟨rfl, hw⟩ | ⟨rfl, t2, ht2, hN2, hK2⟩) <;> first | (have hw := hw.symm; subst hw) | (have HK2 := hide ((Below.keeps HBW.out X).then (fun _ h => .inl h) hK2); have HOk2 := hide (ok_fol HO.out HFr.out ht2); have HFw2 : Hid (Fwd z N (N.fol m.fr t2)) := ⟨fw_fol _ _ _, ok_fol HO.out HFr.out ht2⟩; have HBx2 := hide (HBx.out.lies hK2 HXB.out); have HN2 := hide (hN2); have c72 : w2.cell? ⟨p, 7, none⟩ = some (.int .u64 N.commit) := HN2.out.c.2.2.2.2.2.2.1; obtain ⟨-, b12, -⟩ := HBx2.out.c; obtain ⟨b102, b112, b122, b132⟩ := HBx2.out.s; clear ht2 hN2 hK2)))
  · refine bodyPost_ret (results_none rfl _ _ _) rfl ?_
    exact ⟨rfl, NPost.behind (NPost.of (HN.out.mono (by omega)) HFin0.out (Keeps.self _ _)) HBW.out⟩
  have hp2 : p < w2.heap.size := HN2.out.at.2
  have hB2 : w.heap.size < w2.heap.size := HBx2.out.2
  have g6 : decide ((4611686018427387904 : Int) ≤ N.commit) = true := decide_eq_true h6
  go_wp2_with fail
  go_region
  all_goals
    go_wp2_with fail
    go_region_with (first
      | (go_at_call 113; go_must (refine (tellM_any X base p z (N.fol m.fr t2) _ _ _ (HN2.out.keep (by repeat (first | exact Below.refl _ _ | refine bel_alloc ?_ _ | refine Below.drew ?_))) (by omega)).mono ?_); rintro e w7 ⟨rfl, hp7⟩; have HP7 := hide (NPost.then HK2.out (fun _ h => .inl h) (NPost.ahead (w := w2) (w1 := _) (by repeat (first | exact Below.refl _ _ | refine bel_alloc ?_ _ | refine Below.drew ?_)) (hp7.imp (Nat.le_refl _) (R' := Fwd z N) (fun N' e => by rw [e]; exact HFw2.out)))); clear hp7))
  all_goals
    go_wp2
    go_end0
    exact ⟨rfl, HP7.out⟩

set_option maxHeartbeats 4000000 in
theorem askedSnap_b (X : Nat → Prop) (base p z : Nat) (N : Nd) (m : MMsg) (w0 w : World) (h : IsNd X w base p z N) (hO : N.Ok z) (hz : z ≤ 9000) (hB : w0.heap.size ≤ base) (hb0 : Below w0.heap.size w0 w) (hm : m.ok w0) (hmn : m.mn ≤ 9) (hdn : m.sn ≤ 5000) (hl : N.L.s.i ≤ N.commit) (h5 : ¬ 4611686018427387904 < m.si) (h6 : m.si ≤ N.commit) :
    Calls Tryz.prog 65 #[.pointer (some ⟨p, 0, none⟩), .agg #[.int .i64 m.k, .int .u64 m.fr, .int .u64 m.tt, .int .u64 m.tm, .int .u64 m.ix, .int .u64 m.lt, .int .u64 m.cm, .int .u64 m.hn, .bool m.rj, .slice m.ea m.en m.ec, .int .u64 m.si, .int .u64 m.st, .slice m.ma m.mn m.mc, .slice m.sa m.sn m.sc]] w fun e w' => e = .returned (.tuple #[]) ∧ NPost X w base p (z + 1) (Fwd z N) w' := by
  have HO := hide hO
  have hpl := h.at.2
  have hne : ¬ w.heap.size = p := by omega
  have hne2 : ¬ p = w.heap.size := by omega
  have HXB : Hid (¬ X w.heap.size) := fun hx => by have := (h.rng _ hx).2; omega
  have HBx := hide (box14_new w m w.heap.size 49 rfl)
  have hb0w := new_below w (.cells #[.int .i64 m.k, .int .u64 m.fr, .int .u64 m.tt, .int .u64 m.tm, .int .u64 m.ix, .int .u64 m.lt, .int .u64 m.cm, .int .u64 m.hn, .bool m.rj, .slice m.ea m.en m.ec, .int .u64 m.si, .int .u64 m.st, .slice m.ma m.mn m.mc, .slice m.sa m.sn m.sc] 49)
  have HBW := hide hb0w
  have HHe := hide (heed_any X base p z N m.fr _ (h.keep hb0w) hO)
  have HN := hide h
  have HFr := hide hm.fr
  have HSn := hide hm.sn
  have HFin0 : Hid (Fwd z N N) := Fwd.refl hO
  have HB0w := hide hb0
  have HL := hide hl
  have hcU := hO.commit
  clear h hO hm hb0w hb0 hl
  go_enter Tryz.func65, Tryz.ntmps65
  go_wp2_with (first
    | (go_at_call 111; go_must (refine HHe.out.mono ?_); rintro e w2 (⟨rfl, hw⟩ | ⟨rfl, t2, ht2, hN2, hK2⟩) <;> first | (have hw := hw.symm; subst hw) | (have HK2 := hide ((Below.keeps HBW.out X).then (fun _ h => .inl h) hK2); have HOk2 := hide (ok_fol HO.out HFr.out ht2); have HFw2 : Hid (Fwd z N (N.fol m.fr t2)) := ⟨fw_fol _ _ _, ok_fol HO.out HFr.out ht2⟩; have HBx2 := hide (HBx.out.lies hK2 HXB.out); have HN2 := hide (hN2); have c72 : w2.cell? ⟨p, 7, none⟩ = some (.int .u64 N.commit) := HN2.out.c.2.2.2.2.2.2.1; obtain ⟨-, b12, -⟩ := HBx2.out.c; obtain ⟨b102, b112, b122, b132⟩ := HBx2.out.s; clear ht2 hN2 hK2)))
  · refine bodyPost_ret (results_none rfl _ _ _) rfl ?_
    exact ⟨rfl, NPost.behind (NPost.of (HN.out.mono (by omega)) HFin0.out (Keeps.self _ _)) HBW.out⟩
  have hp2 : p < w2.heap.size := HN2.out.at.2
  have hB2 : w.heap.size < w2.heap.size := HBx2.out.2
  have g6 : decide ((m.si : Int) ≤ N.commit) = true := decide_eq_true h6
  have hmin : (if (4611686018427387904 : Int) < m.si then (4611686018427387904 : Int) else m.si) = m.si := if_neg (by omega)
  go_wp2_with fail
  go_region
  all_goals
    go_wp2_with fail
    go_region_with (first
      | (go_at_call 113; go_must (refine (tellM_any X base p z (N.fol m.fr t2) _ _ _ (HN2.out.keep (by repeat (first | exact Below.refl _ _ | refine bel_alloc ?_ _ | refine Below.drew ?_))) (by omega)).mono ?_); rintro e w7 ⟨rfl, hp7⟩; have HP7 := hide (NPost.then HK2.out (fun _ h => .inl h) (NPost.ahead (w := w2) (w1 := _) (by repeat (first | exact Below.refl _ _ | refine bel_alloc ?_ _ | refine Below.drew ?_)) (hp7.imp (Nat.le_refl _) (R' := Fwd z N) (fun N' e => by rw [e]; exact HFw2.out)))); clear hp7))
  all_goals
    go_wp2
    go_end0
    exact ⟨rfl, HP7.out⟩

set_option maxHeartbeats 4000000 in
theorem askedSnap_c (X : Nat → Prop) (base p z : Nat) (N : Nd) (m : MMsg) (w0 w : World) (h : IsNd X w base p z N) (hO : N.Ok z) (hz : z ≤ 9000) (hB : w0.heap.size ≤ base) (hb0 : Below w0.heap.size w0 w) (hm : m.ok w0) (hmn : m.mn ≤ 9) (hdn : m.sn ≤ 5000) (hl : N.L.s.i ≤ N.commit) (h5 : 4611686018427387904 < m.si) (h6 : N.commit < 4611686018427387904) :
    Calls Tryz.prog 65 #[.pointer (some ⟨p, 0, none⟩), .agg #[.int .i64 m.k, .int .u64 m.fr, .int .u64 m.tt, .int .u64 m.tm, .int .u64 m.ix, .int .u64 m.lt, .int .u64 m.cm, .int .u64 m.hn, .bool m.rj, .slice m.ea m.en m.ec, .int .u64 m.si, .int .u64 m.st, .slice m.ma m.mn m.mc, .slice m.sa m.sn m.sc]] w fun e w' => e = .returned (.tuple #[]) ∧ NPost X w base p (z + 1) (Fwd z N) w' := by
  have HO := hide hO
  have hpl := h.at.2
  have hne : ¬ w.heap.size = p := by omega
  have hne2 : ¬ p = w.heap.size := by omega
  have HXB : Hid (¬ X w.heap.size) := fun hx => by have := (h.rng _ hx).2; omega
  have HBx := hide (box14_new w m w.heap.size 49 rfl)
  have hb0w := new_below w (.cells #[.int .i64 m.k, .int .u64 m.fr, .int .u64 m.tt, .int .u64 m.tm, .int .u64 m.ix, .int .u64 m.lt, .int .u64 m.cm, .int .u64 m.hn, .bool m.rj, .slice m.ea m.en m.ec, .int .u64 m.si, .int .u64 m.st, .slice m.ma m.mn m.mc, .slice m.sa m.sn m.sc] 49)
  have HBW := hide hb0w
  have HHe := hide (heed_any X base p z N m.fr _ (h.keep hb0w) hO)
  have HN := hide h
  have HFr := hide hm.fr
  have HSn := hide hm.sn
  have HFin0 : Hid (Fwd z N N) := Fwd.refl hO
  have HB0w := hide hb0
  have HL := hide hl
  have hcU := hO.commit
  clear h hO hm hb0w hb0 hl
  go_enter Tryz.func65, Tryz.ntmps65
  go_wp2_with (first
    | (go_at_call 111; go_must (refine HHe.out.mono ?_); rintro e w2 (⟨rfl, hw⟩ | ⟨rfl, t2, ht2, hN2, hK2⟩) <;> first | (have hw := hw.symm; subst hw) | (have HK2 := hide ((Below.keeps HBW.out X).then (fun _ h => .inl h) hK2); have HOk2 := hide (ok_fol HO.out HFr.out ht2); have HFw2 : Hid (Fwd z N (N.fol m.fr t2)) := ⟨fw_fol _ _ _, ok_fol HO.out HFr.out ht2⟩; have HBx2 := hide (HBx.out.lies hK2 HXB.out); have HN2 := hide (hN2); have c72 : w2.cell? ⟨p, 7, none⟩ = some (.int .u64 N.commit) := HN2.out.c.2.2.2.2.2.2.1; obtain ⟨-, b12, -⟩ := HBx2.out.c; obtain ⟨b102, b112, b122, b132⟩ := HBx2.out.s; clear ht2 hN2 hK2)))
  · refine bodyPost_ret (results_none rfl _ _ _) rfl ?_
    exact ⟨rfl, NPost.behind (NPost.of (HN.out.mono (by omega)) HFin0.out (Keeps.self _ _)) HBW.out⟩
  have hp2 : p < w2.heap.size := HN2.out.at.2
  have hB2 : w.heap.size < w2.heap.size := HBx2.out.2
  have g6 : decide ((4611686018427387904 : Int) ≤ N.commit) = false := decide_eq_false (by omega)
  have hcap : N.commit < capI m.si := by unfold capI; rw [if_pos h5]; exact h6
  have HRs := hide (fun W (hW : Below w2.heap.size w2 W) => restore_any X base p z (N.fol m.fr t2) m.si m.st m.ma m.mn m.mc m.mm m.sa m.sn m.sc m.sd w0 W (HN2.out.keep hW) HOk2.out hz hB (HB0w.out.trans ((HK2.out.below (B := w0.heap.size) HB0w.out.size (fun k hk => Nat.le_trans hB (HN.out.rng k hk).1)).trans (hW.mono (Nat.le_trans HB0w.out.size HK2.out.size)))) HSn.out hmn hdn hcap HL.out)
  go_wp2_with fail
  go_region_with (first
    | (go_at_call 118; go_must (refine (HRs.out _ (by repeat (first | exact Below.refl _ _ | refine bel_alloc ?_ _ | refine Below.drew ?_))).mono ?_); rintro e w5 ⟨br, rfl, hp5⟩; obtain ⟨X5, M5, hN5, hF5, hK5, hX5⟩ := NPost.ahead (w := w2) (w1 := _) (by repeat (first | exact Below.refl _ _ | refine bel_alloc ?_ _ | refine Below.drew ?_)) hp5; have HN5 := hide hN5; have HFw5 : Hid (Fwd z N M5) := ⟨(fw_fol N m.fr t2).trans hF5.1, hF5.2⟩; have HK5 := hide hK5; have HX5 := hide hX5; have c75 : w5.cell? ⟨p, 7, none⟩ = some (.int .u64 M5.commit) := hN5.c.2.2.2.2.2.2.1; obtain ⟨-, b15, -⟩ := (HBx2.out.lies hK5 HXB.out).c; have hp5' : p < w5.heap.size := hN5.at.2; have hB5 : w.heap.size < w5.heap.size := Nat.lt_of_lt_of_le hB2 hK5.size; clear hp5 hN5 hF5 hK5 hX5))
  all_goals
    cases br with
    | false =>
      go_wp2
      go_end0
      exact ⟨rfl, NPost.then HK2.out (fun _ h => .inl h) (NPost.behind ⟨X5, M5, HN5.out.mono (by omega), HFw5.out, HK5.out, HX5.out⟩ (by repeat (first | exact Below.refl _ _ | refine bel_alloc ?_ _ | refine Below.drew ?_)))⟩
    | true =>
      go_wp2_with fail
      go_region_with (first
        | (go_at_call 113; go_must (refine (tellM_any X5 base p z M5 _ _ _ (HN5.out.keep (by repeat (first | exact Below.refl _ _ | refine bel_alloc ?_ _ | refine Below.drew ?_))) (by omega)).mono ?_); rintro e w7 ⟨rfl, hp7⟩; have HP7 := hide (NPost.then HK2.out (fun _ h => .inl h) (NPost.then HK5.out HX5.out (NPost.ahead (w := w5) (w1 := _) (by repeat (first | exact Below.refl _ _ | refine bel_alloc ?_ _ | refine Below.drew ?_)) (hp7.imp (Nat.le_refl _) (R' := Fwd z N) (fun N' e => by rw [e]; exact HFw5.out))))); clear hp7))
      all_goals
        go_wp2
        go_end0
        exact ⟨rfl, HP7.out⟩

set_option maxHeartbeats 4000000 in
theorem askedSnap_d (X : Nat → Prop) (base p z : Nat) (N : Nd) (m : MMsg) (w0 w : World) (h : IsNd X w base p z N) (hO : N.Ok z) (hz : z ≤ 9000) (hB : w0.heap.size ≤ base) (hb0 : Below w0.heap.size w0 w) (hm : m.ok w0) (hmn : m.mn ≤ 9) (hdn : m.sn ≤ 5000) (hl : N.L.s.i ≤ N.commit) (h5 : ¬ 4611686018427387904 < m.si) (h6 : N.commit < m.si) :
    Calls Tryz.prog 65 #[.pointer (some ⟨p, 0, none⟩), .agg #[.int .i64 m.k, .int .u64 m.fr, .int .u64 m.tt, .int .u64 m.tm, .int .u64 m.ix, .int .u64 m.lt, .int .u64 m.cm, .int .u64 m.hn, .bool m.rj, .slice m.ea m.en m.ec, .int .u64 m.si, .int .u64 m.st, .slice m.ma m.mn m.mc, .slice m.sa m.sn m.sc]] w fun e w' => e = .returned (.tuple #[]) ∧ NPost X w base p (z + 1) (Fwd z N) w' := by
  have HO := hide hO
  have hpl := h.at.2
  have hne : ¬ w.heap.size = p := by omega
  have hne2 : ¬ p = w.heap.size := by omega
  have HXB : Hid (¬ X w.heap.size) := fun hx => by have := (h.rng _ hx).2; omega
  have HBx := hide (box14_new w m w.heap.size 49 rfl)
  have hb0w := new_below w (.cells #[.int .i64 m.k, .int .u64 m.fr, .int .u64 m.tt, .int .u64 m.tm, .int .u64 m.ix, .int .u64 m.lt, .int .u64 m.cm, .int .u64 m.hn, .bool m.rj, .slice m.ea m.en m.ec, .int .u64 m.si, .int .u64 m.st, .slice m.ma m.mn m.mc, .slice m.sa m.sn m.sc] 49)
  have HBW := hide hb0w
  have HHe := hide (heed_any X base p z N m.fr _ (h.keep hb0w) hO)
  have HN := hide h
  have HFr := hide hm.fr
  have HSn := hide hm.sn
  have HFin0 : Hid (Fwd z N N) := Fwd.refl hO
  have HB0w := hide hb0
  have HL := hide hl
  have hcU := hO.commit
  clear h hO hm hb0w hb0 hl
  go_enter Tryz.func65, Tryz.ntmps65
  go_wp2_with (first
    | (go_at_call 111; go_must (refine HHe.out.mono ?_); rintro e w2 (⟨rfl, hw⟩ | ⟨rfl, t2, ht2, hN2, hK2⟩) <;> first | (have hw := hw.symm; subst hw) | (have HK2 := hide ((Below.keeps HBW.out X).then (fun _ h => .inl h) hK2); have HOk2 := hide (ok_fol HO.out HFr.out ht2); have HFw2 : Hid (Fwd z N (N.fol m.fr t2)) := ⟨fw_fol _ _ _, ok_fol HO.out HFr.out ht2⟩; have HBx2 := hide (HBx.out.lies hK2 HXB.out); have HN2 := hide (hN2); have c72 : w2.cell? ⟨p, 7, none⟩ = some (.int .u64 N.commit) := HN2.out.c.2.2.2.2.2.2.1; obtain ⟨-, b12, -⟩ := HBx2.out.c; obtain ⟨b102, b112, b122, b132⟩ := HBx2.out.s; clear ht2 hN2 hK2)))
  · refine bodyPost_ret (results_none rfl _ _ _) rfl ?_
    exact ⟨rfl, NPost.behind (NPost.of (HN.out.mono (by omega)) HFin0.out (Keeps.self _ _)) HBW.out⟩
  have hp2 : p < w2.heap.size := HN2.out.at.2
  have hB2 : w.heap.size < w2.heap.size := HBx2.out.2
  have g6 : decide ((m.si : Int) ≤ N.commit) = false := decide_eq_false (by omega)
  have hmin : (if (4611686018427387904 : Int) < m.si then (4611686018427387904 : Int) else m.si) = m.si := if_neg (by omega)
  have hcap : N.commit < capI m.si := by unfold capI; rw [if_neg (by omega)]; exact h6
  have HRs := hide (fun W (hW : Below w2.heap.size w2 W) => restore_any X base p z (N.fol m.fr t2) m.si m.st m.ma m.mn m.mc m.mm m.sa m.sn m.sc m.sd w0 W (HN2.out.keep hW) HOk2.out hz hB (HB0w.out.trans ((HK2.out.below (B := w0.heap.size) HB0w.out.size (fun k hk => Nat.le_trans hB (HN.out.rng k hk).1)).trans (hW.mono (Nat.le_trans HB0w.out.size HK2.out.size)))) HSn.out hmn hdn hcap HL.out)
  go_wp2_with fail
  go_region_with (first
    | (go_at_call 118; go_must (refine (HRs.out _ (by repeat (first | exact Below.refl _ _ | refine bel_alloc ?_ _ | refine Below.drew ?_))).mono ?_); rintro e w5 ⟨br, rfl, hp5⟩; obtain ⟨X5, M5, hN5, hF5, hK5, hX5⟩ := NPost.ahead (w := w2) (w1 := _) (by repeat (first | exact Below.refl _ _ | refine bel_alloc ?_ _ | refine Below.drew ?_)) hp5; have HN5 := hide hN5; have HFw5 : Hid (Fwd z N M5) := ⟨(fw_fol N m.fr t2).trans hF5.1, hF5.2⟩; have HK5 := hide hK5; have HX5 := hide hX5; have c75 : w5.cell? ⟨p, 7, none⟩ = some (.int .u64 M5.commit) := hN5.c.2.2.2.2.2.2.1; obtain ⟨-, b15, -⟩ := (HBx2.out.lies hK5 HXB.out).c; have hp5' : p < w5.heap.size := hN5.at.2; have hB5 : w.heap.size < w5.heap.size := Nat.lt_of_lt_of_le hB2 hK5.size; clear hp5 hN5 hF5 hK5 hX5))
  all_goals
    cases br with
    | false =>
      go_wp2
      go_end0
      exact ⟨rfl, NPost.then HK2.out (fun _ h => .inl h) (NPost.behind ⟨X5, M5, HN5.out.mono (by omega), HFw5.out, HK5.out, HX5.out⟩ (by repeat (first | exact Below.refl _ _ | refine bel_alloc ?_ _ | refine Below.drew ?_)))⟩
    | true =>
      go_wp2_with fail
      go_region_with (first
        | (go_at_call 113; go_must (refine (tellM_any X5 base p z M5 _ _ _ (HN5.out.keep (by repeat (first | exact Below.refl _ _ | refine bel_alloc ?_ _ | refine Below.drew ?_))) (by omega)).mono ?_); rintro e w7 ⟨rfl, hp7⟩; have HP7 := hide (NPost.then HK2.out (fun _ h => .inl h) (NPost.then HK5.out HX5.out (NPost.ahead (w := w5) (w1 := _) (by repeat (first | exact Below.refl _ _ | refine bel_alloc ?_ _ | refine Below.drew ?_)) (hp7.imp (Nat.le_refl _) (R' := Fwd z N) (fun N' e => by rw [e]; exact HFw5.out))))); clear hp7))
      all_goals
        go_wp2
        go_end0
        exact ⟨rfl, HP7.out⟩

theorem askedSnap_any (X : Nat → Prop) (base p z : Nat) (N : Nd) (m : MMsg) (w0 w : World) (h : IsNd X w base p z N) (hO : N.Ok z) (hz : z ≤ 9000) (hB : w0.heap.size ≤ base) (hb0 : Below w0.heap.size w0 w) (hm : m.ok w0) (hmn : m.mn ≤ 9) (hdn : m.sn ≤ 5000) (hl : N.L.s.i ≤ N.commit) :
    Calls Tryz.prog 65 #[.pointer (some ⟨p, 0, none⟩), .agg #[.int .i64 m.k, .int .u64 m.fr, .int .u64 m.tt, .int .u64 m.tm, .int .u64 m.ix, .int .u64 m.lt, .int .u64 m.cm, .int .u64 m.hn, .bool m.rj, .slice m.ea m.en m.ec, .int .u64 m.si, .int .u64 m.st, .slice m.ma m.mn m.mc, .slice m.sa m.sn m.sc]] w fun e w' => e = .returned (.tuple #[]) ∧ NPost X w base p (z + 1) (Fwd z N) w' := by
  by_cases h5 : 4611686018427387904 < m.si
  · by_cases h6 : 4611686018427387904 ≤ N.commit
    · exact askedSnap_a X base p z N m w0 w h hO hz hB hb0 hm hmn hdn hl h5 h6
    · exact askedSnap_c X base p z N m w0 w h hO hz hB hb0 hm hmn hdn hl h5 (by omega)
  · by_cases h6 : m.si ≤ N.commit
    · exact askedSnap_b X base p z N m w0 w h hO hz hB hb0 hm hmn hdn hl h5 h6
    · exact askedSnap_d X base p z N m w0 w h hO hz hB hb0 hm hmn hdn hl h5 (by omega)

end Go.Proofs.YtodmieehdleohaaGreat
