/- A message comes: askedAppend, whole. -/
import Derived.Test.YtodmieehdleohaaGreatSt4
namespace Go.Proofs.YtodmieehdleohaaGreat
open Go.RowKit NumMath
set_option linter.unusedVariables false
set_option maxRecDepth 100000

/-- what is committed moves on -/
def Nd.cmt (N : Nd) (c : Int) : Nd := { N with commit := c }

theorem fwd_cmt {z : Nat} {N M : Nd} {c : Int} (h : Fwd z N M) (hc : M.commit ≤ c) (hu : U64 c) : Fwd z N (M.cmt c) :=
  ⟨h.1.trans (Fw.same rfl rfl rfl hc rfl), ⟨h.2.good, h.2.n, h.2.m9, h.2.i62, h.2.d, h.2.r1, h.2.r2, h.2.id, h.2.term, h.2.vote, h.2.leader, h.2.ticks, hu, h.2.given⟩⟩

set_option maxHeartbeats 8000000 in
theorem askedApp_d (X : Nat → Prop) (base p z : Nat) (N : Nd) (m : MMsg) (w0 w : World) (h : IsNd X w base p z N) (hO : N.Ok z) (hz : z ≤ 38000) (hB : w0.heap.size ≤ base) (hb0 : Below w0.heap.size w0 w) (hm : m.ok w0) (hS : SmallM m.en m.es) (hA : ¬ m.ix < N.L.s.i) (h2 : (termL N.L m.ix).2 = true) (h3 : (termL N.L m.ix).1 = m.lt) :
    Calls Tryz.prog 63 #[.pointer (some ⟨p, 0, none⟩), .agg #[.int .i64 m.k, .int .u64 m.fr, .int .u64 m.tt, .int .u64 m.tm, .int .u64 m.ix, .int .u64 m.lt, .int .u64 m.cm, .int .u64 m.hn, .bool m.rj, .slice m.ea m.en m.ec, .int .u64 m.si, .int .u64 m.st, .slice m.ma m.mn m.mc, .slice m.sa m.sn m.sc]] w fun e w' => e = .returned (.tuple #[]) ∧ NPost X w base p (z + 13) (Fwd (z + 12) N) w' := by
  have HO := hide hO
  have hpl := h.at.2
  have hne : ¬ w.heap.size = p := by omega
  have hne2 : ¬ p = w.heap.size := by omega
  have HXB : Hid (¬ X w.heap.size) := fun hx => by have := (h.rng _ hx).2; omega
  have HBx := hide (box14_new w m w.heap.size 49 rfl)
  have hb0w := new_below w (.cells #[.int .i64 m.k, .int .u64 m.fr, .int .u64 m.tt, .int .u64 m.tm, .int .u64 m.ix, .int .u64 m.lt, .int .u64 m.cm, .int .u64 m.hn, .bool m.rj, .slice m.ea m.en m.ec, .int .u64 m.si, .int .u64 m.st, .slice m.ma m.mn m.mc, .slice m.sa m.sn m.sc] 49)
  have HBW := hide hb0w
  have HHe := hide (heed_any X base p z N m.fr _ (h.keep hb0w) hO)
  have HN := hide h
  have HFr := hide hm.fr
  have HIx := hide hm.ix
  have hG := hO.good
  have HFin0 : Hid (Fwd (z + 12) N N) := Fwd.refl (hO.mono (by omega))
  have HOf : Hid (∀ t, U64 t → Fwd (z + 12) N (N.fol m.fr t)) := fun t ht => ⟨fw_fol _ _ _, (ok_fol hO hm.fr ht).mono (by omega)⟩
  have hw1 : IntKind.u64.wrap (N.L.s.i + 1 - 1) = N.L.s.i := by rw [Int.add_sub_cancel]; exact kwrap_u64 _ hG.i0 (by have := hG.i1; omega)
  have hw2 : IntKind.u64.wrap N.L.s.i = N.L.s.i := kwrap_u64 _ hG.i0 (by have := hG.i1; omega)
  have HCm := hide hm.cm
  have HEs := hide hm.es
  have HS := hide hS
  have HB0w := hide hb0
  clear h hO hm hb0w hS hb0
  go_enter Tryz.func63, Tryz.ntmps63
  go_wp2_with (first
    | (go_at_call 111; go_must (refine HHe.out.mono ?_); rintro e w2 (⟨rfl, hw⟩ | ⟨rfl, t2, ht2, hN2, hK2⟩) <;> first | (have hw := hw.symm; subst hw) | (have HK2 := hide ((Below.keeps HBW.out X).then (fun _ h => .inl h) hK2); have HOk2 := hide (ok_fol HO.out HFr.out ht2); have HFw2 := hide (HOf.out t2 ht2); have HBx2 := hide (HBx.out.lies hK2 HXB.out); have HN2 := hide (hN2); obtain ⟨q2, c32, hL2⟩ := HN2.out.log; have HL2 := hide hL2; have c72 : w2.cell? ⟨p, 7, none⟩ = some (.int .u64 N.commit) := HN2.out.c.2.2.2.2.2.2.1; obtain ⟨-, b12, -, -, b42, b52, b62, -, -, b92⟩ := HBx2.out.c; clear hL2; clear ht2 hN2 hK2)))
  · refine bodyPost_ret (results_none rfl _ _ _) rfl ?_
    exact ⟨rfl, NPost.behind (NPost.of (HN.out.mono (by omega)) HFin0.out (Keeps.self _ _)) HBW.out⟩
  have HT2 := hide (fun W (hW : Below w2.heap.size w2 W) => term_any X base q2 N.L m.ix W (HL2.out.keep hW) hG HIx.out.1)
  generalize termL N.L m.ix = tl at *
  obtain ⟨tt, is⟩ := tl
  dsimp only at *
  subst h2
  have g3 : (tt != m.lt) = false := by simpa using h3
  have g3b : (tt == m.lt) = true := by simpa using h3
  have hen : m.en ≤ 12 := HS.out.1
  have hwl : IntKind.u64.wrap (m.en : Int) = (m.en : Int) := kwrap_u64 _ (by omega) (by omega)
  obtain ⟨ls, hls⟩ : ∃ v, IntKind.u64.wrap (m.ix + (m.en : Int)) = v := ⟨_, rfl⟩
  have HlsU : Hid (U64 ls) := by show U64 ls; rw [← hls]; simp [IntKind.wrap, IntKind.bits, IntKind.signed]; omega
  have hp2 : p < w2.heap.size := HN2.out.at.2
  have hB2 : w.heap.size < w2.heap.size := HBx2.out.2
  go_wp2_with fail
  go_region_held3 (fun W => W.cell? ⟨p, 3, none⟩ = some (.pointer (some ⟨q2, 0, none⟩)) ∧ W.cell? ⟨w.heap.size, 4, none⟩ = some (.int .u64 m.ix)) (first | with_reducible exact HKT.out | go_keep) (first
    | (go_at_call 112; go_must (refine (HT2.out _ (by repeat (first | exact Below.refl _ _ | refine bel_alloc ?_ _ | refine Below.drew ?_))).mono ?_); rintro e w3 ⟨rfl, hb3⟩; have HB3 := hide (Below.trans (b := _) (B := w2.heap.size) (a := w2) (by repeat (first | exact Below.refl _ _ | refine bel_alloc ?_ _ | refine Below.drew ?_)) (hb3.mono (by simp))); have HBx3 := hide (HBx2.out.keep HB3.out); have HN3 := hide (HN2.out.keep HB3.out); obtain ⟨q3, c33, hL3⟩ := HN3.out.log; have HL3 := hide hL3; have c73 : w3.cell? ⟨p, 7, none⟩ = some (.int .u64 N.commit) := HN3.out.c.2.2.2.2.2.2.1; obtain ⟨-, b13, -, -, b43, b53, b63, -, -, b93⟩ := HBx3.out.c; clear hL3; have HKT := hide (And.intro ((HB3.out.cell (p := ⟨p, 3, none⟩) hp2).trans c32) b43); clear hb3))
  all_goals
    have hp3 : p < w3.heap.size := HN3.out.at.2
    have HF3 := hide (fun W (hW : Below w3.heap.size w3 W) => nfirst_any X base q3 N.L W (HL3.out.keep hW) hG)
    have HLy := hide (fun W (hW : Below w3.heap.size w3 W) => lay_any X base p z (N.fol m.fr t2) m.ix m.ea m.en m.ec m.es w0 W (HN3.out.keep hW) HOk2.out hz hB (HB0w.out.trans ((HK2.out.below (B := w0.heap.size) HB0w.out.size (fun k hk => Nat.le_trans hB (HN.out.rng k hk).1)).trans ((HB3.out.trans (hW.mono HB3.out.size)).mono (Nat.le_trans HB0w.out.size HK2.out.size)))) HEs.out HS.out HIx.out)
    go_wp2_with fail
    go_region_held3 (fun W => W.cell? ⟨p, 3, none⟩ = some (.pointer (some ⟨q3, 0, none⟩)) ∧ W.cell? ⟨w.heap.size, 4, none⟩ = some (.int .u64 m.ix)) (first | go_keep) (first
      | (go_at_call 33; go_must (refine (HF3.out _ (by repeat (first | exact Below.refl _ _ | refine bel_alloc ?_ _ | refine Below.drew ?_))).mono ?_); rintro e w4a ⟨rfl, hw⟩; have hw := hw.symm; subst hw))
    all_goals
      go_wp2_with (first
        | (go_at_call 115; go_must (refine (HLy.out _ (by repeat (first | exact Below.refl _ _ | refine bel_alloc ?_ _ | refine Below.drew ?_))).mono ?_); rintro e w5 ⟨bl, rfl, hp5⟩; obtain ⟨X5, M5, hN5, ⟨⟨L5, hM5⟩, hF5⟩, hK5, hX5⟩ := NPost.ahead (w := w3) (w1 := _) (by repeat (first | exact Below.refl _ _ | refine bel_alloc ?_ _ | refine Below.drew ?_)) hp5; have HN5 := hide hN5; have HM5 := hide hM5; have HC5 : Hid (M5.commit = N.commit) := (by rw [hM5]; rfl); have HFw5 : Hid (Fwd (z + 12) N M5) := ⟨(fw_fol N m.fr t2).trans hF5.1, hF5.2⟩; have HK5 := hide hK5; have HX5 := hide hX5; have c75 : w5.cell? ⟨p, 7, none⟩ = some (.int .u64 N.commit) := (by have := hN5.c.2.2.2.2.2.2.1; rw [HC5.out] at this; exact this); have f75 := hN5.fz 7; obtain ⟨-, b15, -, -, -, -, b65, -, -, -⟩ := (HBx3.out.lies hK5 HXB.out).c; clear hp5 hN5 hM5 hF5 hK5 hX5; cases bl))
      · go_end0
        exact ⟨rfl, NPost.then HK2.out (fun _ h => .inl h) (NPost.ahead HB3.out ⟨X5, M5, HN5.out.mono (by omega), HFw5.out, HK5.out, HX5.out⟩)⟩
      · have hXp5 := HN5.out.at.2
        have hlsU := HlsU.out
        have hcmU := HCm.out
        by_cases h5 : ls < m.cm
        · by_cases h6 : N.commit < ls
          · have HSet := hide ((HN5.out.keep (w' := w5.drew) (by repeat (first | exact Below.refl _ _ | refine bel_alloc ?_ _ | refine Below.drew ?_))).set 7 (.int .u64 ls) (M5.cmt ls) (by decide) (fun _ _ _ _ => rfl) rfl rfl rfl)
            have HKs := hide ((Below.keeps (w := w5) (w' := w5.drew) (by repeat (first | exact Below.refl _ _ | refine bel_alloc ?_ _ | refine Below.drew ?_)) X5).thenSet (i := 7) HN5.out.xp (.int .u64 ls))
            have HFc := hide (fwd_cmt HFw5.out (c := ls) (by rw [HC5.out]; omega) HlsU.out)
            go_region
            all_goals
              go_wp2_with (first
                | (go_at_call 113; go_must (refine (tellM_any X5 base p z (M5.cmt ls) _ _ _ (by exact HSet.out) (by omega)).mono ?_); rintro e w7 ⟨rfl, hp7⟩; have HP7 := hide (NPost.then HK2.out (fun _ h => .inl h) (NPost.ahead HB3.out (NPost.then HK5.out HX5.out (NPost.then HKs.out (fun _ h => .inl h) (hp7.imp (z' := z + 13) (by omega) (R' := Fwd (z + 12) N) (fun N' e => by rw [e]; exact HFc.out)))))); clear hp7))
              go_end0
              exact ⟨rfl, HP7.out⟩
          · have HSet := hide ((HN5.out.keep (w' := w5.drew) (by repeat (first | exact Below.refl _ _ | refine bel_alloc ?_ _ | refine Below.drew ?_))).set 7 (.int .u64 N.commit) (M5.cmt N.commit) (by decide) (fun _ _ _ _ => rfl) rfl rfl rfl)
            have HKs := hide ((Below.keeps (w := w5) (w' := w5.drew) (by repeat (first | exact Below.refl _ _ | refine bel_alloc ?_ _ | refine Below.drew ?_)) X5).thenSet (i := 7) HN5.out.xp (.int .u64 N.commit))
            have HFc := hide (fwd_cmt HFw5.out (c := N.commit) (by rw [HC5.out]; omega) HO.out.commit)
            go_region
            all_goals
              go_wp2_with (first
                | (go_at_call 113; go_must (refine (tellM_any X5 base p z (M5.cmt N.commit) _ _ _ (by exact HSet.out) (by omega)).mono ?_); rintro e w7 ⟨rfl, hp7⟩; have HP7 := hide (NPost.then HK2.out (fun _ h => .inl h) (NPost.ahead HB3.out (NPost.then HK5.out HX5.out (NPost.then HKs.out (fun _ h => .inl h) (hp7.imp (z' := z + 13) (by omega) (R' := Fwd (z + 12) N) (fun N' e => by rw [e]; exact HFc.out)))))); clear hp7))
              go_end0
              exact ⟨rfl, HP7.out⟩
        · by_cases h6 : N.commit < m.cm
          · have HSet := hide ((HN5.out.keep (w' := w5.drew) (by repeat (first | exact Below.refl _ _ | refine bel_alloc ?_ _ | refine Below.drew ?_))).set 7 (.int .u64 m.cm) (M5.cmt m.cm) (by decide) (fun _ _ _ _ => rfl) rfl rfl rfl)
            have HKs := hide ((Below.keeps (w := w5) (w' := w5.drew) (by repeat (first | exact Below.refl _ _ | refine bel_alloc ?_ _ | refine Below.drew ?_)) X5).thenSet (i := 7) HN5.out.xp (.int .u64 m.cm))
            have HFc := hide (fwd_cmt HFw5.out (c := m.cm) (by rw [HC5.out]; omega) HCm.out)
            go_region
            all_goals
              go_wp2_with (first
                | (go_at_call 113; go_must (refine (tellM_any X5 base p z (M5.cmt m.cm) _ _ _ (by exact HSet.out) (by omega)).mono ?_); rintro e w7 ⟨rfl, hp7⟩; have HP7 := hide (NPost.then HK2.out (fun _ h => .inl h) (NPost.ahead HB3.out (NPost.then HK5.out HX5.out (NPost.then HKs.out (fun _ h => .inl h) (hp7.imp (z' := z + 13) (by omega) (R' := Fwd (z + 12) N) (fun N' e => by rw [e]; exact HFc.out)))))); clear hp7))
              go_end0
              exact ⟨rfl, HP7.out⟩
          · have HSet := hide ((HN5.out.keep (w' := w5.drew) (by repeat (first | exact Below.refl _ _ | refine bel_alloc ?_ _ | refine Below.drew ?_))).set 7 (.int .u64 N.commit) (M5.cmt N.commit) (by decide) (fun _ _ _ _ => rfl) rfl rfl rfl)
            have HKs := hide ((Below.keeps (w := w5) (w' := w5.drew) (by repeat (first | exact Below.refl _ _ | refine bel_alloc ?_ _ | refine Below.drew ?_)) X5).thenSet (i := 7) HN5.out.xp (.int .u64 N.commit))
            have HFc := hide (fwd_cmt HFw5.out (c := N.commit) (by rw [HC5.out]; omega) HO.out.commit)
            go_region
            all_goals
              go_wp2_with (first
                | (go_at_call 113; go_must (refine (tellM_any X5 base p z (M5.cmt N.commit) _ _ _ (by exact HSet.out) (by omega)).mono ?_); rintro e w7 ⟨rfl, hp7⟩; have HP7 := hide (NPost.then HK2.out (fun _ h => .inl h) (NPost.ahead HB3.out (NPost.then HK5.out HX5.out (NPost.then HKs.out (fun _ h => .inl h) (hp7.imp (z' := z + 13) (by omega) (R' := Fwd (z + 12) N) (fun N' e => by rw [e]; exact HFc.out)))))); clear hp7))
              go_end0
              exact ⟨rfl, HP7.out⟩

theorem askedApp_any (X : Nat → Prop) (base p z : Nat) (N : Nd) (m : MMsg) (w0 w : World) (h : IsNd X w base p z N) (hO : N.Ok z) (hz : z ≤ 38000) (hB : w0.heap.size ≤ base) (hb0 : Below w0.heap.size w0 w) (hm : m.ok w0) (hS : SmallM m.en m.es) :
    Calls Tryz.prog 63 #[.pointer (some ⟨p, 0, none⟩), .agg #[.int .i64 m.k, .int .u64 m.fr, .int .u64 m.tt, .int .u64 m.tm, .int .u64 m.ix, .int .u64 m.lt, .int .u64 m.cm, .int .u64 m.hn, .bool m.rj, .slice m.ea m.en m.ec, .int .u64 m.si, .int .u64 m.st, .slice m.ma m.mn m.mc, .slice m.sa m.sn m.sc]] w fun e w' => e = .returned (.tuple #[]) ∧ NPost X w base p (z + 13) (Fwd (z + 12) N) w' := by
  have up : ∀ e w', (e = Ending.returned (.tuple #[]) ∧ NPost X w base p (z + 12) (Fwd (z + 12) N) w') → e = Ending.returned (.tuple #[]) ∧ NPost X w base p (z + 13) (Fwd (z + 12) N) w' := fun e w' hh => ⟨hh.1, hh.2.imp (by omega) (fun _ x => x)⟩
  by_cases hA : m.ix < N.L.s.i
  · exact (askedApp_a X base p z N m w0 w h hO hz hB hb0 hm hS hA).mono up
  · cases h2 : (termL N.L m.ix).2 with
    | false => exact (askedApp_b X base p z N m w0 w h hO hz hB hb0 hm hS hA h2).mono up
    | true =>
      by_cases h3 : (termL N.L m.ix).1 = m.lt
      · exact askedApp_d X base p z N m w0 w h hO hz hB hb0 hm hS hA h2 h3
      · exact (askedApp_c X base p z N m w0 w h hO hz hB hb0 hm hS hA h2 h3).mono up

end Go.Proofs.YtodmieehdleohaaGreat
