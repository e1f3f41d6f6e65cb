/- A message comes: heed, askedVote. -/
import Derived.Test.YtodmieehdleohaaGreatSt1
namespace Go.Proofs.YtodmieehdleohaaGreat
open Go.RowKit NumMath
set_option linter.unusedVariables false
set_option maxRecDepth 100000

/-- a follower -/
def Nd.fol (N : Nd) (l t : Int) : Nd := { N with role := 0, leader := l, ticks := t }

theorem ok_fol {z : Nat} {N : Nd} {l t : Int} (h : N.Ok z) (hl : U64 l) (ht : U64 t) : (N.fol l t).Ok z :=
  ⟨h.good, h.n, h.m9, h.i62, h.d, (fun e => by cases e), (fun e => by cases e), h.id, h.term, h.vote, hl, ht, h.commit, h.given⟩

theorem fw_fol (N : Nd) (l t : Int) : Fw N (N.fol l t) := Fw.same rfl rfl rfl (Int.le_refl _) rfl

def HeedPost (X : Nat → Prop) (w : World) (base p z : Nat) (N : Nd) (l : Int) (e : Ending) (w' : World) : Prop :=
  (e = .returned (.bool false) ∧ w' = w) ∨ (e = .returned (.bool true) ∧ ∃ t, U64 t ∧ IsNd X w' base p z (N.fol l t) ∧ Keeps X w w')

set_option maxHeartbeats 1000000 in
theorem heed_any (X : Nat → Prop) (base p z : Nat) (N : Nd) (l : Int) (w : World) (h : IsNd X w base p z N) (hO : N.Ok z) :
    Calls Tryz.prog 111 #[.pointer (some ⟨p, 0, none⟩), .int .u64 l] w fun e w' => HeedPost X w base p z N l e w' := by
  have HFo := hide (follow_any X base p z N l w h)
  have c4 := h.c.2.2.2.1
  have htk := hO.ticks
  clear h hO
  by_cases h1 : N.role = 2
  · have g1 : (N.role == 2) = true := by simpa using h1
    go_enter Tryz.func111, Tryz.ntmps111
    go_wp2
    go_ret
    exact .inl ⟨rfl, rfl⟩
  · have g1 : (N.role == 2) = false := by simpa using h1
    have HTk : Hid (U64 N.ticks) := htk
    go_enter Tryz.func111, Tryz.ntmps111
    go_wp2_with (first
      | (go_at_call 110; go_must (refine (rest_any X base p z { N with role := 0, leader := l } _ HN2.out HTk.out).mono ?_); rintro e w3 ⟨rfl, ⟨t, ht, hN3⟩, hK3⟩; have HN3 : Hid (∃ t, U64 t ∧ IsNd X w3 base p z (N.fol l t)) := ⟨t, ht, hN3⟩; have HK3 := hide (HK2.out.then (fun _ h => .inl h) hK3); clear ht hN3 hK3)
      | (go_at_call 59; go_must (refine HFo.out.mono ?_); rintro e w2 ⟨rfl, hN2, hK2⟩; have HN2 := hide hN2; have HK2 := hide hK2; clear hN2 hK2))
    go_ret
    obtain ⟨t, ht, hN⟩ := HN3.out
    exact .inr ⟨rfl, t, ht, hN, HK3.out⟩

/-- a vote given -/
def Nd.voted (N : Nd) (f t : Int) : Nd := { N with vote := f, ticks := t }

theorem ok_voted {z : Nat} {N : Nd} {f t : Int} (h : N.Ok z) (hf : U64 f) (ht : U64 t) : (N.voted f t).Ok z :=
  ⟨h.good, h.n, h.m9, h.i62, h.d, h.r1, h.r2, h.id, h.term, hf, h.leader, ht, h.commit, h.given⟩

theorem fw_voted {N : Nd} {f t : Int} (h : N.vote = 0 ∨ N.vote = f) : Fw N (N.voted f t) :=
  ⟨rfl, Int.le_refl _, Int.le_refl _, fun _ h0 => h.elim (fun e => absurd e h0) (fun e => e.symm), Int.le_refl _, fun e he _ _ => he, fun x => x⟩

set_option maxHeartbeats 4000000 in
theorem askedVote_a (X : Nat → Prop) (base p z : Nat) (N : Nd) (m : MMsg) (w : World) (h : IsNd X w base p z N) (hO : N.Ok z) (hz : z ≤ 38000) (hf : U64 m.fr) (h0 : N.vote = 0) :
    Calls Tryz.prog 61 #[.pointer (some ⟨p, 0, none⟩), .agg #[.int .i64 m.k, .int .u64 m.fr, .int .u64 m.tt, .int .u64 m.tm, .int .u64 m.ix, .int .u64 m.lt, .int .u64 m.cm, .int .u64 m.hn, .bool m.rj, .slice m.ea m.en m.ec, .int .u64 m.si, .int .u64 m.st, .slice m.ma m.mn m.mc, .slice m.sa m.sn m.sc]] w fun e w' => e = .returned (.tuple #[]) ∧ NPost X w base p (z + 1) (Fwd z N) w' := by
  have HN := hide h
  have HO := hide hO
  have c2 := h.c.2.2.1
  have f2 := h.fz 2
  have hpl := h.at.2
  have hne : ¬ w.heap.size = p := by omega
  have hne2 : ¬ p = w.heap.size := by omega
  have hXB : ¬ X w.heap.size := fun hx => by have := (h.rng _ hx).2; omega
  have HXB := hide hXB
  have HBx := hide (box14_new w m w.heap.size 49 rfl)
  have HAh := hide (fun W (hW : Below w.heap.size w W) i t => isAhead_any X base p z N i t W (h.keep hW) hO)
  have HF := hide hf
  have g0 : (N.vote == 0) = true := by simpa using h0
  have HVt : Hid (N.vote = 0 ∨ N.vote = m.fr) := .inl h0
  clear h hO hXB h0
  go_enter Tryz.func61, Tryz.ntmps61
  go_wp2_with fail
  go_region
  all_goals
    go_wp2_with (first
      | (go_at_call 108; have hchk := HN5.out; clear hchk; go_must (refine (send_any X base p z (N.voted m.fr t5) 2 0 m.fr 0 0 0 0 0 false none 0 0 0 0 none 0 0 none 0 0 _ HN5.out (by omega)).mono ?_); rintro e w6 ⟨rfl, hp6⟩; have HP6 := hide (NPost.then HK5.out (fun _ h => .inl h) (hp6.imp (Nat.le_refl _) (R' := Fwd z N) (fun N' e => by rw [e]; exact HFw.out))); clear hp6)
      | (go_at_call 108; go_must (refine (send_any X base p z N 2 0 m.fr 0 0 0 0 0 true none 0 0 0 0 none 0 0 none 0 0 _ (HN.out.keep HBY.out) (by omega)).mono ?_); rintro e w6 ⟨rfl, hp6⟩; have HP6 := hide (NPost.ahead HBY.out (hp6.imp (Nat.le_refl _) (R' := Fwd z N) (fun N' e => by rw [e]; exact Fwd.refl HO.out))); clear hp6)
      | (go_at_call 110; go_must (refine (rest_any X base p z { N with vote := m.fr } _ (by exact HNv.out) HO.out.ticks).mono ?_); rintro e w5 ⟨rfl, ⟨t5, ht5, hN5⟩, hK5⟩; have HN5 : Hid (IsNd X w5 base p z (N.voted m.fr t5)) := hN5; have HFw : Hid (Fwd z N (N.voted m.fr t5)) := ⟨fw_voted HVt.out, ok_voted HO.out HF.out ht5⟩; have HK5 := hide (HKv.out.then (fun _ h => .inl h) hK5); have b15 := ((HBx4.out.lies HKw.out HXB.out).lies hK5 HXB.out).c.2.1; clear ht5 hN5 hK5)
      | (go_at_call 109; go_must (refine (HAh.out _ (by repeat (first | exact Below.refl _ _ | refine bel_alloc ?_ _ | refine Below.drew ?_)) _ _).mono ?_); rintro e w4 ⟨b, rfl, hb4⟩; have HBY := hide (Below.trans (b := _) (B := w.heap.size) (a := w) (by repeat (first | exact Below.refl _ _ | refine bel_alloc ?_ _ | refine Below.drew ?_)) (hb4.mono (by simp))); have HBx4 := hide ((HBx.out.keep (w' := _) (by repeat (first | exact Below.refl _ _ | refine bel_alloc ?_ _ | refine Below.drew ?_))).keep hb4); have b14 := HBx4.out.c.2.1; have c24 := ((HN.out.keep HBY.out).c.2.2.1); have f24 := ((HN.out.keep HBY.out).fz 2); have HNv := hide ((HN.out.keep HBY.out).set 2 (.int .u64 m.fr) { N with vote := m.fr } (by decide) (fun _ _ _ _ => rfl) rfl rfl rfl); have HKw := hide ((Keeps.self X w4).thenSet (i := 2) HN.out.xp (.int .u64 m.fr)); have HKv := hide ((Below.keeps HBY.out X).then (fun _ h => .inl h) HKw.out); clear hb4; cases b))
  all_goals
    go_end0
    exact ⟨rfl, HP6.out⟩

set_option maxHeartbeats 4000000 in
theorem askedVote_b (X : Nat → Prop) (base p z : Nat) (N : Nd) (m : MMsg) (w : World) (h : IsNd X w base p z N) (hO : N.Ok z) (hz : z ≤ 38000) (hf : U64 m.fr) (h0 : ¬ N.vote = 0) (h1 : N.vote = m.fr) :
    Calls Tryz.prog 61 #[.pointer (some ⟨p, 0, none⟩), .agg #[.int .i64 m.k, .int .u64 m.fr, .int .u64 m.tt, .int .u64 m.tm, .int .u64 m.ix, .int .u64 m.lt, .int .u64 m.cm, .int .u64 m.hn, .bool m.rj, .slice m.ea m.en m.ec, .int .u64 m.si, .int .u64 m.st, .slice m.ma m.mn m.mc, .slice m.sa m.sn m.sc]] w fun e w' => e = .returned (.tuple #[]) ∧ NPost X w base p (z + 1) (Fwd z N) w' := by
  have HN := hide h
  have HO := hide hO
  have c2 := h.c.2.2.1
  have f2 := h.fz 2
  have hpl := h.at.2
  have hne : ¬ w.heap.size = p := by omega
  have hne2 : ¬ p = w.heap.size := by omega
  have hXB : ¬ X w.heap.size := fun hx => by have := (h.rng _ hx).2; omega
  have HXB := hide hXB
  have HBx := hide (box14_new w m w.heap.size 49 rfl)
  have HAh := hide (fun W (hW : Below w.heap.size w W) i t => isAhead_any X base p z N i t W (h.keep hW) hO)
  have HF := hide hf
  have g0 : (N.vote == 0) = false := by simpa using h0
  have g1 : (N.vote == m.fr) = true := by simpa using h1
  have HVt : Hid (N.vote = 0 ∨ N.vote = m.fr) := .inr h1
  clear h hO hXB h0 h1
  go_enter Tryz.func61, Tryz.ntmps61
  go_wp2_with fail
  go_region
  all_goals
    go_wp2_with (first
      | (go_at_call 108; have hchk := HN5.out; clear hchk; go_must (refine (send_any X base p z (N.voted m.fr t5) 2 0 m.fr 0 0 0 0 0 false none 0 0 0 0 none 0 0 none 0 0 _ HN5.out (by omega)).mono ?_); rintro e w6 ⟨rfl, hp6⟩; have HP6 := hide (NPost.then HK5.out (fun _ h => .inl h) (hp6.imp (Nat.le_refl _) (R' := Fwd z N) (fun N' e => by rw [e]; exact HFw.out))); clear hp6)
      | (go_at_call 108; go_must (refine (send_any X base p z N 2 0 m.fr 0 0 0 0 0 true none 0 0 0 0 none 0 0 none 0 0 _ (HN.out.keep HBY.out) (by omega)).mono ?_); rintro e w6 ⟨rfl, hp6⟩; have HP6 := hide (NPost.ahead HBY.out (hp6.imp (Nat.le_refl _) (R' := Fwd z N) (fun N' e => by rw [e]; exact Fwd.refl HO.out))); clear hp6)
      | (go_at_call 110; go_must (refine (rest_any X base p z { N with vote := m.fr } _ (by exact HNv.out) HO.out.ticks).mono ?_); rintro e w5 ⟨rfl, ⟨t5, ht5, hN5⟩, hK5⟩; have HN5 : Hid (IsNd X w5 base p z (N.voted m.fr t5)) := hN5; have HFw : Hid (Fwd z N (N.voted m.fr t5)) := ⟨fw_voted HVt.out, ok_voted HO.out HF.out ht5⟩; have HK5 := hide (HKv.out.then (fun _ h => .inl h) hK5); have b15 := ((HBx4.out.lies HKw.out HXB.out).lies hK5 HXB.out).c.2.1; clear ht5 hN5 hK5)
      | (go_at_call 109; go_must (refine (HAh.out _ (by repeat (first | exact Below.refl _ _ | refine bel_alloc ?_ _ | refine Below.drew ?_)) _ _).mono ?_); rintro e w4 ⟨b, rfl, hb4⟩; have HBY := hide (Below.trans (b := _) (B := w.heap.size) (a := w) (by repeat (first | exact Below.refl _ _ | refine bel_alloc ?_ _ | refine Below.drew ?_)) (hb4.mono (by simp))); have HBx4 := hide ((HBx.out.keep (w' := _) (by repeat (first | exact Below.refl _ _ | refine bel_alloc ?_ _ | refine Below.drew ?_))).keep hb4); have b14 := HBx4.out.c.2.1; have c24 := ((HN.out.keep HBY.out).c.2.2.1); have f24 := ((HN.out.keep HBY.out).fz 2); have HNv := hide ((HN.out.keep HBY.out).set 2 (.int .u64 m.fr) { N with vote := m.fr } (by decide) (fun _ _ _ _ => rfl) rfl rfl rfl); have HKw := hide ((Keeps.self X w4).thenSet (i := 2) HN.out.xp (.int .u64 m.fr)); have HKv := hide ((Below.keeps HBY.out X).then (fun _ h => .inl h) HKw.out); clear hb4; cases b))
  all_goals
    go_end0
    exact ⟨rfl, HP6.out⟩

set_option maxHeartbeats 4000000 in
theorem askedVote_c (X : Nat → Prop) (base p z : Nat) (N : Nd) (m : MMsg) (w : World) (h : IsNd X w base p z N) (hO : N.Ok z) (hz : z ≤ 38000) (hf : U64 m.fr) (h0 : ¬ N.vote = 0) (h1 : ¬ N.vote = m.fr) :
    Calls Tryz.prog 61 #[.pointer (some ⟨p, 0, none⟩), .agg #[.int .i64 m.k, .int .u64 m.fr, .int .u64 m.tt, .int .u64 m.tm, .int .u64 m.ix, .int .u64 m.lt, .int .u64 m.cm, .int .u64 m.hn, .bool m.rj, .slice m.ea m.en m.ec, .int .u64 m.si, .int .u64 m.st, .slice m.ma m.mn m.mc, .slice m.sa m.sn m.sc]] w fun e w' => e = .returned (.tuple #[]) ∧ NPost X w base p (z + 1) (Fwd z N) w' := by
  have HN := hide h
  have HO := hide hO
  have c2 := h.c.2.2.1
  have hpl := h.at.2
  have hne : ¬ w.heap.size = p := by omega
  have hne2 : ¬ p = w.heap.size := by omega
  have g0 : (N.vote == 0) = false := by simpa using h0
  have g1 : (N.vote == m.fr) = false := by simpa using h1
  clear h hO h0 h1
  go_enter Tryz.func61, Tryz.ntmps61
  go_wp2_with fail
  go_region
  all_goals
    go_wp2_with (first
      | (go_at_call 108; go_must (refine (send_any X base p z N 2 0 m.fr 0 0 0 0 0 true none 0 0 0 0 none 0 0 none 0 0 _ (HN.out.keep (by repeat (first | exact Below.refl _ _ | refine bel_alloc ?_ _ | refine Below.drew ?_))) (by omega)).mono ?_); rintro e w6 ⟨rfl, hp6⟩; have HP6 := hide (NPost.ahead (w := w) (w1 := _) (by repeat (first | exact Below.refl _ _ | refine bel_alloc ?_ _ | refine Below.drew ?_)) (hp6.imp (Nat.le_refl _) (R' := Fwd z N) (fun N' e => by rw [e]; exact Fwd.refl HO.out))); clear hp6))
    go_end0
    exact ⟨rfl, HP6.out⟩

theorem askedVote_any (X : Nat → Prop) (base p z : Nat) (N : Nd) (m : MMsg) (w : World) (h : IsNd X w base p z N) (hO : N.Ok z) (hz : z ≤ 38000) (hf : U64 m.fr) :
    Calls Tryz.prog 61 #[.pointer (some ⟨p, 0, none⟩), .agg #[.int .i64 m.k, .int .u64 m.fr, .int .u64 m.tt, .int .u64 m.tm, .int .u64 m.ix, .int .u64 m.lt, .int .u64 m.cm, .int .u64 m.hn, .bool m.rj, .slice m.ea m.en m.ec, .int .u64 m.si, .int .u64 m.st, .slice m.ma m.mn m.mc, .slice m.sa m.sn m.sc]] w fun e w' => e = .returned (.tuple #[]) ∧ NPost X w base p (z + 1) (Fwd z N) w' := by
  by_cases h0 : N.vote = 0
  · exact askedVote_a X base p z N m w h hO hz hf h0
  · by_cases h1 : N.vote = m.fr
    · exact askedVote_b X base p z N m w h hO hz hf h0 h1
    · exact askedVote_c X base p z N m w h hO hz hf h0 h1

end Go.Proofs.YtodmieehdleohaaGreat
