/- A message comes: refuse, tellMatch, hint, isAhead, toldVote, heed, askedVote. -/
import Derived.Test.YtodmieehdleohaaGreatNdD
import Derived.Test.YtodmieehdleohaaGreatInA
namespace Go.Proofs.YtodmieehdleohaaGreat
open Go.RowKit NumMath
set_option linter.unusedVariables false
set_option maxRecDepth 100000

/-- what a call leaves of a node -/
def Fwd (z : Nat) (N N' : Nd) : Prop := Fw N N' ∧ N'.Ok z

theorem Fwd.refl {z : Nat} {N : Nd} (h : N.Ok z) : Fwd z N N := ⟨Fw.refl _, h⟩

/-- a block that holds a message -/
def Box14 (w : World) (g : Nat) (m : MMsg) : Prop := (∀ j, j < 14 → w.cell? ⟨g, j, none⟩ = m.vals[j]?) ∧ g < w.heap.size

theorem box14_new (w : World) (m : MMsg) (g : Nat) (ty : TypeId) (hg : w.heap.size = g) : Box14 (w.alloc (.cells #[.int .i64 m.k, .int .u64 m.fr, .int .u64 m.tt, .int .u64 m.tm, .int .u64 m.ix, .int .u64 m.lt, .int .u64 m.cm, .int .u64 m.hn, .bool m.rj, .slice m.ea m.en m.ec, .int .u64 m.si, .int .u64 m.st, .slice m.ma m.mn m.mc, .slice m.sa m.sn m.sc] ty)) g m := by
  refine ⟨fun j hj => ?_, by simp; omega⟩
  have hh : (w.alloc (.cells m.vals.toArray ty)).heap[g]? = some (.cells m.vals.toArray ty) := by rw [← hg]; exact (MapKept.heap_alloc w _).1
  show (w.alloc (.cells m.vals.toArray ty)).cell? ⟨g, j, none⟩ = _
  unfold World.cell?
  rw [hh]
  show m.vals.toArray[j]? = _
  rw [List.getElem?_toArray]

theorem Box14.lies {X : Nat → Prop} {w w' : World} {g : Nat} {m : MMsg} (h : Box14 w g m) (hk : Keeps X w w') (hg : ¬ X g) : Box14 w' g m :=
  ⟨fun j hj => (hk.cell (i := j) h.2 hg).trans (h.1 j hj), Nat.lt_of_lt_of_le h.2 hk.size⟩

theorem Box14.keep {w w' : World} {g : Nat} {m : MMsg} (h : Box14 w g m) (hb : Below w.heap.size w w') : Box14 w' g m :=
  ⟨fun j hj => (hb.cell (p := ⟨g, j, none⟩) h.2).trans (h.1 j hj), Nat.lt_of_lt_of_le h.2 hb.size⟩

theorem Box14.c {w : World} {g : Nat} {m : MMsg} (h : Box14 w g m) : w.cell? ⟨g, 0, none⟩ = some (.int .i64 m.k) ∧ w.cell? ⟨g, 1, none⟩ = some (.int .u64 m.fr) ∧ w.cell? ⟨g, 2, none⟩ = some (.int .u64 m.tt) ∧ w.cell? ⟨g, 3, none⟩ = some (.int .u64 m.tm) ∧ w.cell? ⟨g, 4, none⟩ = some (.int .u64 m.ix) ∧ w.cell? ⟨g, 5, none⟩ = some (.int .u64 m.lt) ∧ w.cell? ⟨g, 6, none⟩ = some (.int .u64 m.cm) ∧ w.cell? ⟨g, 7, none⟩ = some (.int .u64 m.hn) ∧ w.cell? ⟨g, 8, none⟩ = some (.bool m.rj) ∧ w.cell? ⟨g, 9, none⟩ = some (.slice m.ea m.en m.ec) :=
  ⟨h.1 0 (by decide), h.1 1 (by decide), h.1 2 (by decide), h.1 3 (by decide), h.1 4 (by decide), h.1 5 (by decide), h.1 6 (by decide), h.1 7 (by decide), h.1 8 (by decide), h.1 9 (by decide)⟩

theorem Box14.s {w : World} {g : Nat} {m : MMsg} (h : Box14 w g m) : w.cell? ⟨g, 10, none⟩ = some (.int .u64 m.si) ∧ w.cell? ⟨g, 11, none⟩ = some (.int .u64 m.st) ∧ w.cell? ⟨g, 12, none⟩ = some (.slice m.ma m.mn m.mc) ∧ w.cell? ⟨g, 13, none⟩ = some (.slice m.sa m.sn m.sc) :=
  ⟨h.1 10 (by decide), h.1 11 (by decide), h.1 12 (by decide), h.1 13 (by decide)⟩

set_option maxHeartbeats 1000000 in
theorem refuse_any (X : Nat → Prop) (base p z : Nat) (N : Nd) (m : MMsg) (w : World) (h : IsNd X w base p z N) (hz : z ≤ 40000) :
    Calls Tryz.prog 60 #[.pointer (some ⟨p, 0, none⟩), .agg #[.int .i64 m.k, .int .u64 m.fr, .int .u64 m.tt, .int .u64 m.tm, .int .u64 m.ix, .int .u64 m.lt, .int .u64 m.cm, .int .u64 m.hn, .bool m.rj, .slice m.ea m.en m.ec, .int .u64 m.si, .int .u64 m.st, .slice m.ma m.mn m.mc, .slice m.sa m.sn m.sc]] w fun e w' => e = .returned (.tuple #[]) ∧ NPost X w base p (z + 1) (fun N' => N' = N) w' := by
  have HN := hide h
  have HSd := hide (fun W (hW : Below w.heap.size w W) kd => send_any X base p z N kd 0 m.fr 0 0 0 0 0 true none 0 0 0 0 none 0 0 none 0 0 W (h.keep hW) (by omega))
  clear h
  by_cases h1 : m.k = 1
  · go_enter Tryz.func60, Tryz.ntmps60
    go_wp2_with (first
      | (go_at_call 108; go_must (refine (HSd.out _ (by repeat (first | exact Below.refl _ _ | refine bel_alloc ?_ _ | refine Below.drew ?_)) _).mono ?_); rintro e w3 ⟨rfl, hp3⟩; have HP3 := hide (NPost.ahead (w := w) (w1 := _) (by repeat (first | exact Below.refl _ _ | refine bel_alloc ?_ _ | refine Below.drew ?_)) hp3); clear hp3))
    go_end0
    exact ⟨rfl, HP3.out⟩
  · have g1 : (m.k == 1) = false := by simpa using h1
    by_cases h3 : m.k = 3 ∨ m.k = 5
    · rcases h3 with h3 | h3
      · go_enter Tryz.func60, Tryz.ntmps60
        go_wp2_with (first
          | (go_at_call 108; go_must (refine (HSd.out _ (by repeat (first | exact Below.refl _ _ | refine bel_alloc ?_ _ | refine Below.drew ?_)) _).mono ?_); rintro e w3 ⟨rfl, hp3⟩; have HP3 := hide (NPost.ahead (w := w) (w1 := _) (by repeat (first | exact Below.refl _ _ | refine bel_alloc ?_ _ | refine Below.drew ?_)) hp3); clear hp3))
        go_end0
        exact ⟨rfl, HP3.out⟩
      · go_enter Tryz.func60, Tryz.ntmps60
        go_wp2_with (first
          | (go_at_call 108; go_must (refine (HSd.out _ (by repeat (first | exact Below.refl _ _ | refine bel_alloc ?_ _ | refine Below.drew ?_)) _).mono ?_); rintro e w3 ⟨rfl, hp3⟩; have HP3 := hide (NPost.ahead (w := w) (w1 := _) (by repeat (first | exact Below.refl _ _ | refine bel_alloc ?_ _ | refine Below.drew ?_)) hp3); clear hp3))
        go_end0
        exact ⟨rfl, HP3.out⟩
    · have g3 : (m.k == 3) = false := by simp; exact fun e => h3 (.inl e)
      have g5 : (m.k == 5) = false := by simp; exact fun e => h3 (.inr e)
      have g3' : ¬ m.k = 3 := fun e => h3 (.inl e)
      have g5' : ¬ m.k = 5 := fun e => h3 (.inr e)
      clear h3
      go_enter Tryz.func60, Tryz.ntmps60
      go_wp2
      go_end0
      exact ⟨rfl, NPost.behind (NPost.of (HN.out.mono (Nat.le_succ _)) rfl (Keeps.self _ _)) (by repeat (first | exact Below.refl _ _ | refine bel_alloc ?_ _ | refine Below.drew ?_))⟩

theorem tellM_any (X : Nat → Prop) (base p z : Nat) (N : Nd) (fr i : Int) (w : World) (h : IsNd X w base p z N) (hz : z ≤ 40000) :
    Calls Tryz.prog 113 #[.pointer (some ⟨p, 0, none⟩), .int .u64 fr, .int .u64 i] w fun e w' => e = .returned (.tuple #[]) ∧ NPost X w base p (z + 1) (fun N' => N' = N) w' := by
  have HSd := hide (send_any X base p z N 4 0 fr 0 i 0 0 0 false none 0 0 0 0 none 0 0 none 0 0 w h (by omega))
  clear h
  go_enter Tryz.func113, Tryz.ntmps113
  go_wp2_with (first
    | (go_at_call 108; go_must (refine HSd.out.mono ?_); rintro e w3 ⟨rfl, hp3⟩; have HP3 := hide hp3; clear hp3))
  go_end0
  exact ⟨rfl, HP3.out⟩

def NumPost (w : World) (e : Ending) (w' : World) : Prop := ∃ u, e = .returned (.int .u64 u) ∧ U64 u ∧ Below w.heap.size w w'

set_option maxHeartbeats 1000000 in
theorem hint_any (X : Nat → Prop) (base p z : Nat) (N : Nd) (i : Int) (w : World) (h : IsNd X w base p z N) (hO : N.Ok z) (hi : U64 i) (hz : z ≤ 40000) :
    Calls Tryz.prog 114 #[.pointer (some ⟨p, 0, none⟩), .int .u64 i] w fun e w' => NumPost w e w' := by
  obtain ⟨q, c3, hL⟩ := h.log
  have HL := hide (nlast_any X base q N.L w hL hO.good)
  have hls : N.L.s.i + (N.L.es.length : Int) = N.last := rfl
  have hU : U64 N.last := by have h1 := hO.good.i0; have h2 := hO.i62; have h3 := hO.n; rw [← hls]; exact ⟨by omega, by omega⟩
  have HU := hide hU
  clear h hL hO
  by_cases h0 : i = 0
  · go_enter Tryz.func114, Tryz.ntmps114
    go_wp2
    go_ret
    exact ⟨0, rfl, ⟨by decide, by decide⟩, Below.refl _ _⟩
  · have g0 : (i == 0) = false := by simpa using h0
    have hw : IntKind.u64.wrap (i - 1) = i - 1 := kwrap_u64 _ (by omega) (by omega)
    by_cases hlt : i - 1 < N.last
    · go_enter Tryz.func114, Tryz.ntmps114
      go_wp2_with (first
        | (go_at_call 81; go_must (refine HL.out.mono ?_); rintro e w2 ⟨rfl, hw⟩; have hw := hw.symm; subst hw))
      go_ret
      exact ⟨_, rfl, ⟨by omega, by omega⟩, (Below.refl _ _).drew⟩
    · go_enter Tryz.func114, Tryz.ntmps114
      go_wp2_with (first
        | (go_at_call 81; go_must (refine HL.out.mono ?_); rintro e w2 ⟨rfl, hw⟩; have hw := hw.symm; subst hw))
      go_ret
      exact ⟨_, rfl, HU.out, (Below.refl _ _).drew⟩

def BoolPost (w : World) (e : Ending) (w' : World) : Prop := ∃ b : Bool, e = .returned (.bool b) ∧ Below w.heap.size w w'

set_option maxHeartbeats 1000000 in
theorem isAhead_any (X : Nat → Prop) (base p z : Nat) (N : Nd) (i t : Int) (w : World) (h : IsNd X w base p z N) (hO : N.Ok z) :
    Calls Tryz.prog 109 #[.pointer (some ⟨p, 0, none⟩), .int .u64 i, .int .u64 t] w fun e w' => BoolPost w e w' := by
  have HL := hide (lastEntry_any X base p z N w h hO.good)
  clear h hO
  generalize (termL N.L N.last).1 = lt at *
  generalize N.last = ls at *
  by_cases h1 : t < lt
  · go_enter Tryz.func109, Tryz.ntmps109
    go_wp2_with (first
      | (go_at_call 107; go_must (refine HL.out.mono ?_); rintro e w2 ⟨rfl, hb2⟩; have HB2 := hide hb2; clear hb2))
    go_ret
    exact ⟨_, rfl, HB2.out⟩
  · by_cases h2 : lt = t
    · have g2 : (lt == t) = true := by simpa using h2
      by_cases h3 : i < ls
      · go_enter Tryz.func109, Tryz.ntmps109
        go_wp2_with (first
          | (go_at_call 107; go_must (refine HL.out.mono ?_); rintro e w2 ⟨rfl, hb2⟩; have HB2 := hide hb2; clear hb2))
        go_ret
        exact ⟨_, rfl, HB2.out⟩
      · go_enter Tryz.func109, Tryz.ntmps109
        go_wp2_with (first
          | (go_at_call 107; go_must (refine HL.out.mono ?_); rintro e w2 ⟨rfl, hb2⟩; have HB2 := hide hb2; clear hb2))
        go_ret
        exact ⟨_, rfl, HB2.out⟩
    · have g2 : (lt == t) = false := by simpa using h2
      go_enter Tryz.func109, Tryz.ntmps109
      go_wp2_with (first
        | (go_at_call 107; go_must (refine HL.out.mono ?_); rintro e w2 ⟨rfl, hb2⟩; have HB2 := hide hb2; clear hb2))
      go_ret
      exact ⟨_, rfl, HB2.out⟩

set_option maxHeartbeats 1000000 in
theorem toldVote_any (X : Nat → Prop) (base p z : Nat) (N : Nd) (m : MMsg) (w : World) (h : IsNd X w base p z N) (hO : N.Ok z) (hz : z ≤ 38000) (hf : U64 m.fr) :
    Calls Tryz.prog 62 #[.pointer (some ⟨p, 0, none⟩), .agg #[.int .i64 m.k, .int .u64 m.fr, .int .u64 m.tt, .int .u64 m.tm, .int .u64 m.ix, .int .u64 m.lt, .int .u64 m.cm, .int .u64 m.hn, .bool m.rj, .slice m.ea m.en m.ec, .int .u64 m.si, .int .u64 m.st, .slice m.ma m.mn m.mc, .slice m.sa m.sn m.sc]] w fun e w' => e = .returned (.tuple #[]) ∧ NPost X w base p (z + 21) (Fwd (z + 1) N) w' := by
  have HN := hide h
  have HO := hide hO
  have c4 := h.c.2.2.2.1
  have hpl := h.at.2
  have HCo := hide (fun W (hW : Below w.heap.size w W) hh => count_any X base p z N m.fr W (h.keep hW) hO hh hf hz)
  clear h hO
  have HFin : Hid (Fwd (z + 1) N N) := Fwd.refl (HO.out.mono (Nat.le_succ _))
  by_cases h1 : N.role = 1
  · have g1 : (N.role == 1) = true := by simpa using h1
    have hhv := HO.out.r1 h1
    obtain ⟨rj, hrj⟩ : ∃ b, m.rj = b := ⟨_, rfl⟩
    cases rj
    · go_enter Tryz.func62, Tryz.ntmps62
      go_wp2_with (first
        | (go_at_call 106; go_must (refine (HCo.out _ (by repeat (first | exact Below.refl _ _ | refine bel_alloc ?_ _ | refine Below.drew ?_)) hhv).mono ?_); rintro e w3 ⟨rfl, hp3⟩; have HP3 := hide (NPost.ahead (w := w) (w1 := _) (by repeat (first | exact Below.refl _ _ | refine bel_alloc ?_ _ | refine Below.drew ?_)) (hp3.imp (Nat.le_refl _) (R' := Fwd (z + 1) N) (fun N' hc => ⟨hc.fw, hc.ok HO.out (by omega)⟩))); clear hp3))
      go_end0
      exact ⟨rfl, HP3.out⟩
    · go_enter Tryz.func62, Tryz.ntmps62
      go_wp2
      go_end0
      exact ⟨rfl, NPost.behind (NPost.of (HN.out.mono (by omega)) HFin.out (Keeps.self _ _)) (by repeat (first | exact Below.refl _ _ | refine bel_alloc ?_ _ | refine Below.drew ?_))⟩
  · have g1 : (N.role == 1) = false := by simpa using h1
    go_enter Tryz.func62, Tryz.ntmps62
    go_wp2
    go_end0
    exact ⟨rfl, NPost.behind (NPost.of (HN.out.mono (by omega)) HFin.out (Keeps.self _ _)) (by repeat (first | exact Below.refl _ _ | refine bel_alloc ?_ _ | refine Below.drew ?_))⟩

end Go.Proofs.YtodmieehdleohaaGreat
