/- A member's place: back; look-ups in the map of places in whatever world. -/
import Derived.Test.YtodmieehdleohaaGreatSt1
namespace Go.Proofs.YtodmieehdleohaaGreat
open Go.RowKit NumMath
set_option linter.unusedVariables false
set_option maxRecDepth 100000

def backI (nx hn : Int) : Int := if nx < 2 then 1 else (if nx - 2 < hn then nx - 2 else hn) + 1

theorem back9_rng {nx hn : Int} (h1 : U64 nx) (h2 : U64 hn) : U64 (backI nx hn) := by
  obtain ⟨a, b⟩ := h1
  obtain ⟨c, d⟩ := h2
  unfold backI
  split
  · exact ⟨by omega, by omega⟩
  · split <;> exact ⟨by omega, by omega⟩

theorem back9_any (nx hn : Int) (w : World) (h1 : U64 nx) (h2 : U64 hn) :
    Calls Tryz.prog 116 #[.int .u64 nx, .int .u64 hn] w fun e w' => e = .returned (.int .u64 (backI nx hn)) ∧ w' = w := by
  obtain ⟨a1, a2⟩ := h1
  obtain ⟨a3, a4⟩ := h2
  by_cases h : nx < 2
  · have e : backI nx hn = 1 := if_pos h
    rw [e]
    have hd : decide (nx < 2) = true := decide_eq_true h
    clear e
    go_enter Tryz.func116, Tryz.ntmps116
    go_wp2
    go_ret
    exact ⟨rfl, rfl⟩
  · have hd : decide (nx < 2) = false := decide_eq_false h
    have hw1 : IntKind.u64.wrap (nx - 2) = nx - 2 := kwrap_u64 _ (by omega) (by omega)
    by_cases h3 : nx - 2 < hn
    · have e : backI nx hn = nx - 2 + 1 := by unfold backI; rw [if_neg h, if_pos h3]
      rw [e]
      have hw2 : IntKind.u64.wrap (nx - 2 + 1) = nx - 2 + 1 := kwrap_u64 _ (by omega) (by omega)
      clear e
      go_enter Tryz.func116, Tryz.ntmps116
      go_wp2
      go_ret
      exact ⟨rfl, rfl⟩
    · have e : backI nx hn = hn + 1 := by unfold backI; rw [if_neg h, if_neg h3]
      rw [e]
      have hm : (if nx - 2 < hn then nx - 2 else hn) = hn := if_neg h3
      have hw2 : IntKind.u64.wrap (hn + 1) = hn + 1 := kwrap_u64 _ (by omega) (by omega)
      clear e
      go_enter Tryz.func116, Tryz.ntmps116
      go_wp2
      go_ret
      exact ⟨rfl, rfl⟩

theorem one_entry {es : Array MapEntry} {clock : Nat} (F : Go.WideElems.Fit (H := Unit) Tryz.prog 22 pairElem es clock) {e0 e1 : MapEntry} (h0 : e0 ∈ es.toList) (h1 : e1 ∈ es.toList) (hk : e0.key = e1.key) : e0 = e1 := by
  have hp := Maps.fit_apart (Maps.int_keyed Tryz.underlying22) F
  obtain ⟨y0, hy0⟩ := F.reads e0 h0
  obtain ⟨y1, hy1⟩ := F.reads e1 h1
  obtain ⟨i, hi, rfl⟩ := List.getElem_of_mem h0
  obtain ⟨j, hj, rfl⟩ := List.getElem_of_mem h1
  have hq : (Go.WideElems.rg Tryz.prog 22 pairElem es.toList[i]).1 = (Go.WideElems.rg Tryz.prog 22 pairElem es.toList[j]).1 := by
    rw [Go.WideElems.rg_of hy0, Go.WideElems.rg_of hy1]
    have m0 := Go.WideElems.rd_key hy0
    have m1 := Go.WideElems.rd_key hy1
    rw [hk, m1] at m0
    exact (Option.some.inj m0).symm
  rw [List.pairwise_iff_getElem] at hp
  rcases Nat.lt_trichotomy i j with hlt | rfl | hlt
  · exact absurd (by rw [List.getElem_map, List.getElem_map]; exact hq) (hp i j (by simpa using hi) (by simpa using hj) hlt)
  · rfl
  · exact absurd (by rw [List.getElem_map, List.getElem_map]; exact hq.symm) (hp j i (by simpa using hj) (by simpa using hi) hlt)

theorem look_all {w : World} {b z : Nat} (h : MapP w b z) {key : Int} (hk : U64 key) :
    ∃ u v : Int, U64 u ∧ U64 v ∧ ∀ W : World, W.heap[b]? = w.heap[b]? → (Instr.lookup 86 (.map (some b)) (.int .u64 key) false).run Tryz.prog W = .ok (.agg #[.int .u64 u, .int .u64 v]) W := by
  obtain ⟨D, es, clock, hb, F, hs, rfl⟩ := h
  have look : ∀ W : World, W.heap[b]? = w.heap[b]? → _ := fun W hW => Maps.fit_look false (Maps.int_keyed Tryz.underlying22) Tryz.underlying86 (zeroP W) (hW.trans hb) F (keyU hk)
  rcases look w rfl with ⟨_, hn, _⟩ | ⟨e0, y0, hm0, hk0, _, hR, _⟩
  · refine ⟨0, 0, ⟨by decide, by decide⟩, ⟨by decide, by decide⟩, fun W hW => ?_⟩
    rcases look W hW with ⟨hr, _⟩ | ⟨e1, _, hm1, hk1, _⟩
    · simpa using hr
    · exact absurd hk1 (hn e1 hm1)
  · obtain ⟨u, v, hv, hu1, hv1⟩ := pairElem_inv hR
    refine ⟨u, v, hu1, hv1, fun W hW => ?_⟩
    rcases look W hW with ⟨_, hn, _⟩ | ⟨e1, _, hm1, hk1, hr, _⟩
    · exact absurd hk0 (hn e0 hm0)
    · have e := one_entry F hm1 hm0 (hk1.trans hk0.symm)
      subst e
      rw [hv] at hr
      simpa using hr

end Go.Proofs.YtodmieehdleohaaGreat
