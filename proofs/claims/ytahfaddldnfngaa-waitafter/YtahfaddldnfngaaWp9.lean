/- What the laws of layer 13 are handed; SameNumbers; the laws WaitCycles, WaitShort, WaitJust. -/
import Derived.Test.YtahfaddldnfngaaWp8
import Derived.Test.YtahfaddldnfngaaOpn
import Derived.BigQuiet
namespace Go.Proofs.Ytahfaddldnfngaa
open Go.RowKit NumMath Go.ChangeShapes Go.WideShapes Go.Deep
set_option linter.unusedVariables false
set_option maxRecDepth 100000

theorem open_edge {H : Type} {enc : TypeId × Value → H} {w : World} {base : Nat} {spare : Nat → Bool} {held : Bool} {fuel : Nat} {v0 v1 : Value} {x : DataW H × List MemPlace}
    (h : DataW.trod enc Try.prog w base spare held fuel 35 [v0, v1] = some x) : ∃ t d : Int, v0 = .int .u64 t ∧ v1 = .int .u64 d ∧ U64 t ∧ U64 d := by
  obtain ⟨y0, y1, k, _, _, g0, g1⟩ := trod_struct2 Try.underlying35 h
  simp only [cellsU1] at g0 g1
  obtain ⟨n0, e0, _, f0⟩ := DataW.trod_int Try.underlying23 g0
  obtain ⟨n1, e1, _, f1⟩ := DataW.trod_int Try.underlying23 g1
  simp at e0 e1
  exact ⟨n0, n1, e0, e1, u64_wf f0, u64_wf f1⟩

theorem open_edges {H : Type} {enc : TypeId × Value → H} {w : World} {base : Nat} {spare : Nat → Bool} {held : Bool} {fuel : Nat} {a : Option Addr} {len cap : Nat} {x : DataW H × List MemPlace}
    (h : DataW.trod enc Try.prog w base spare held fuel 22 [.slice a len cap] = some x) : ∃ xs, IsEdges w a len cap xs := by
  obtain ⟨hlc, he⟩ := slice_lens Try.underlying22 h
  obtain ⟨xs, h1, h2⟩ := openY layE (0, 0) (w := w) (base := base) (a := a) cellsE2 hlc (fun e => U64 e.1 ∧ U64 e.2) (fun i hi => by
    obtain ⟨ad, cs', n, y, rfl, h1, h2⟩ := he i hi
    have hl := (World.cells?_some h1).2.1
    rw [cellsE2] at hl
    match cs', hl with
    | [v0, v1], _ =>
      obtain ⟨t, d, rfl, rfl, ht, hd⟩ := open_edge h2
      exact ⟨ad, _, (t, d), rfl, h1, ⟨ht, hd⟩, rfl⟩)
  exact ⟨xs, h1, h2⟩

theorem isU_at {w : World} {a : Option Addr} {n c : Nat} {xs : List Int} (h : IsY layU w a n c xs) {j : Nat} (hj : j < n) : ∃ g off x, a = some ⟨g, off, none⟩ ∧ g < w.heap.size ∧ xs[j]? = some x ∧ w.cell? ⟨g, off + j, none⟩ = some (.int .u64 x) := by
  obtain ⟨g, off, e, hg, hC⟩ := h.at hj
  obtain ⟨x, hx⟩ : ∃ x, xs[j]? = some x := ⟨_, List.getElem?_eq_getElem (by have := h.1; omega)⟩
  refine ⟨g, off, x, e, hg, hx, ?_⟩
  have := hC j x hx 0 _ rfl
  simpa [layU] using this

set_option maxHeartbeats 2000000 in
theorem sameU_self (a : Option Addr) (n c : Nat) (xs : List Int) (b : Option Addr) (m d : Nat) (w : World) (h : IsY layU w a n c xs) (h2 : IsY layU w b m d xs) :
    Calls Try.prog 11 #[.slice a n c, .slice b m d] w fun e w' => e = .returned (.bool true) ∧ Below w.heap.size w w' := by
  obtain rfl : n = m := h.1.symm.trans h2.1
  have H := hide h
  have H2 := hide h2
  have hc := h.2
  have hm : (n : Int) ≤ 9223372036854775807 := by have := hc.1; have := hc.2.1; unfold maxLen at this; omega
  clear h h2 hc
  go_enter Try.func11, Try.ntmps11
  go_wp2
  go_loopw [13] (fun i wr => ∃ k : Nat, i = .int .i64 k ∧ k ≤ n ∧ Below w.heap.size w wr) (fun i _ => n - (intOf i).toNat)
  case atStart => exact ⟨0, rfl, Nat.zero_le _, Below.refl _ _⟩
  case round =>
    obtain ⟨k, rfl, hk, hB⟩ := hrel
    have HB := hide hB
    by_cases hlt : k < n
    · have hlt' : (k : Int) < (n : Int) := by omega
      obtain ⟨g, off, x, rfl, hg, hx, hcx⟩ := isU_at H.out hlt
      obtain ⟨g2, off2, y, rfl, hg2, hy, hcy⟩ := isU_at H2.out hlt
      rw [hx] at hy
      cases hy
      have q1 := fun nd => ((below_drewN hB nd).cell (p := ⟨g, off + k, none⟩) hg).trans hcx
      have q2 := fun nd => ((below_drewN hB nd).cell (p := ⟨g2, off2 + k, none⟩) hg2).trans hcy
      clear hB hcx hcy hx
      go_wp2
      go_quiet (fail)
      go_wp2
      go_roundw
      case rel => exact ⟨k + 1, by go_num, by omega, below_drewN HB.out _⟩
      case measure => simp [intOf]; omega
    · obtain rfl : k = n := by omega
      clear hB
      go_wp2
      go_ret
      exact ⟨rfl, HB.out⟩

set_option maxHeartbeats 2000000 in
theorem wcycles_any (a : Option Addr) (len cap : Nat) (l : List (Int × Int)) (fr : Int) (w : World) (h : IsEdges w a len cap l) (hfr : U64 fr) :
    Calls Try.prog 4 #[.slice a len cap, .int .u64 fr] w fun e w' => e = .returned (.bool true) ∧ Below w.heap.size w w' := by
  have H := hide h
  have hm : (len : Int) ≤ 9223372036854775807 := by have := h.1.2.1; have := h.1.2.2.1; unfold maxLen at this; omega
  clear h
  by_cases hl : (40 : Int) < (len : Int)
  · go_enter Try.func4, Try.ntmps4
    go_wp2_with (first
      | (go_at_call 7; go_must (refine (awake13_any _).mono ?_); rintro e w1 ⟨rfl, hb⟩; have HB1 := hide hb; clear hb))
    go_ret
    exact ⟨rfl, HB1.out⟩
  · have hl2 : len ≤ 40 := by omega
    go_enter Try.func4, Try.ntmps4
    go_wp2_with (first
      | (go_at_call 11; go_must (refine (sameU_self _ _ _ (cycleW l fr) _ _ _ w3 HV2.out HV3.out).mono ?_); rintro e w4 ⟨rfl, hb⟩; have HB4 := hide hb; clear hb)
      | (go_at_call 13; go_must (refine (cycle_any a len cap l fr w2 HE2.out.1 (by omega)).mono ?_); rintro e w3 ⟨v3, rfl, ho, hb⟩; obtain ⟨va, vn, vc, rfl⟩ := ho.any3; have HV3 := hide ho.is; have HV2 := hide (HU2.out.keep hb); have HB3 := hide hb; clear ho hb)
      | (go_at_call 12; go_must (refine (pcycle_any a len cap l fr w1 HE1.out (by omega) hfr).mono ?_); rintro e w2 ⟨v2, rfl, ho, hb⟩; obtain ⟨ua, un, uc, rfl⟩ := ho.any3; have HU2 := hide ho.is; have HB2 := hide hb; have HE2 := hide (HE1.out.keep hb); clear ho hb)
      | (go_at_call 7; go_must (refine (awake13_any _).mono ?_); rintro e w1 ⟨rfl, hb⟩; have HB1 := hide hb; have HE1 := hide (H.out.keep hb); clear hb))
    go_ret
    exact ⟨rfl, ((HB1.out.trans (HB2.out.mono HB1.out.size)).trans (HB3.out.mono (Nat.le_trans HB1.out.size HB2.out.size))).trans (HB4.out.mono (Nat.le_trans (Nat.le_trans HB1.out.size HB2.out.size) HB3.out.size))⟩

end Go.Proofs.Ytahfaddldnfngaa
