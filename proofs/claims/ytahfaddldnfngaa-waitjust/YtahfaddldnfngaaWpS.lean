/- The law WaitShort. -/
import Derived.Test.YtahfaddldnfngaaWp9
namespace Go.Proofs.Ytahfaddldnfngaa
open Go.RowKit NumMath Go.ChangeShapes Go.WideShapes Go.Deep
set_option linter.unusedVariables false
set_option maxRecDepth 100000

/-- x[:k] -/
theorem run_cutY {α : Type} (L : Lay α) (a : Option Addr) (len cap : Nat) (hlc : len ≤ cap) (k : Nat) (h1 : k ≤ len) (kh : IntKind) : ∃ b, ∀ W, (Instr.sliceAt L.t (.slice a len cap) none (some (.int kh (k : Int))) none).run Try.prog W = .ok (.slice b k cap) W := by
  have he : Try.prog.elem L.t = L.e := by unfold Program.elem; rw [L.und]
  refine ⟨if cap = 0 then a else a.map (·.add (0 * L.k)), fun W => ?_⟩
  rw [run_sliceAt_slice W L.t _ _ _ _ (by rw [he]; exact L.und), run_slice_h W L.t a len cap (by rw [he]; exact L.und) _ _ (by omega) (by omega), sizeY L W]
  simp only [Result.andThen_ok, sliced, Int.toNat_natCast]
  congr 2

theorem cycle_facts (l : List (Int × Int)) (fr : Int) : (cycleW l fr).Nodup ∧ (cycleW l fr).length ≤ l.length := by
  by_cases h : fr ∈ afterW l fr
  · obtain ⟨_, _, h3, h4⟩ := cycleW_some l fr h
    exact ⟨h3, h4⟩
  · rw [cycleW_none l fr h]; simp

theorem nodup_ne {xs : List Int} (h : xs.Nodup) {i j : Nat} {x y : Int} (hx : xs[i]? = some x) (hy : xs[j]? = some y) (hij : j < i) : (x == y) = false := by
  obtain ⟨hi, rfl⟩ := List.getElem?_eq_some_iff.1 hx
  obtain ⟨hj, rfl⟩ := List.getElem?_eq_some_iff.1 hy
  have := List.pairwise_iff_getElem.1 h j i hj hi hij
  exact beq_eq_false_iff_ne.2 (Ne.symm this)

set_option maxHeartbeats 4000000 in
theorem wshort_any (a : Option Addr) (len cap : Nat) (l : List (Int × Int)) (fr : Int) (w : World) (h : IsEdges w a len cap l) (hfr : U64 fr) :
    Calls Try.prog 6 #[.slice a len cap, .int .u64 fr] w fun e w' => e = .returned (.bool true) ∧ Below w.heap.size w w' := by
  have H := hide h
  have hll := h.1.1
  have hm : (len : Int) ≤ 9223372036854775807 := by have := h.1.2.1; have := h.1.2.2.1; unfold maxLen at this; omega
  clear h
  by_cases hl : (40 : Int) < (len : Int)
  · go_enter Try.func6, Try.ntmps6
    go_wp2_with (first
      | (go_at_call 7; go_must (refine (awake13_any _).mono ?_); rintro e w1 ⟨rfl, hb⟩; have HB1 := hide hb; clear hb))
    go_ret
    exact ⟨rfl, HB1.out⟩
  · have hl2 : len ≤ 40 := by omega
    obtain ⟨hnd, hcl⟩ := cycle_facts l fr
    have HND := hide hnd
    clear hnd
    go_enter Try.func6, Try.ntmps6
    go_wp2_with (first
      | (go_at_call 12; go_must (refine (pcycle_any a len cap l fr w1 HE1.out (by omega) hfr).mono ?_); rintro e w2 ⟨v2, rfl, ho, hb⟩; obtain ⟨ua, un, uc, rfl⟩ := ho.any3; have hul := ho.len; have HU2 := hide ho.is; have HB2 := hide (HB1.out.trans (hb.mono HB1.out.size)); clear ho hb)
      | (go_at_call 7; go_must (refine (awake13_any _).mono ?_); rintro e w1 ⟨rfl, hb⟩; have HB1 := hide hb; have HE1 := hide (H.out.keep hb); clear hb))
    have hum : (uc : Int) ≤ 9223372036854775807 := by have := hul.2.2; unfold maxLen at this; omega
    have hle : (un : Int) ≤ (len : Int) := by omega
    go_loopw [18] (fun i wr => ∃ k : Nat, i = .int .i64 k ∧ k ≤ un ∧ Below w2.heap.size w2 wr) (fun i _ => un - (intOf i).toNat)
    case atStart => exact ⟨0, rfl, Nat.zero_le _, Below.refl _ _⟩
    case round =>
      obtain ⟨k, rfl, hk, hB⟩ := hrel
      have HB := hide hB
      clear hB
      by_cases hlt : k < un
      · have hlt' : (k : Int) < (un : Int) := by omega
        obtain ⟨b, hcut⟩ := run_cutY layU ua un uc hul.2.1 k (by omega) .i64
        have hcut2 : ∀ W, (Instr.sliceAt 25 (.slice ua un uc) none (some (.int .i64 (k : Int))) none).run Try.prog W = .ok (.slice b k uc) W := hcut
        clear hcut
        go_wp2
        obtain ⟨wo, hwo⟩ : ∃ wo, wo = wr := ⟨_, rfl⟩
        subst hwo
        go_loopw [25] (fun i wx => ∃ m : Nat, i = .int .i64 m ∧ m ≤ k ∧ Below w2.heap.size w2 wx) (fun i _ => k - (intOf i).toNat)
        case atStart => exact ⟨0, rfl, Nat.zero_le _, HB.out⟩
        case round =>
          obtain ⟨m, rfl, hmk, hB⟩ := hrel
          have HBx := hide hB
          by_cases hlm : m < k
          · have hlm' : (m : Int) < (k : Int) := by omega
            have hlm2 : (m : Int) < (un : Int) := by omega
            obtain ⟨g, off, x, rfl, hg, hx, hcx⟩ := isU_at HU2.out hlt
            obtain ⟨g2, off2, y, e2, hg2, hy, hcy⟩ := isU_at HU2.out (show m < un by omega)
            cases e2
            have hxy := nodup_ne HND.out hx hy hlm
            have q1 := fun nd => ((below_drewN hB nd).cell (p := ⟨g, off + k, none⟩) hg).trans hcx
            have q2 := fun nd => ((below_drewN hB nd).cell (p := ⟨g, off + m, none⟩) hg).trans hcy
            clear hB hcx hcy hx hy
            go_wp2
            go_quiet (fail)
            go_wp2
            go_roundw
            case rel => exact ⟨m + 1, by go_num, by omega, below_drewN HBx.out _⟩
            case measure => simp [intOf]; omega
          · obtain rfl : m = k := by omega
            clear hB
            go_wp2
            go_roundw
            case rel => exact ⟨m + 1, by go_num, by omega, HBx.out⟩
            case measure => simp [intOf]; omega
      · obtain rfl : k = un := by omega
        go_wp2
        go_ret
        exact ⟨rfl, HB2.out.trans (HB.out.mono HB2.out.size)⟩

end Go.Proofs.Ytahfaddldnfngaa
