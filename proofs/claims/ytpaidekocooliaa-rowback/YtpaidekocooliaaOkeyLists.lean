/- Slices of values that lie in memory; Few; okey.Cmp and the reference's Cmp of any two of them. -/
import Derived.Test.YtpaidekocooliaaOkeyVals
import Derived.Handy
import Derived.Test.YtpaidekocooliaaNumSlices
import Derived.Deep.RegionWith
namespace Go.Proofs.Ytpaidekocooliaa
open Go.RowKit NumMath
set_option linter.unusedVariables false

def val0 : Val := ⟨0, 0, ByteArray.empty⟩

/-- the cells of block g, from off on, hold the values xs, three cells each -/
def CellsV (w : World) (g off : Nat) (xs : List Val) : Prop := ∀ i, i < xs.length →
  w.cell? ⟨g, off + i * 3, none⟩ = some (.int .i64 (xs.getD i val0).k) ∧ w.cell? ⟨g, off + i * 3 + 1, none⟩ = some (.int .i64 (xs.getD i val0).n) ∧ w.cell? ⟨g, off + i * 3 + 2, none⟩ = some (.string (xs.getD i val0).s)

theorem CellsV.below {w w' : World} {B g off : Nat} {xs : List Val} (h : CellsV w g off xs) (hb : Below B w w') (hg : g < B) : CellsV w' g off xs :=
  fun i hi => ⟨(hb.cell (p := ⟨g, _, none⟩) hg).trans (h i hi).1, (hb.cell (p := ⟨g, _, none⟩) hg).trans (h i hi).2.1, (hb.cell (p := ⟨g, _, none⟩) hg).trans (h i hi).2.2⟩

/-- what a slice of values that came in is: of no element; or its elements lie in a block that is there -/
def IsVals (w : World) (a : Option Addr) (len cap : Nat) (xs : List Val) : Prop :=
  xs.length = len ∧ len ≤ cap ∧ cap ≤ maxLen ∧ (∀ v ∈ xs, v.fits) ∧ (len = 0 ∨ ∃ g off, a = some ⟨g, off, none⟩ ∧ g < w.heap.size ∧ CellsV w g off xs)

theorem IsVals.keep {w w' : World} {a : Option Addr} {len cap : Nat} {xs : List Val} (h : IsVals w a len cap xs) (hb : Below w.heap.size w w') : IsVals w' a len cap xs := by
  obtain ⟨h1, h2, h3, h4, h5⟩ := h
  refine ⟨h1, h2, h3, h4, ?_⟩
  rcases h5 with h5 | ⟨g, off, ha, hg, hc⟩
  · exact .inl h5
  · exact .inr ⟨g, off, ha, Nat.lt_of_lt_of_le hg hb.size, hc.below hb hg⟩

theorem IsVals.at {w : World} {a : Option Addr} {len cap : Nat} {xs : List Val} (h : IsVals w a len cap xs) {k : Nat} (hk : k < len) : ∃ g off, a = some ⟨g, off, none⟩ ∧ g < w.heap.size ∧ CellsV w g off xs := by
  obtain ⟨h1, h2, h3, h4, h5⟩ := h
  rcases h5 with h5 | h5
  · omega
  · exact h5

theorem CellsV.row {w : World} {g off : Nat} {xs : List Val} (h : CellsV w g off xs) {k : Nat} (hk : k < xs.length) : ∃ v : Val, xs.getD k val0 = v ∧
  w.cell? ⟨g, off + k * 3, none⟩ = some (.int .i64 v.k) ∧ w.cell? ⟨g, off + k * 3 + 1, none⟩ = some (.int .i64 v.n) ∧ w.cell? ⟨g, off + k * 3 + 2, none⟩ = some (.string v.s) :=
  ⟨_, rfl, (h k hk).1, (h k hk).2.1, (h k hk).2.2⟩

/-- few: as the law's Few asks -/
def fewB (xs : List Val) : Bool := xs.all (fun v => decide (v.s.size ≤ 100)) && decide (xs.length ≤ 20)

theorem all_take {p : Val → Bool} (xs : List Val) (k : Nat) (h : k < xs.length) : (xs.take (k + 1)).all p = ((xs.take k).all p && p (xs.getD k val0)) := by
  rw [List.take_add_one, List.all_append]
  simp [List.getD, List.getElem?_eq_getElem h]

theorem few_not (xs : List Val) (k : Nat) (h : k < xs.length) (hs : 100 < (xs.getD k val0).s.size) : fewB xs = false := by
  unfold fewB
  have : xs.all (fun v => decide (v.s.size ≤ 100)) = false := by
    rw [List.all_eq_false]
    refine ⟨xs[k], List.getElem_mem h, ?_⟩
    have : xs.getD k val0 = xs[k] := by simp [List.getD, List.getElem?_eq_getElem h]
    rw [this] at hs
    simp
    omega
  rw [this]; rfl

set_option maxHeartbeats 400000 in
theorem few_any (a : Option Addr) (len cap : Nat) (xs : List Val) (w : World) (h : IsVals w a len cap xs) :
    Calls Try.prog 25 #[.slice a len cap] w fun e w' => e = .returned (.bool (fewB xs)) ∧ Below w.heap.size w w' := by
  have HV := hide h
  obtain ⟨hl, hlc, hm, _, _⟩ := h
  unfold maxLen at hm
  have HL : Hid (xs.length = len) := hl
  clear hl
  go_enter Try.func25, Try.ntmps25
  go_wp2
  go_loopw [7] (fun i wr => ∃ k : Nat, k ≤ len ∧ i = .int .i64 k ∧ Below w.heap.size w wr ∧ (xs.take k).all (fun v => decide (v.s.size ≤ 100)) = true) (fun i _ => len - (intOf i).toNat)
  case atStart => exact ⟨0, Nat.zero_le _, rfl, Below.refl _ _, by simp⟩
  case round =>
    obtain ⟨k, hk, rfl, hb, hall⟩ := hrel
    have HA := hide hall
    clear hall
    have hsz := hb.size
    by_cases hlt : k < len
    · obtain ⟨g, off, rfl, hg, hc⟩ := HV.out.at hlt
      have hk' : k < xs.length := by rw [HL.out]; exact hlt
      obtain ⟨⟨vk, vn, vs⟩, hv, c0, c1, c2⟩ := (hc.below hb hg).row hk'
      have HT := hide (all_take (p := fun v => decide (v.s.size ≤ 100)) xs k hk')
      have HN := hide (few_not xs k hk')
      rw [hv] at HT HN
      clear hv hk' hc
      dsimp only at *
      by_cases h100 : (100 : Int) < (vs.size : Int)
      · go_wp2
        go_ret
        rw [HN.out (by omega)]
        exact ⟨rfl, (hb.alloc hsz _)⟩
      · go_wp2
        go_roundw
        case rel => exact ⟨k + 1, by omega, by go_num, hb.alloc hsz _, by rw [HT.out, HA.out]; simp; omega⟩
        case measure => simp [intOf]; omega
    · have hkl : k = len := by omega
      subst hkl
      go_wp2
      go_ret
      refine ⟨?_, hb⟩
      rw [List.take_of_length_le (by rw [HL.out]; exact Nat.le_refl _)] at HA
      unfold fewB
      rw [HA.out, HL.out]
      simp
      omega

end Go.Proofs.Ytpaidekocooliaa
