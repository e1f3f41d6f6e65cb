/- Whether entries and snapshots are small (the law's own test). -/
import Derived.Test.YtodmieehdleohaaEnts2
namespace Go.Proofs.Ytodmieehdleohaa
open Go.RowKit NumMath
set_option linter.unusedVariables false
set_option maxRecDepth 100000

/-- the answer b says whether P holds -/
def Tells (b : Bool) (P : Prop) : Prop := b = true ↔ P

theorem tells_no {P : Prop} (h : ¬ P) : Tells false P := ⟨fun h => (by cases h), fun x => absurd x h⟩
theorem tells_yes {P : Prop} (h : P) : Tells true P := ⟨fun _ => h, fun _ => rfl⟩

def SmallM (len : Nat) (ms : List MEnt) : Prop := len ≤ 12 ∧ ∀ m ∈ ms, m.n ≤ 100

set_option maxHeartbeats 1000000 in
theorem small_any (X : Nat → Prop) (a : Option Addr) (len cap : Nat) (ms : List MEnt) (w : World) (h : IsMs X w a len cap ms) :
    Calls Try.prog 7 #[.slice a len cap] w fun e w' => ∃ b, e = .returned (.bool b) ∧ Tells b (SmallM len ms) ∧ Below w.heap.size w w' := by
  have H := hide h
  have hlen := h.1
  have hm1 : (len : Int) ≤ 9223372036854775807 := by have := h.2.1; have := h.2.2.1; unfold maxLen at this; omega
  clear h
  go_enter Try.func7, Try.ntmps7
  go_wp2
  go_loopw [7] (fun i wr => ∃ k : Nat, k ≤ len ∧ i = .int .i64 k ∧ (∀ j, j < k → (ms.getD j ment0).n ≤ 100) ∧ Below w.heap.size w wr) (fun i _ => len - (intOf i).toNat)
  case atStart => exact ⟨0, Nat.zero_le _, rfl, by intro j hj; omega, Below.refl _ _⟩
  case round =>
    obtain ⟨k, hk, rfl, hdone, hb⟩ := hrel
    have HDn := hide hdone
    clear hdone
    by_cases hlt : k < len
    · obtain ⟨g, off, rfl, hg, hC⟩ := H.out.at hlt
      obtain ⟨q0, q1, q2, q3⟩ := (hC k (by omega)).same (hb.block g hg)
      have HMem := hide (ment_mem ms k (by omega))
      generalize hm : ms.getD k ment0 = m at *
      have HM := hide hm
      clear hm hC
      obtain ⟨⟨mi, mt, mk, md⟩, mb, mn, mc⟩ := m
      dsimp only at q0 q1 q2 q3
      by_cases hgt : 100 < (mn : Int)
      · have hgt' : 100 < mn := by omega
        go_wp2
        go_ret
        exact ⟨false, rfl, tells_no (fun h => by have := h.2 _ HMem.out; dsimp only at this; omega), hb.trans ((new_below _ _).mono hb.size)⟩
      · have hgt' : mn ≤ 100 := by omega
        go_wp2
        go_roundw
        case rel => exact ⟨k + 1, by omega, by go_num, fun j hj => (by by_cases hjk : j = k; (subst hjk; rw [HM.out]; exact hgt'); exact HDn.out j (by omega)), hb.trans ((new_below _ _).mono hb.size)⟩
        case measure => simp [intOf]; omega
    · have hkl : k = len := by omega
      subst hkl
      have HAll : Hid (∀ m ∈ ms, m.n ≤ 100) := all_of_getD ms (fun j hj => HDn.out j (by omega))
      by_cases hs : k ≤ 12
      · have hs' : (k : Int) ≤ 12 := by omega
        go_wp2
        go_ret
        first | exact ⟨true, rfl, tells_yes ⟨hs, HAll.out⟩, hb⟩ | exact .inr ⟨rfl, tells_yes ⟨hs, HAll.out⟩, hb⟩
      · have hs' : ¬ (k : Int) ≤ 12 := by omega
        go_wp2
        go_ret
        exact .inl ⟨rfl, tells_no (fun h => hs h.1), hb⟩

theorem small_yes (X : Nat → Prop) (a : Option Addr) (len cap : Nat) (ms : List MEnt) (w : World) (h : IsMs X w a len cap ms) (hS : SmallM len ms) :
    Calls Try.prog 7 #[.slice a len cap] w fun e w' => e = .returned (.bool true) ∧ Below w.heap.size w w' := by
  refine (small_any X a len cap ms w h).mono ?_
  rintro e w' ⟨b, rfl, ht, hb⟩
  have : b = true := ht.2 hS
  subst this
  exact ⟨rfl, hb⟩

theorem small_no (X : Nat → Prop) (a : Option Addr) (len cap : Nat) (ms : List MEnt) (w : World) (h : IsMs X w a len cap ms) (hS : ¬ SmallM len ms) :
    Calls Try.prog 7 #[.slice a len cap] w fun e w' => e = .returned (.bool false) ∧ Below w.heap.size w w' := by
  refine (small_any X a len cap ms w h).mono ?_
  rintro e w' ⟨b, rfl, ht, hb⟩
  have hb' : b = false := by
    cases b with
    | false => rfl
    | true => exact absurd (ht.1 rfl) hS
  subst hb'
  exact ⟨rfl, hb⟩

theorem smallS_yes (i t : Int) (ma : Option Addr) (mn mc : Nat) (da : Option Addr) (dn dc : Nat) (w : World) (h1 : (mn : Int) ≤ 9) (h2 : (dn : Int) ≤ 200) :
    Calls Try.prog 8 #[.agg #[.int .u64 i, .int .u64 t, .slice ma mn mc, .slice da dn dc]] w fun e w' => e = .returned (.bool true) ∧ Below w.heap.size w w' := by
  go_enter Try.func8, Try.ntmps8
  go_wp2
  go_ret
  exact ⟨rfl, new_below _ _⟩

theorem smallS_no (i t : Int) (ma : Option Addr) (mn mc : Nat) (da : Option Addr) (dn dc : Nat) (w : World) (h1 : ¬ ((mn : Int) ≤ 9 ∧ (dn : Int) ≤ 200)) :
    Calls Try.prog 8 #[.agg #[.int .u64 i, .int .u64 t, .slice ma mn mc, .slice da dn dc]] w fun e w' => e = .returned (.bool false) ∧ Below w.heap.size w w' := by
  by_cases g : (mn : Int) ≤ 9
  · have g2 : ¬ (dn : Int) ≤ 200 := fun h => h1 ⟨g, h⟩
    clear h1
    go_enter Try.func8, Try.ntmps8
    go_wp2
    go_ret
    exact ⟨rfl, new_below _ _⟩
  · clear h1
    go_enter Try.func8, Try.ntmps8
    go_wp2
    go_ret
    exact ⟨rfl, new_below _ _⟩

end Go.Proofs.Ytodmieehdleohaa
