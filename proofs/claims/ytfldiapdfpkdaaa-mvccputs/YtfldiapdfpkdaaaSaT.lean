/- Lists of texts held against each other: SameTexts. -/
import Derived.Test.YtfldiapdfpkdaaaTxA
import Derived.Test.YtfldiapdfpkdaaaByC
namespace Go.Proofs.Ytfldiapdfpkdaaa
open Go.RowKit NumMath
set_option linter.unusedVariables false
set_option maxRecDepth 100000

theorem same_step (xs ys : List (List Int)) (k : Nat) (hl : xs.length = ys.length) (hk : k < xs.length) (h : xs.take k = ys.take k) : xs.take (k + 1) = ys.take (k + 1) ↔ xs.getD k [] = ys.getD k [] := by
  have hk' : k < ys.length := by omega
  have e1 : xs.getD k [] = xs[k] := by simp [List.getD, List.getElem?_eq_getElem hk]
  have e2 : ys.getD k [] = ys[k] := by simp [List.getD, List.getElem?_eq_getElem hk']
  rw [List.take_succ_eq_append_getElem hk, List.take_succ_eq_append_getElem hk', h, e1, e2]
  exact ⟨fun e => List.head_eq_of_cons_eq (List.append_cancel_left e), fun e => by rw [e]⟩

set_option maxHeartbeats 2000000 in
theorem sameT_any (a : Option Addr) (la ca : Nat) (xs : List (List Int)) (b : Option Addr) (lb cb : Nat) (ys : List (List Int)) (w : World) (h : IsTexts w a la ca xs) (h' : IsTexts w b lb cb ys) :
    Calls Try.prog 16 #[.slice a la ca, .slice b lb cb] w fun e w' => e = .returned (.bool (decide (xs = ys))) ∧ Below w.heap.size w w' := by
  have HV := hide h
  have HW := hide h'
  obtain ⟨hl, hlc, hm, -⟩ := h
  obtain ⟨hl', hlc', hm', -⟩ := h'
  unfold maxLen at hm hm'
  by_cases hab : la = lb
  · subst hab
    have HL : Hid (xs.length = la) := hl
    have HL' : Hid (ys.length = la) := hl'
    clear hl hl'
    go_enter Try.func16, Try.ntmps16
    go_wp2
    go_loopw [13] (fun i wr => ∃ k : Nat, k ≤ la ∧ i = .int .i64 k ∧ xs.take k = ys.take k ∧ Below w.heap.size w wr) (fun i _ => la - (intOf i).toNat)
    case atStart => exact ⟨0, Nat.zero_le _, rfl, rfl, Below.refl _ _⟩
    case round =>
      obtain ⟨k, hk, rfl, hs, hb⟩ := hrel
      have hsz := hb.size
      have HSt := hide hs
      clear hs
      by_cases hlt : k < la
      · have HE := hide (same_step xs ys k (HL.out.trans HL'.out.symm) (by rw [HL.out]; exact hlt) HSt.out)
        obtain ⟨g, off, b1, n1, c1, rfl, hg, hc, hI⟩ := (HV.out.keep hb).at hlt
        obtain ⟨g', off', b2, n2, c2, rfl, hg', hc', hI'⟩ := (HW.out.keep hb).at hlt
        have hq := strB_eq _ _ hI.2.2.2.1 hI'.2.2.2.1
        have q1 := (hI.keep (Below.refl _ wr).drew).conv
        have q2 := (hI'.keep (Below.refl _ wr).drew).conv
        have hne : xs = ys → xs.getD k [] = ys.getD k [] := fun e => by rw [e]
        have HNE := hide hne
        clear hI hI' hne
        generalize xs.getD k [] = x at *
        generalize ys.getD k [] = y at *
        by_cases hxy : x = y
        · have hxd : decide (x = y) = true := decide_eq_true hxy
          rw [hxd] at hq
          clear hxd
          go_wp2
          go_region
          all_goals
            go_wp2
            go_roundw
            case rel => exact ⟨k + 1, by omega, by go_num, HE.out.2 hxy, hb.drew⟩
            case measure => simp [intOf]; omega
        · have hxd : decide (x = y) = false := decide_eq_false hxy
          rw [hxd] at hq
          clear hxd
          have HF : Hid (decide (xs = ys) = false) := decide_eq_false (fun e => hxy (HNE.out e))
          go_wp2
          go_region
          all_goals
            go_wp2
            go_ret
            exact ⟨retB HF.out.symm, hb.drew⟩
      · have hkl : k = la := by omega
        subst hkl
        have HF : Hid (decide (xs = ys) = true) := decide_eq_true (by
          have e := HSt.out
          rw [List.take_of_length_le (by rw [HL.out]; exact Nat.le_refl _), List.take_of_length_le (by rw [HL'.out]; exact Nat.le_refl _)] at e
          exact e)
        go_wp2
        go_ret
        exact ⟨retB HF.out.symm, hb⟩
  · have HF : Hid (decide (xs = ys) = false) := decide_eq_false (fun e => hab (by rw [← hl, ← hl', e]))
    have hab' : ((la : Int) == (lb : Int)) = false := by simp; omega
    clear hl hl'
    go_enter Try.func16, Try.ntmps16
    go_wp2
    go_ret
    exact ⟨retB HF.out.symm, Below.refl _ _⟩

theorem sameT_self (a : Option Addr) (la ca : Nat) (xs : List (List Int)) (b : Option Addr) (lb cb : Nat) (w : World) (h : IsTexts w a la ca xs) (h' : IsTexts w b lb cb xs) :
    Calls Try.prog 16 #[.slice a la ca, .slice b lb cb] w fun e w' => e = .returned (.bool true) ∧ Below w.heap.size w w' := by
  have h := sameT_any a la ca xs b lb cb xs w h h'
  rw [decide_eq_true (rfl : xs = xs)] at h
  exact h

end Go.Proofs.Ytfldiapdfpkdaaa
