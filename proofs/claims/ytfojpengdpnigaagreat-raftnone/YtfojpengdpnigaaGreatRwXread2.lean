/- The reference's Reader: I, Text, Val, End. -/
import Derived.Test.YtfojpengdpnigaaGreatRwXread
namespace Go.Proofs.YtfojpengdpnigaaGreat
open Go.RowKit NumMath
set_option linter.unusedVariables false

theorem SrcB.conv {w : World} {a : Option Addr} {len cap : Nat} {xs : List Int} (h : SrcB w a len xs) : (convert 26 9 (.slice a len cap)).run Tryz.prog w = .ok (.string (strB xs)) w := by
  obtain ⟨h1, h5⟩ := h
  rcases h5 with h5 | ⟨g, off, rfl, hg, hB⟩
  · subst h5
    have : xs = [] := List.length_eq_zero_iff.1 h1
    subst this
    exact conv_none w a cap
  · exact run_convert_bytes_arg w 26 5 Tryz.underlying26 Tryz.underlying5 g off len cap xs h1 (fun i hi => hB i (by omega)) 9 Tryz.underlying9

theorem zag_odd (n : Int) (h : n % 2 = 1) : zagV n = -(n / 2) - 1 := by unfold zagV; rw [if_neg (by omega)]; omega
theorem zag_even (n : Int) (h : ¬ n % 2 = 1) : zagV n = n / 2 := by unfold zagV; rw [if_pos (by omega)]

theorem xend_any (p q : Nat) (st : Option (List Int)) (w : World) (h : IsR false w p q st) :
    Calls Tryz.prog 164 #[.pointer (some ⟨p, 0, none⟩)] w fun e w' => e = .returned (.int .i64 (rdEnd st)) ∧ w' = w := by
  have hf := h.flag
  obtain ⟨f0, f1, -, a, len, cap, hc, -, hs⟩ := h
  cases st with
  | none =>
    simp only [Option.isSome_none, Bool.false_eq_true, if_false, Bool.not_false] at hf
    clear hs
    go_enter Tryz.func164, Tryz.ntmps164
    go_wp2
    go_ret
    exact ⟨rfl, rfl⟩
  | some xs =>
    simp only [Option.isSome_some, if_true] at hf
    have hl := hs.2.1
    clear hs
    cases xs with
    | nil =>
      have h0 : len = 0 := hl.symm
      subst h0
      go_enter Tryz.func164, Tryz.ntmps164
      go_wp2
      go_ret
      exact ⟨rfl, rfl⟩
    | cons c r =>
      have h0 : 0 < len := by rw [← hl]; simp
      clear hl
      go_enter Tryz.func164, Tryz.ntmps164
      go_wp2
      go_ret
      exact ⟨rfl, rfl⟩

/-- a text that the reference told: bytes of the block q -/
def TextPost (w : World) (p q : Nat) (r : List Int × Option (List Int)) (e : Ending) (w' : World) : Prop :=
  ∃ a n c, e = .returned (.slice a n c) ∧ SrcB w' a n r.1 ∧ (n ≠ 0 → ∀ x, a = some x → x.block = q ∧ q ≠ p) ∧ RPost false w p q r.2 w' ∧ n ≤ c ∧ c ≤ maxLen

end Go.Proofs.YtfojpengdpnigaaGreat
