/- A slice of bytes as a string; how long the key of few values is. -/
import Derived.Test.YtpaidekocooliaaOkeyMath
import Derived.Test.YtpaidekocooliaaOkeyNextC
import Derived.Test.YtpaidekocooliaaOkeyOwnV
namespace Go.Proofs.Ytpaidekocooliaa
open Go.RowKit NumMath
set_option linter.unusedVariables false

theorem OwnV.at {w : World} {base : Nat} {v : Value} {xs : List Val} (h : OwnV w base v xs) (hf : ∀ x ∈ xs, x.fits) : ∃ a n cap, v = .slice a n cap ∧ IsVals w a n cap xs := by
  obtain ⟨a, cap, e, hi⟩ := h.is hf
  exact ⟨a, _, cap, e, hi⟩

theorem OwnB.at {w : World} {base : Nat} {v : Value} {bs : List Int} (h : OwnB w base v bs) (hr : ∀ c ∈ bs, 0 ≤ c ∧ c < 256) : ∃ a n cap, v = .slice a n cap ∧ IsBytes w a n cap bs := by
  obtain ⟨a, cap, e, hi⟩ := h.is hr
  exact ⟨a, _, cap, e, hi⟩

theorem conv_none (w : World) (a : Option Addr) (cap : Nat) : (convert 25 9 (.slice a 0 cap)).run Try.prog w = .ok (.string ByteArray.empty) w := by
  cases a with
  | none => exact run_convert_bytes_nil w 25 5 Try.underlying25 Try.underlying5 0 cap 9 Try.underlying9
  | some x =>
    rw [run_convert_bytes_string w 25 9 5 (some x) 0 cap Try.underlying25 Try.underlying5 Try.underlying9]
    simp [Conv.bytesToString, loadCells, loadCellsFrom]

theorem IsBytes.conv {w : World} {a : Option Addr} {len cap : Nat} {xs : List Int} (h : IsBytes w a len cap xs) : (convert 25 9 (.slice a len cap)).run Try.prog w = .ok (.string (strB xs)) w := by
  obtain ⟨h1, h2, h3, h4, h5⟩ := h
  rcases h5 with h5 | ⟨g, off, rfl, hg, hB⟩
  · subst h5
    have : xs = [] := List.length_eq_zero_iff.1 h1
    subst this
    exact conv_none w a cap
  · exact run_convert_bytes_arg w 25 5 Try.underlying25 Try.underlying5 g off len cap xs h1 (fun i hi => hB i (by omega)) 9 Try.underlying9

theorem few_size {xs : List Val} (h : fewB xs = true) : (∀ v ∈ xs, v.s.size ≤ 100) ∧ xs.length ≤ 20 := by
  unfold fewB at h
  rw [Bool.and_eq_true, List.all_eq_true] at h
  exact ⟨fun v hv => of_decide_eq_true (h.1 v hv), of_decide_eq_true h.2⟩

theorem key_few (v : Val) (h : v.s.size ≤ 100) : (keyV v).length ≤ 203 := by
  unfold keyV
  split
  · have := esc_length (sb v.s)
    rw [sb_length] at this
    rw [List.length_append, List.length_cons]
    unfold textL
    simp only [List.length_cons, List.length_nil]
    omega
  · split
    · rw [List.length_cons, putL_length]; omega
    · simp

theorem keys_few : ∀ (xs : List Val), (∀ v ∈ xs, v.s.size ≤ 100) → (keyL xs).length ≤ 203 * xs.length := by
  intro xs
  induction xs with
  | nil => intro _; exact Nat.le_refl _
  | cons v r ih =>
    intro h
    rw [keyL_cons, List.length_append, List.length_cons]
    have h1 := key_few v (h v List.mem_cons_self)
    have h2 := ih (fun x hx => h x (List.mem_cons_of_mem _ hx))
    omega

theorem few_key {xs : List Val} (h : fewB xs = true) : (keyL xs).length ≤ 5000 := by
  obtain ⟨h1, h2⟩ := few_size h
  have := keys_few xs h1
  omega

theorem plains_few {xs : List Val} (h : fewB xs = true) : (keyL (xs.map plainV)).length ≤ 5000 := by rw [keyL_plain]; exact few_key h

theorem plains_plain (xs : List Val) (h : ∀ v ∈ xs, v.fits) : ∀ v ∈ xs.map plainV, Plain v := by
  intro v hv
  obtain ⟨u, hu, rfl⟩ := List.mem_map.1 hv
  exact plainV_plain u (h u hu)

theorem IsVals.fits {w : World} {a : Option Addr} {len cap : Nat} {xs : List Val} (h : IsVals w a len cap xs) : ∀ v ∈ xs, v.fits := h.2.2.2.1

end Go.Proofs.Ytpaidekocooliaa
