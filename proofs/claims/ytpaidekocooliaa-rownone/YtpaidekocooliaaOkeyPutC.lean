/- okey.Put of any list of values that lies in memory, in memory of the call's own. -/
import Derived.Test.YtpaidekocooliaaOkeyText
import Derived.Test.YtpaidekocooliaaOkeyLists
namespace Go.Proofs.Ytpaidekocooliaa
open Go.RowKit NumMath
set_option linter.unusedVariables false

/-- a value's bytes; a list's -/
def keyV (v : Val) : List Int := if v.k = 2 then 3 :: textL v.s ++ [0, 1] else if v.k = 1 then 2 :: putL (flipV v.n) 8 else [1]
def keyL (xs : List Val) : List Int := xs.flatMap keyV

theorem keyL_take (xs : List Val) (k : Nat) (h : k < xs.length) : keyL (xs.take (k + 1)) = keyL (xs.take k) ++ keyV (xs.getD k val0) := by
  unfold keyL
  rw [List.take_add_one, List.flatMap_append]
  simp [List.getD, List.getElem?_eq_getElem h]

theorem keyL_part (xs : List Val) (k : Nat) : (keyL (xs.take k)).length ≤ (keyL xs).length := by
  have h : keyL xs = keyL (xs.take k) ++ keyL (xs.drop k) := by
    unfold keyL
    rw [← List.flatMap_append, List.take_append_drop]
  rw [h, List.length_append]
  omega

theorem esc_longer (xs : List Int) : xs.length ≤ (xs.flatMap esc).length := by
  have e : ∀ c, 1 ≤ (esc c).length := fun c => by unfold esc; split <;> simp
  have key : ∀ ys : List Int, ys.length ≤ (ys.flatMap esc).length := by
    intro ys
    induction ys with
    | nil => simp
    | cons c r ih => rw [List.flatMap_cons, List.length_append, List.length_cons]; have := e c; omega
  exact key xs

theorem text_longer (s : ByteArray) : s.size ≤ (textL s).length := by
  have := esc_longer (sb s)
  rw [sb_length] at this
  exact this

theorem keyV_text {v : Val} (h : v.k = 2) : keyV v = 3 :: textL v.s ++ [0, 1] := by unfold keyV; rw [if_pos h]
theorem keyV_int {v : Val} (h : v.k = 1) : keyV v = 2 :: putL (flipV v.n) 8 := by unfold keyV; rw [if_neg (by omega), if_pos h]
theorem keyV_null {v : Val} (h2 : ¬ v.k = 2) (h1 : ¬ v.k = 1) : keyV v = [1] := by unfold keyV; rw [if_neg h2, if_neg h1]

theorem getD_mem (xs : List Val) (k : Nat) (h : k < xs.length) : xs.getD k val0 ∈ xs := by
  have : xs.getD k val0 = xs[k] := by simp [List.getD, List.getElem?_eq_getElem h]
  rw [this]; exact List.getElem_mem h

theorem own_box {w w' : World} {base b : Nat} {v : Value} {bs : List Int} (h : OwnB w base v bs) (hg : w.grownBy w' v.ownBlock) {i : Nat} {u : Value} (hv : ∀ k, v.ownBlock = some k → k < b) (hc : w.cell? ⟨b, i, none⟩ = some u) : w'.cell? ⟨b, i, none⟩ = some u :=
  hg.cell hc (fun hx => absurd (hv b hx.symm) (Nat.lt_irrefl _))

end Go.Proofs.Ytpaidekocooliaa
