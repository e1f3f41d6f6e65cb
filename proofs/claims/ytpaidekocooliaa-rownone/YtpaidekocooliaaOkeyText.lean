/- okey.appendText: a text behind what was gathered, with its mark and its end. -/
import Derived.Test.YtpaidekocooliaaOkeyBytes
import Derived.Test.YtpaidekocooliaaOkeyVals
namespace Go.Proofs.Ytpaidekocooliaa
open Go.RowKit NumMath
set_option linter.unusedVariables false

/-- a byte of a text, kept -/
def esc (c : Int) : List Int := if c = 0 then [0, 255] else [c]

/-- a text's bytes as numbers -/
def sb (s : ByteArray) : List Int := s.data.toList.map (fun c => (c.toNat : Int))

def textL (s : ByteArray) : List Int := (sb s).flatMap esc

theorem sb_length (s : ByteArray) : (sb s).length = s.size := by unfold sb; rw [List.length_map]; rfl

theorem take_esc (s : ByteArray) (k : Nat) (h : k < s.size) : ((sb s).take (k + 1)).flatMap esc = ((sb s).take k).flatMap esc ++ esc ((s[k]'h).toNat : Int) := by
  rw [List.take_add_one, List.flatMap_append]
  congr 1
  have h' : k < (sb s).length := by rw [sb_length]; exact h
  rw [List.getElem?_eq_getElem h']
  simp [sb, ByteArray.getElem_eq_getElem_data]

theorem esc_length (xs : List Int) : (xs.flatMap esc).length ≤ 2 * xs.length := by
  have e : ∀ c, (esc c).length ≤ 2 := fun c => by unfold esc; split <;> simp
  have key : ∀ ys : List Int, (ys.flatMap esc).length ≤ 2 * ys.length := by
    intro ys
    induction ys with
    | nil => simp
    | cons c r ih => rw [List.flatMap_cons, List.length_append, List.length_cons]; have := e c; omega
  exact key xs

theorem esc_zero : esc 0 = [0, 255] := rfl
theorem esc_other {c : Int} (h : ¬ c = 0) : esc c = [c] := by unfold esc; rw [if_neg h]

end Go.Proofs.Ytpaidekocooliaa
