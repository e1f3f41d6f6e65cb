/- num.Put and the reference's Put, for any size, as a slice that holds bytes; the string of such a slice. -/
import Derived.Test.YtfihjhcjkgpgfaaNumKit
import Derived.Test.YtfihjhcjkgpgfaaNumRput
import Derived.Test.YtfihjhcjkgpgfaaNumOf
import Derived.Test.YtfihjhcjkgpgfaaNumFits
namespace Go.Proofs.Ytfihjhcjkgpgfaa
open Go.RowKit NumMath
set_option linter.unusedVariables false

theorem below_undrew {w w1 : World} (h : Below w.drew.heap.size w.drew w1) : Below w.heap.size w w1 := ⟨h.os, h.tape, h.output, h.size, h.block⟩

/-- in the world w the slice v holds the bytes xs -/
def HoldsB (w : World) (v : Value) (xs : List Int) : Prop :=
  (v = .slice none 0 0 ∧ xs = []) ∨ ∃ g n cap, v = .slice (some ⟨g, 0, none⟩) n cap ∧ xs.length = n ∧ n ≤ cap ∧ cap ≤ maxLen ∧ g < w.heap.size ∧ Bytes w g xs

theorem HoldsB.keep {w w' : World} {v : Value} {xs : List Int} (h : HoldsB w v xs) (hb : Below w.heap.size w w') : HoldsB w' v xs := by
  rcases h with h | ⟨g, n, cap, hv, hl, hc, hm, hg, hB⟩
  · exact .inl h
  · exact .inr ⟨g, n, cap, hv, hl, hc, hm, Nat.lt_of_lt_of_le hg hb.size, hB.below hb hg⟩

theorem HoldsB.conv {w : World} {v : Value} {xs : List Int} (h : HoldsB w v xs) : (convert 31 9 v).run Try.prog w = .ok (.string (strB xs)) w := by
  rcases h with ⟨rfl, rfl⟩ | ⟨g, n, cap, rfl, hl, hc, hm, hg, hB⟩
  · exact run_convert_bytes_nil w 31 5 Try.underlying31 Try.underlying5 0 0 9 Try.underlying9
  · exact conv_bytes w g n cap xs hl hB

def putAns (u size : Int) : List Int := if size < 0 ∨ 8 < size then [] else putL u size.toNat

theorem bytes_of_owns {w : World} {B g n cap : Nat} {xs : List Int} (h : w.ownsRow B 5 1 (.slice (some ⟨g, 0, none⟩) n cap) n (xs.map (Value.int .u8))) : Bytes w g xs := by
  intro i hi
  have h1 := h.cells (g := g) rfl i (.int .u8 (xs.getD i 0)) (by simp [List.getD, List.getElem?_eq_getElem hi])
  have h2 : (⟨g, 0, none⟩ : Addr).add i = ⟨g, i, none⟩ := by unfold Addr.add; split <;> simp_all
  rw [h2] at h1
  exact h1

theorem put_all (u size : Int) (w : World) (h1 : 0 ≤ u) (h2 : u ≤ 18446744073709551615) :
    Calls Try.prog 30 #[.int .u64 u, .int .i64 size] w fun e w' => ∃ v, e = .returned v ∧ HoldsB w' v (putAns u size) ∧ Below w.heap.size w w' := by
  by_cases h : size < 0 ∨ 8 < size
  · unfold putAns
    rw [if_pos h]
    refine (put_none u size w h).mono ?_
    rintro e w' ⟨rfl, rfl⟩
    exact ⟨_, rfl, .inl ⟨rfl, rfl⟩, Below.refl _ _⟩
  · unfold putAns
    rw [if_neg h]
    obtain ⟨n, rfl⟩ : ∃ n : Nat, size = (n : Int) := ⟨size.toNat, by omega⟩
    rw [Int.toNat_natCast]
    refine (put_new u n w h1 h2 (by omega)).mono ?_
    rintro e w' ⟨g, rfl, hg1, hg2, hB, hb, hG⟩
    exact ⟨_, rfl, .inr ⟨g, n, n, rfl, putL_length _ _, Nat.le_refl _, by unfold maxLen; omega, hg2, hB⟩, hb⟩

theorem rput_none (u size : Int) (w : World) (h : size < 0 ∨ 8 < size) :
    Calls Try.prog 32 #[.int .u64 u, .int .i64 size] w fun e w' => e = .returned (.slice none 0 0) ∧ w' = w := by
  rcases h with h | h
  · go_enter Try.func32, Try.ntmps32
    go_wp2
    go_ret
    exact ⟨rfl, rfl⟩
  · have h' : ¬ size < 0 := by omega
    go_enter Try.func32, Try.ntmps32
    go_wp2
    go_ret
    exact ⟨rfl, rfl⟩

theorem rput_all (u size : Int) (w : World) (h1 : 0 ≤ u) (h2 : u ≤ 18446744073709551615) :
    Calls Try.prog 32 #[.int .u64 u, .int .i64 size] w fun e w' => ∃ v, e = .returned v ∧ HoldsB w' v (putAns u size) ∧ Below w.heap.size w w' := by
  by_cases h : size < 0 ∨ 8 < size
  · unfold putAns
    rw [if_pos h]
    refine (rput_none u size w h).mono ?_
    rintro e w' ⟨rfl, rfl⟩
    exact ⟨_, rfl, .inl ⟨rfl, rfl⟩, Below.refl _ _⟩
  · unfold putAns
    rw [if_neg h]
    obtain ⟨n, rfl⟩ : ∃ n : Nat, size = (n : Int) := ⟨size.toNat, by omega⟩
    rw [Int.toNat_natCast]
    refine (rput_any u n w h1 h2 (by omega)).mono ?_
    rintro e w' ⟨v, rfl, hown, hb, hnil⟩
    refine ⟨_, rfl, ?_, hb⟩
    by_cases n0 : n = 0
    · exact .inl ⟨hnil n0, by rw [n0]; rfl⟩
    · rcases hown.2 with ⟨_, h0⟩ | ⟨g, cap, cur, rfl, hg, hh, hn, hm, _, _⟩
      · omega
      · refine .inr ⟨g, n, cap, rfl, putL_length _ _, hn, hm, ?_, bytes_of_owns hown⟩
        exact (hown.lt g rfl).2

end Go.Proofs.Ytfihjhcjkgpgfaa
