/- What was written is read again: in plain lists. -/
import Derived.Test.YtpaidekocooliaaRowBoth
import Derived.Test.YtpaidekocooliaaRowWrote
namespace Go.Proofs.Ytpaidekocooliaa
open Go.RowKit NumMath
set_option linter.unusedVariables false

theorem rd_num (n most : Int) (t : List Int) (h1 : 0 ≤ n) (h2 : n ≤ 18446744073709551615) (h3 : n ≤ most) : rdN most (some (numL n ++ t)) = (n, some t) := by
  have h : numAt (numL n ++ t) = some (n.toNat, t) := scan_num n.toNat t (by omega)
  rw [rdN_fit most _ _ _ h (by omega)]
  have : ((n.toNat : Nat) : Int) = n := by omega
  rw [this]

theorem rd_int (i : Int) (t : List Int) (h1 : -9223372036854775808 ≤ i) (h2 : i ≤ 9223372036854775807) : rdI (some (numL (zigV i) ++ t)) = (i, some t) := by
  obtain ⟨z1, z2⟩ := zigV_range i h1 h2
  unfold rdI
  rw [rd_num _ _ t z1 z2 z2]
  dsimp only
  rw [zag_zig]

theorem rd_text (b t : List Int) (h : b.length ≤ 1000) : rdT 1000 (some ((numL b.length ++ b) ++ t)) = (b, some t) := by
  rw [List.append_assoc]
  have hn := rd_num (b.length : Int) 1000 (b ++ t) (by omega) (by omega) (by omega)
  rw [rdT_some 1000 _ (by decide) (b ++ t) (by rw [hn]) (by rw [hn]; dsimp only; rw [List.length_append]; omega), hn]
  dsimp only
  rw [Int.toNat_natCast, List.take_left, List.drop_left]

theorem rd_val (v : Val) (t : List Int) (hf : v.fits) (h : v.s.size ≤ 1000) : rdV (some (valL v ++ t)) = (plainV v, some t) := by
  by_cases h1 : v.k = 1
  · rw [valL_int h1, List.cons_append]
    have hn := rd_num 1 2 (numL (zigV v.n) ++ t) (by omega) (by omega) (by omega)
    rw [numL_small 1 (by omega) (by omega), List.singleton_append] at hn
    have hi := rd_int v.n t hf.2.1.1 hf.2.1.2
    rw [rdV_1 _ _ t hn (by rw [hi]), hi]
    unfold plainV
    rw [if_pos h1]
  · by_cases h2 : v.k = 2
    · rw [valL_text h2, List.cons_append]
      have hn := rd_num 2 2 ((numL v.s.size ++ sb v.s) ++ t) (by omega) (by omega) (by omega)
      rw [numL_small 2 (by omega) (by omega), List.singleton_append] at hn
      have ht := rd_text (sb v.s) t (by rw [sb_length]; exact h)
      rw [sb_length] at ht
      rw [rdV_2 _ _ t hn (by rw [ht]), ht]
      dsimp only
      rw [strB_sb]
      unfold plainV
      rw [if_neg h1, if_pos h2]
    · rw [valL_null h1 h2, List.singleton_append]
      have hn := rd_num 0 2 t (by omega) (by omega) (by omega)
      rw [numL_small 0 (by omega) (by omega), List.singleton_append] at hn
      rw [rdV_0 _ _ hn]
      unfold plainV
      rw [if_neg h1, if_neg h2]
      rfl

theorem partsL_drop (ps : List Part) (k : Nat) (h : k < ps.length) : partsL (ps.drop k) = partL (ps.getD k part0) ++ partsL (ps.drop (k + 1)) := by
  have e : ps.drop k = ps.getD k part0 :: ps.drop (k + 1) := by
    rw [List.drop_eq_getElem_cons h]
    simp [List.getD, List.getElem?_eq_getElem h]
  unfold partsL
  rw [e, List.flatMap_cons]

theorem partL_range (w : World) (p : Part) (hok : p.ok w) : ∀ c ∈ partL p, 0 ≤ c ∧ c < 256 := by
  intro c hc
  unfold partL at hc
  split at hc
  · exact numL_range _ c hc
  · split at hc
    · exact numL_range _ c hc
    · split at hc
      · rcases List.mem_append.1 hc with hc | hc
        · exact numL_range _ c hc
        · exact hok.2.2.2.2.2.2.1 c hc
      · exact valL_range _ c hc

theorem partsL_range (w : World) (ps : List Part) (hok : ∀ p ∈ ps, p.ok w) : ∀ c ∈ partsL ps, 0 ≤ c ∧ c < 256 := by
  intro c hc
  unfold partsL at hc
  obtain ⟨p, hp, hc⟩ := List.mem_flatMap.1 hc
  exact partL_range w p (hok p hp) c hc

end Go.Proofs.Ytpaidekocooliaa
