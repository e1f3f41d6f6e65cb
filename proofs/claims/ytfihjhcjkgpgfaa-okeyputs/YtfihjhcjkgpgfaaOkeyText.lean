/- okey.appendText: a text behind what was gathered, with its mark and its end. -/
import Derived.Test.YtfihjhcjkgpgfaaOkeyBytes
import Derived.Test.YtfihjhcjkgpgfaaOkeyVals
namespace Go.Proofs.Ytfihjhcjkgpgfaa
open Go.RowKit NumMath
set_option linter.unusedVariables false

/-- a byte of a text, kept -/
def esc (c : Int) : List Int := if c = 0 then [0, 255] else [c]

/-- a text's bytes as numbers -/
def sb (s : ByteArray) : List Int := s.data.toList.map (fun c => (c.toNat : Int))

def textL (s : ByteArray) : List Int := (sb s).flatMap esc

theorem sb_length (s : ByteArray) : (sb s).length = s.size := by unfold sb; rw [List.length_map]; rfl

theorem take_esc (s : ByteArray) (k : Nat) (h : k < s.size) : ((sb s).take (k + 1)).flatMap esc = ((sb s).take k).flatMap esc ++ esc ((s[k]'h).toNat : Int) := by
  rw [List.take_add_one, List.flatMap_append]
  congr 1
  have h' : k < (sb s).length := by rw [sb_length]; exact h
  rw [List.getElem?_eq_getElem h']
  simp [sb, ByteArray.getElem_eq_getElem_data]

theorem esc_length (xs : List Int) : (xs.flatMap esc).length ≤ 2 * xs.length := by
  have e : ∀ c, (esc c).length ≤ 2 := fun c => by unfold esc; split <;> simp
  have key : ∀ ys : List Int, (ys.flatMap esc).length ≤ 2 * ys.length := by
    intro ys
    induction ys with
    | nil => simp
    | cons c r ih => rw [List.flatMap_cons, List.length_append, List.length_cons]; have := e c; omega
  exact key xs

theorem esc_zero : esc 0 = [0, 255] := rfl
theorem esc_other {c : Int} (h : ¬ c = 0) : esc c = [c] := by unfold esc; rw [if_neg h]

set_option maxHeartbeats 400000 in
theorem text_any (base : Nat) (v : Value) (bs : List Int) (s : ByteArray) (w : World) (h : OwnB w base v bs) (hs : s.size ≤ 1000000000) (hn : bs.length ≤ 1000000000) (hbase : base ≤ w.heap.size) :
    Calls Try.prog 29 #[v, .string s] w fun e w' => ∃ v', e = .returned v' ∧ OwnB w' base v' (bs ++ 3 :: textL s ++ [0, 1]) ∧ Below base w w' := by
  have H := hide h
  clear h
  go_enter Try.func29, Try.ntmps29
  go_wp2_with (first | (at_builtin; go_must (refine wp_appB _ rfl (.tmp 6) (.tmp 7) rfl base v bs rfl (H.out.alloc _) _ 1 1 [3] rfl rfl (bytes_alloc _ [3] _) (by simp; omega) (by simp; omega) ?_); intro v1 w1 hown1 hg1 hb1))
  have HO1 := hide hown1
  have hb1' : Below base w w1 := ((Below.refl _ _).alloc hbase _).trans hb1
  clear hown1 hg1 hb1
  go_loopw [0, 11] (fun v i wr => ∃ k : Nat, k ≤ s.size ∧ i = .int .i64 k ∧ OwnB wr base v (bs ++ 3 :: ((sb s).take k).flatMap esc) ∧ Below base w wr) (fun _ i _ => s.size - (intOf i).toNat)
  case atStart => exact ⟨0, Nat.zero_le _, rfl, HO1.out, hb1'⟩
  case round =>
    obtain ⟨k, hk, rfl, hown, hb⟩ := hrel
    have HO := hide hown
    have hsz := hb.size
    have hlen : (bs ++ 3 :: ((sb s).take k).flatMap esc).length ≤ 4000000000 := by
      have := esc_length ((sb s).take k)
      rw [List.length_take] at this
      rw [List.length_append, List.length_cons]
      omega
    have HLn := hide hlen
    clear hown hlen
    by_cases hlt : k < s.size
    · have HT := hide (take_esc s k hlt)
      by_cases hz : ((s[k]'hlt).toNat : Int) = 0
      · rw [hz, esc_zero] at HT
        go_wp2_with (first
          | (at_builtin; refine wp_appB _ rfl (.tmp 14) (.tmp 18) rfl base _ _ rfl (HO.out.alloc _) _ 1 1 [0] rfl rfl (bytes_alloc _ [0] _) (by have := HLn.out; simp only [List.length_singleton]; omega) (by simp; omega) ?_; intro v2 w2 hown2 hg2 hb2; have HO2 := hide hown2; have hb2' := (hb.alloc (by omega) _).trans hb2; have hsz2 := hb2'.size; clear hown2 hg2 hb2)
          | (at_builtin; go_must (refine wp_appB _ rfl (.tmp 24) (.tmp 25) rfl base _ _ rfl (HO2.out.alloc _) _ 1 1 [255] rfl rfl (bytes_alloc _ [255] _) (by have := HLn.out; rw [List.length_append]; simp only [List.length_singleton]; omega) (by simp; omega) ?_); intro v3 w3 hown3 hg3 hb3; have HO3 := hide hown3; have hb3' := (hb2'.alloc (by omega) _).trans hb3; clear hown3 hg3 hb3))
        go_roundw
        case rel => exact ⟨k + 1, by omega, by go_num, by have h3 := HO3.out; rw [HT.out]; simpa using h3, hb3'⟩
        case measure => simp [intOf]; omega
      · rw [esc_other hz] at HT
        have hz' : (((s[k]'hlt).toNat : Int) == 0) = false := by simpa using hz
        go_wp2_with (first
          | (at_builtin; refine wp_appB _ rfl (.tmp 14) (.tmp 18) rfl base _ _ rfl (HO.out.alloc _) _ 1 1 [((s[k]'hlt).toNat : Int)] rfl rfl (bytes_alloc _ [_] _) (by have := HLn.out; simp only [List.length_singleton]; omega) (by simp; omega) ?_; intro v2 w2 hown2 hg2 hb2; have HO2 := hide hown2; have hb2' := (hb.alloc (by omega) _).trans hb2; have hsz2 := hb2'.size; clear hown2 hg2 hb2))
        go_roundw
        case rel => exact ⟨k + 1, by omega, by go_num, by have h2 := HO2.out; rw [HT.out]; simpa using h2, hb2'⟩
        case measure => simp [intOf]; omega
    · have hkl : k = s.size := by omega
      subst hkl
      go_wp2_with (first
          | (at_builtin; refine wp_appB _ rfl (.tmp 28) (.tmp 29) rfl base _ _ rfl (HO.out.alloc _) _ 2 2 [0, 1] rfl rfl (bytes_alloc _ [0, 1] _) (by have := HLn.out; simp only [List.length_cons, List.length_nil]; omega) (by simp; omega) ?_; intro v2 w2 hown2 hg2 hb2; have HO2 := hide hown2; have hb2' := (hb.alloc (by omega) _).trans hb2; have hsz2 := hb2'.size; clear hown2 hg2 hb2))
      go_ret
      refine ⟨v2, rfl, ?_, hb2'⟩
      have h2 := HO2.out
      rw [List.take_of_length_le (by rw [sb_length]; exact Nat.le_refl _)] at h2
      exact h2

end Go.Proofs.Ytfihjhcjkgpgfaa
