/- okey.Put of any list of values that lies in memory, in memory of the call's own. -/
import Derived.Test.YtfihjhcjkgpgfaaOkeyText
import Derived.Test.YtfihjhcjkgpgfaaOkeyLists
namespace Go.Proofs.Ytfihjhcjkgpgfaa
open Go.RowKit NumMath
set_option linter.unusedVariables false

/-- a value's bytes; a list's -/
def keyV (v : Val) : List Int := if v.k = 2 then 3 :: textL v.s ++ [0, 1] else if v.k = 1 then 2 :: putL (flipV v.n) 8 else [1]
def keyL (xs : List Val) : List Int := xs.flatMap keyV

theorem keyL_take (xs : List Val) (k : Nat) (h : k < xs.length) : keyL (xs.take (k + 1)) = keyL (xs.take k) ++ keyV (xs.getD k val0) := by
  unfold keyL
  rw [List.take_add_one, List.flatMap_append]
  simp [List.getD, List.getElem?_eq_getElem h]

theorem keyL_part (xs : List Val) (k : Nat) : (keyL (xs.take k)).length ≤ (keyL xs).length := by
  have h : keyL xs = keyL (xs.take k) ++ keyL (xs.drop k) := by
    unfold keyL
    rw [← List.flatMap_append, List.take_append_drop]
  rw [h, List.length_append]
  omega

theorem esc_longer (xs : List Int) : xs.length ≤ (xs.flatMap esc).length := by
  have e : ∀ c, 1 ≤ (esc c).length := fun c => by unfold esc; split <;> simp
  have key : ∀ ys : List Int, ys.length ≤ (ys.flatMap esc).length := by
    intro ys
    induction ys with
    | nil => simp
    | cons c r ih => rw [List.flatMap_cons, List.length_append, List.length_cons]; have := e c; omega
  exact key xs

theorem text_longer (s : ByteArray) : s.size ≤ (textL s).length := by
  have := esc_longer (sb s)
  rw [sb_length] at this
  exact this

theorem keyV_text {v : Val} (h : v.k = 2) : keyV v = 3 :: textL v.s ++ [0, 1] := by unfold keyV; rw [if_pos h]
theorem keyV_int {v : Val} (h : v.k = 1) : keyV v = 2 :: putL (flipV v.n) 8 := by unfold keyV; rw [if_neg (by omega), if_pos h]
theorem keyV_null {v : Val} (h2 : ¬ v.k = 2) (h1 : ¬ v.k = 1) : keyV v = [1] := by unfold keyV; rw [if_neg h2, if_neg h1]

theorem getD_mem (xs : List Val) (k : Nat) (h : k < xs.length) : xs.getD k val0 ∈ xs := by
  have : xs.getD k val0 = xs[k] := by simp [List.getD, List.getElem?_eq_getElem h]
  rw [this]; exact List.getElem_mem h

theorem own_box {w w' : World} {base b : Nat} {v : Value} {bs : List Int} (h : OwnB w base v bs) (hg : w.grownBy w' v.ownBlock) {i : Nat} {u : Value} (hv : ∀ k, v.ownBlock = some k → k < b) (hc : w.cell? ⟨b, i, none⟩ = some u) : w'.cell? ⟨b, i, none⟩ = some u :=
  hg.cell hc (fun hx => absurd (hv b hx.symm) (Nat.lt_irrefl _))

set_option maxHeartbeats 1000000 in
theorem okput_any (a : Option Addr) (len cap : Nat) (xs : List Val) (w : World) (h : IsVals w a len cap xs) (hbig : (keyL xs).length ≤ 500000000) :
    Calls Try.prog 17 #[.slice a len cap] w fun e w' => ∃ v, e = .returned v ∧ OwnB w' w.heap.size v (keyL xs) ∧ Below w.heap.size w w' := by
  have HV := hide h
  obtain ⟨hl, hlc, hm, hfit, _⟩ := h
  unfold maxLen at hm
  have HL : Hid (xs.length = len) := hl
  have HF := hide hfit
  have HB := hide hbig
  clear hl hfit hbig
  go_enter Try.func17, Try.ntmps17
  go_wp2
  go_loopw [3, 8] (fun v i wr => ∃ k : Nat, k ≤ len ∧ i = .int .i64 k ∧ OwnB wr w.heap.size v (keyL (xs.take k)) ∧ Below w.heap.size w wr) (fun _ i _ => len - (intOf i).toNat)
  case atStart => exact ⟨0, Nat.zero_le _, rfl, ownB_nil _ _, Below.refl _ _⟩
  case round =>
    obtain ⟨k, hk, rfl, hown, hb⟩ := hrel
    have HO := hide hown
    have hsz := hb.size
    have HP := hide (keyL_part xs k)
    have HQ := hide (keyL_part xs (k + 1))
    have HW : Hid (∀ j, u3.ownBlock = some j → j < wr.heap.size) := fun j hj => (World.ownsRow.lt hown j hj).2
    clear hown
    by_cases hlt : k < len
    · obtain ⟨g, off, rfl, hg, hc⟩ := HV.out.at hlt
      have hk' : k < xs.length := by rw [HL.out]; exact hlt
      have hfv := HF.out _ (getD_mem xs k hk')
      have HT := hide (keyL_take xs k hk')
      obtain ⟨⟨vk, vn, vs⟩, hv, c0, c1, c2⟩ := (hc.below hb hg).row hk'
      rw [hv] at HT hfv
      clear hv hk' hc
      obtain ⟨_, ⟨hn1, hn2⟩, _⟩ := hfv
      dsimp only at *
      by_cases h2 : vk = 2
      · subst h2
        rw [keyV_text rfl] at HT
        dsimp only at HT
        have hvs : vs.size ≤ 500000000 := by
          have h1 := text_longer vs
          have h3 := HQ.out
          rw [HT.out] at h3
          simp only [List.length_append, List.length_cons] at h3
          have := HB.out
          omega
        go_wp2_with (first
          | (go_at_call 29; refine (text_any w.heap.size _ _ vs _ (HO.out.alloc _) ?_ ?_ ?_).mono ?_; omega; (have h5 := HP.out; have h6 := HB.out; omega); (simp; omega); rintro e w2 ⟨v2, rfl, hown2, hb2⟩; have HO2 := hide hown2; have hb2' := (hb.alloc hsz _).trans hb2; clear hown2 hb2))
        go_roundw
        case rel => exact ⟨k + 1, by omega, by go_num, by have h2 := HO2.out; rw [HT.out]; simpa using h2, hb2'⟩
        case measure => simp [intOf]; omega
      · by_cases h1 : vk = 1
        · subst h1
          rw [keyV_int rfl] at HT
          dsimp only at HT
          obtain ⟨f1, f2⟩ := flipV_range vn hn1 hn2
          go_wp2_with (first
            | (at_builtin; refine wp_appB _ rfl (.tmp 25) (.tmp 26) rfl w.heap.size _ _ rfl ((HO.out.alloc _).alloc _) _ 1 1 [2] rfl rfl (bytes_alloc_at _ [2] _ _ (by simp)) (by have h5 := HP.out; have h6 := HB.out; simp only [List.length_singleton]; omega) (by simp; omega) ?_; intro v2 w2 hown2 hg2 hb2; have HO2 := hide hown2; have hb2' := ((hb.alloc hsz _).alloc (by simp; omega) _).trans hb2; have hsz2 := hb2'.size; have hbox := own_box ((HO.out.alloc _).alloc _) hg2 (b := wr.heap.size) (i := 1) (u := .int .i64 vn) HW.out (by simp); clear hown2 hg2 hb2)
            | (go_at_call 31; refine (flip_any vn _ hn1 hn2).mono ?_; rintro e w' ⟨rfl, hw⟩; have hw := hw.symm; subst hw)
            | (go_at_call 30; refine (put_new8 (flipV vn) _ f1 f2).mono ?_; rintro e w3 ⟨g3, rfl, hg3, hl3, hB3, hb3, _⟩; have HO3 := hide (HO2.out.keep hb3); have HB3 := hide hB3; have hb3' := hb2'.trans (hb3.mono hsz2); have hsz3 := hb3'.size; clear hB3 hb3)
            | (at_builtin; go_must (refine wp_appB _ rfl (.tmp 28) (.tmp 32) rfl w.heap.size _ _ rfl HO3.out g3 8 8 _ rfl (putL_length _ _) HB3.out (by have h5 := HP.out; have h6 := HB.out; rw [putL_length, List.length_append, List.length_singleton]; omega) hsz3 ?_); intro v4 w4 hown4 hg4 hb4; have HO4 := hide hown4; have hb4' := hb3'.trans hb4; clear hown4 hg4 hb4))
          go_roundw
          case rel => exact ⟨k + 1, by omega, by go_num, by have h2 := HO4.out; rw [HT.out]; simpa using h2, hb4'⟩
          case measure => simp [intOf]; omega
        · have h2' : (vk == 2) = false := by simp [h2]
          have h1' : (vk == 1) = false := by simp [h1]
          rw [keyV_null h2 h1] at HT
          go_wp2_with (first
            | (at_builtin; go_must (refine wp_appB _ rfl (.tmp 14) (.tmp 15) rfl w.heap.size _ _ rfl ((HO.out.alloc _).alloc _) _ 1 1 [1] rfl rfl (bytes_alloc_at _ [1] _ _ (by simp)) (by have h5 := HP.out; have h6 := HB.out; simp only [List.length_singleton]; omega) (by simp; omega) ?_); intro v2 w2 hown2 hg2 hb2; have HO2 := hide hown2; have hb2' := ((hb.alloc hsz _).alloc (by simp; omega) _).trans hb2; clear hown2 hg2 hb2))
          go_roundw
          case rel => exact ⟨k + 1, by omega, by go_num, by have h2 := HO2.out; rw [HT.out]; simpa using h2, hb2'⟩
          case measure => simp [intOf]; omega
    · have hkl : k = len := by omega
      subst hkl
      go_wp2
      go_ret
      refine ⟨_, rfl, ?_, hb⟩
      have h2 := HO.out
      rw [List.take_of_length_le (by rw [HL.out]; exact Nat.le_refl _)] at h2
      exact h2

end Go.Proofs.Ytfihjhcjkgpgfaa
