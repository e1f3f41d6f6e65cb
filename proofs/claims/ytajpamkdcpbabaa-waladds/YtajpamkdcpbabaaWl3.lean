/- The layer's few and awake; the reference's Frames, Add, Rewrite, Records. -/
import Derived.Test.YtajpamkdcpbabaaWl2
import Derived.Test.YtajpamkdcpbabaaDkRef
namespace Go.Proofs.Ytajpamkdcpbabaa
open Go.RowKit NumMath
set_option linter.unusedVariables false

set_option maxHeartbeats 1000000 in
theorem few07_any (a : Option Addr) (len cap : Nat) (ts : List (List Int)) (w : World) (h : IsTexts w a len cap ts) :
    Calls Try.prog 20 #[.slice a len cap] w fun e w' => e = .returned (.bool (fewT ts)) ∧ w' = w := by
  have HV := hide h
  obtain ⟨hl, hlc, hm, -⟩ := h
  unfold maxLen at hm
  have HL : Hid (ts.length = len) := hl
  clear hl
  go_enter Try.func20, Try.ntmps20
  go_wp2
  go_loop [7] (fun i => ∃ k : Nat, k ≤ len ∧ i = .int .i64 k ∧ (ts.take k).all (fun t => decide (t.length ≤ 100)) = true) (fun i => len - (intOf i).toNat)
  case atStart => exact ⟨0, Nat.zero_le _, rfl, rfl⟩
  case round =>
    obtain ⟨k, hk, rfl, hs⟩ := hrel
    have HSt := hide hs
    clear hs
    by_cases hlt : k < len
    · have HA := hide (all_take ts k (by rw [HL.out]; exact hlt))
      obtain ⟨g, off, b1, n1, c1, rfl, hg, hc, hI⟩ := HV.out.at hlt
      have hn1 := hI.1
      have HM : Hid (ts.getD k [] ∈ ts) := by
        show _ ∈ _
        simp only [List.getD, List.getElem?_eq_getElem (show k < ts.length by rw [HL.out]; exact hlt)]
        exact List.getElem_mem _
      have HNL := hide hn1
      have hm1 : (n1 : Int) ≤ 9223372036854775807 := by have := hI.2.1; have := hI.2.2.1; unfold maxLen at this; omega
      clear hI hn1
      by_cases h1 : (100 : Int) < (n1 : Int)
      · have HF : Hid (fewT ts = false) := by
          show _ = _
          cases hf : fewT ts
          · rfl
          · have := (fewT_yes hf).1 _ HM.out
            rw [HNL.out] at this
            omega
        go_wp2
        go_ret
        exact ⟨retB HF.out.symm, rfl⟩
      · go_wp2
        go_round
        case rel => exact ⟨k + 1, by omega, by go_num, by rw [HA.out, HSt.out, HNL.out, Bool.true_and, decide_eq_true_iff]; omega⟩
        case measure => simp [intOf]; omega
    · have hkl : k = len := by omega
      subst hkl
      have HF : Hid (fewT ts = decide ((k : Int) ≤ 12)) := by
        show _ = _
        have e := HSt.out
        rw [List.take_of_length_le (by rw [HL.out]; exact Nat.le_refl _)] at e
        unfold fewT
        rw [e, HL.out, Bool.true_and]
        exact decide_eq_decide.2 (by omega)
      go_wp2
      go_ret
      exact ⟨retB HF.out.symm, rfl⟩

/-- few texts: their frames are not long -/
theorem fewT_flat {ts : List (List Int)} (h : fewT ts = true) (hA : ∀ t ∈ ts, ∀ c ∈ t, 0 ≤ c ∧ c < 256) : Texts ts ∧ (flat ts).length ≤ 1296 ∧ ts.length ≤ 12 := by
  obtain ⟨h1, h2⟩ := fewT_yes h
  have key : ∀ L : List (List Int), (∀ t ∈ L, t.length ≤ 100) → (flat L).length ≤ 108 * L.length := by
    intro L
    induction L with
    | nil => intro _; exact Nat.zero_le _
    | cons t L ih =>
      intro hL
      have a := hL t List.mem_cons_self
      have b := ih (fun x hx => hL x (List.mem_cons_of_mem _ hx))
      rw [flat_cons, List.length_append, frL_length, List.length_cons]
      omega
  have := key ts h1
  exact ⟨fun t ht => ⟨by have := h1 t ht; omega, hA t ht⟩, by omega, h2⟩

/-- a list of one text, new -/
theorem isT_one (w : World) (b : Option Addr) (n c : Nat) (t : List Int) (e : TypeId) (g : Nat) (h : IsBytes w b n c t) (hg : w.heap.size = g) : IsTexts (w.alloc (.cells #[.slice b n c] e)) (some ⟨g, 0, none⟩) 1 1 [t] := by
  refine ⟨rfl, Nat.le_refl _, by unfold maxLen; omega, .inr ⟨g, 0, rfl, by simp; omega, ?_⟩⟩
  intro i hi
  have hi0 : i = 0 := by simp at hi; exact hi
  subst hi0
  exact ⟨b, n, c, cell_new1 _ _ _ _ hg, h.keep (new_below _ _)⟩

theorem all_nil {L : List (List Int)} (h : AllOf [] L) : L = [] := all_one L [] [] h ⟨fun _ ht => (by cases ht), [], rfl, rfl⟩

set_option maxHeartbeats 2000000 in
theorem wlawake_any (w : World) : Calls Try.prog 8 #[] w fun e w' => e = .returned (.bool true) ∧ Below w.heap.size w w' := by
  have kc := fun (w : World) (C : Array Value) (n c : Nat) => Lib.run_convert_bytes_const (P := Try.prog) w 22 5 C n c Try.underlying22 Try.underlying5
  have M1 := hide (fun w => isB_marked w [97] 5 (1, 2) (by decide) (by decide))
  have HT1 : Hid (Texts [[97]]) := fun t ht => by rw [List.mem_singleton.1 ht]; exact ⟨by decide, by unfold AreB; decide⟩
  have hfl : (flat [[97]]).length = 9 := by rw [flat_cons, flat_nil, List.append_nil, frL_length]; rfl
  have HFl := hide hfl
  have HE : Hid (dadd 100 [] 0 (flat [[97]]) = (0, flat [[97]], 9)) := by
    show _ = _
    unfold dadd
    rw [if_neg (by rw [hfl]; decide), hfl]
    rfl
  clear hfl
  go_enter Try.func8, Try.ntmps8
  go_wp2_with (first
    | (go_at_call 17; refine (wsize_any w.heap.size w.heap.size 100 _ 9 q _ HD3.out HW3.out (by rw [HFl.out]; decide)).mono ?_; rw [HFl.out]; rintro e w4 ⟨rfl, hb4⟩; have hb4 := hb3.trans (hb4.mono hb3.size))
    | (go_at_call 21; go_must (refine (wadd_any w.heap.size w.heap.size 100 [] 0 q _ 1 1 [[97]] _ (HD2.out.keep ((new_below _ _).trans ((new_below _ _).mono (by simp)))) (HW2.out.keep HD2.out.at ((new_below _ _).trans ((new_below _ _).mono (by simp)))) (isT_one _ _ _ _ [97] _ _ (M1.out _) (by simp)) HT1.out (by rw [HFl.out]; decide) (by decide) (by decide) (by have := hb2.size; simp; omega)).mono ?_); rw [HE.out]; rintro e w3 ⟨rfl, hd3, hp3⟩; have HD3 := hide hd3; have HW3 := hide ((HW2.out.keep HD2.out.at ((new_below _ _).trans ((new_below _ _).mono (by simp)))).next hp3); have hb3 : Below w.heap.size w w3 := (hb2.trans (((new_below _ _).trans ((new_below _ _).mono (by simp))).mono hb2.size)).trans ((HD2.out.keep ((new_below _ _).trans ((new_below _ _).mono (by simp)))).below hp3 (by have := hb2.size; simp; omega)); clear hd3 hp3)
    | (go_at_call 13; go_must (refine (wopen_any w.heap.size w.heap.size 100 [] 0 _ HD1.out (by intro c hc; cases hc) (by decide)).mono ?_); rintro e w2 ⟨q, v, L, rfl, hL, hO, hd2, hp2, hw2, hq, -⟩; have hL := all_nil hL; subst hL; obtain ⟨a2, n2, c2, rfl, hI2⟩ := hO.ownT.is; have hn2 : n2 = 0 := hI2.1.symm; subst hn2; have HD2 : Hid (IsD w2 w.heap.size w.heap.size 100 [] 0) := hd2; have HW2 := hide hw2; have hb2 := hb1.trans (HD1.out.below hp2 hb1.size); clear hO hd2 hw2 hp2 hI2)
    | (go_at_call 9; refine (dnew_any 100 _).mono ?_; rintro e w1 ⟨rfl, hd1, hb1⟩; have HD1 : Hid (IsD w1 w.heap.size w.heap.size 100 [] 0) := hd1; clear hd1))
  go_ret
  exact ⟨rfl, hb4⟩

end Go.Proofs.Ytajpamkdcpbabaa
