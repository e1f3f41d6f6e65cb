/- frame.All, the reference's Frames and SameTexts; the layer's few and awake. -/
import Derived.Test.YtajpamkdcpbabaaFrRef
import Derived.Test.YtajpamkdcpbabaaTxt
import Derived.Lib.SlBytesConst
namespace Go.Proofs.Ytajpamkdcpbabaa
open Go.RowKit NumMath
set_option linter.unusedVariables false

theorem frof_no (a : Option Addr) (len cap : Nat) (xs : List Int) (w : World) (h : IsBytes w a len cap xs) (hu : unfr xs = none) :
    Calls Try.prog 44 #[.slice a len cap] w fun e w' => e = .returned (.tuple #[.slice none 0 0, .int .i64 0, .int .i64 50]) ∧ w' = w := by
  refine (frof_any a len cap xs w h).mono ?_
  rintro e w' (⟨-, he, hw⟩ | ⟨t, v, hu', -⟩)
  · exact ⟨he, hw⟩
  · rw [hu] at hu'; cases hu'

theorem frof_yes (a : Option Addr) (len cap : Nat) (xs t : List Int) (w : World) (h : IsBytes w a len cap xs) (hu : unfr xs = some t) :
    Calls Try.prog 44 #[.slice a len cap] w fun e w' => ∃ b n c, e = .returned (.tuple #[.slice b n c, .int .i64 (8 + (n : Int)), .int .i64 0]) ∧ n = t.length ∧ IsBytes w' b n c t ∧ (n = 0 ∨ ∀ y, b = some y → w.heap.size ≤ y.block) ∧ Below w.heap.size w w' := by
  have hA := (unfr_some h.2.2.2.1 hu).2.2.1
  refine (frof_any a len cap xs w h).mono ?_
  rintro e w' (⟨hu', -⟩ | ⟨t', v, hu', rfl, hown, hb⟩)
  · rw [hu] at hu'; cases hu'
  · rw [hu] at hu'
    cases hu'
    rcases hown.form with ⟨rfl, rfl⟩ | ⟨g, cap', rfl, hg1, hg2, hc, hm, hB⟩
    · exact ⟨none, 0, 0, rfl, rfl, isB_none _ _ _ (by unfold maxLen; omega), .inl rfl, hb⟩
    · exact ⟨_, _, cap', rfl, rfl, hown.isAt hA, .inr (by intro y hy; cases hy; exact hg1), hb⟩

theorem run_no (a : Option Addr) (len cap : Nat) (xs : List Int) (w : World) (h : IsBytes w a len cap xs) (hu : unfr xs = none) :
    Calls Try.prog 32 #[.slice a len cap] w fun e w' => e = .returned (.tuple #[.slice none 0 0, .int .i64 0, .int .i64 50]) ∧ Below w.heap.size w w' := by
  refine (runframe_any a len cap xs w h).mono ?_
  rintro e w' ⟨hb, ⟨-, he⟩ | ⟨t, b, n, c, hu', -⟩⟩
  · exact ⟨he, hb⟩
  · rw [hu] at hu'; cases hu'

theorem run_yes (a : Option Addr) (len cap : Nat) (xs t : List Int) (w : World) (h : IsBytes w a len cap xs) (hu : unfr xs = some t) :
    Calls Try.prog 32 #[.slice a len cap] w fun e w' => ∃ b n c, e = .returned (.tuple #[.slice b n c, .int .i64 (8 + (n : Int)), .int .i64 0]) ∧ n = t.length ∧ (∀ w0, IsBytes w0 a len cap xs → IsBytes w0 b n c t) ∧ Below w.heap.size w w' := by
  refine (runframe_any a len cap xs w h).mono ?_
  rintro e w' ⟨hb, ⟨hu', -⟩ | ⟨t', b, n, c, hu', hn, he, hI⟩⟩
  · rw [hu] at hu'; cases hu'
  · rw [hu] at hu'
    cases hu'
    exact ⟨b, n, c, he, hn, hI, hb⟩

/-- texts and how many bytes their frames have -/
def AllPost (w : World) (xs : List Int) (e : Ending) (w' : World) : Prop := ∃ a n c L, e = .returned (.tuple #[.slice a n c, .int .i64 ((flat L).length : Int)]) ∧ AllOf xs L ∧ IsTexts w' a n c L ∧ Below w.heap.size w w'

theorem flat_len_le (L : List (List Int)) : L.length ≤ (flat L).length := by
  induction L with
  | nil => exact Nat.zero_le _
  | cons t L ih => rw [flat_cons, List.length_append, frL_length, List.length_cons]; omega

theorem cell_new1 (w : World) (u : Value) (e : TypeId) (g : Nat) (hg : w.heap.size = g) : (w.alloc (.cells #[u] e)).cell? ⟨g, 0, none⟩ = some u := by
  subst hg
  rw [World.cell?_alloc_new]
  simp

theorem off_new {w : World} {base : Nat} {v : Value} {ts : List (List Int)} {b : Option Addr} {n : Nat} (h : OwnT w base v ts) (ho : n = 0 ∨ ∀ y, b = some y → w.heap.size ≤ y.block) : n = 0 ∨ ∀ y, b = some y → v.ownBlock ≠ some y.block := by
  rcases ho with ho | ho
  · exact .inl ho
  · exact .inr (fun y hy e => by have := (h.lt _ e).2; have := ho y hy; omega)

theorem off_old {w w0 : World} {base : Nat} {v : Value} {ts : List (List Int)} {b : Option Addr} {n c : Nat} {t : List Int} (h : OwnT w base v ts) (hI : IsBytes w0 b n c t) (hb : w0.heap.size ≤ base) : n = 0 ∨ ∀ y, b = some y → v.ownBlock ≠ some y.block := by
  rcases hI.2.2.2.2 with h0 | ⟨g, off, rfl, hg, _⟩
  · exact .inl h0
  · right
    intro y hy e
    cases hy
    have := (h.lt _ e).1
    dsimp only at this
    omega

set_option maxHeartbeats 2000000 in
theorem all_any (a : Option Addr) (len cap : Nat) (xs : List Int) (w : World) (h : IsBytes w a len cap xs) (hbig : len ≤ 1000000000) :
    Calls Try.prog 31 #[.slice a len cap] w fun e w' => AllPost w xs e w' := by
  have H := hide h
  have HL := hide h.1
  have HA : Hid (AreB xs) := h.2.2.2.1
  have hlc := h.2.1
  have hm : (cap : Int) ≤ 9223372036854775807 := by have := h.2.2.1; unfold maxLen at this; omega
  have HB := hide hbig
  clear h hbig
  go_enter Try.func31, Try.ntmps31
  go_wp2
  go_loopw [2, 3] (fun v z wr => ∃ (L : List (List Int)) (r : List Int) (k : Nat), z = .int .i64 k ∧ k = (flat L).length ∧ xs = flat L ++ r ∧ Texts L ∧ OwnT wr w.heap.size v L ∧ Below w.heap.size w wr) (fun _ z _ => len - (intOf z).toNat)
  case atStart => exact ⟨[], xs, 0, rfl, rfl, rfl, (by intro t ht; cases ht), ownT_nil _ _, Below.refl _ _⟩
  case round =>
    obtain ⟨L, r, k, rfl, hk, hx, hT, hown, hb⟩ := hrel
    have hkl : k + r.length = len := by rw [← HL.out, hx, List.length_append, ← hk]
    have hdr : xs.drop k = r := by rw [hx, hk, List.drop_left]
    have hsz := hb.size
    obtain ⟨b1, hsl, h1b⟩ := isB_cut3 (H.out.keep hb) k r.length r.length (by omega) (Nat.le_refl _) (by omega) (k : Int) (len : Int) (len : Int) rfl (by omega) (by omega)
    rw [hdr, List.take_length] at h1b
    have hLl : L.length ≤ 1000000000 := by have := flat_len_le L; have := HB.out; omega
    have HLl := hide hLl
    have HX := hide hx
    have HT := hide hT
    have HK := hide hk
    have HKL := hide hkl
    have H1 := hide h1b
    have hk2 : (k : Int) ≤ len := by omega
    generalize hm1 : r.length = m1 at *
    have HM1 := hide hm1
    clear hx hT hk hdr h1b hLl hkl hm1
    match hu : unfr r with
    | none =>
      have HU := hide hu
      clear hu
      obtain ⟨a2, n2, c2, hv2, hI2⟩ := hown.is
      subst hv2
      go_wp2_with (first
        | (go_at_call 44; refine (frof_no b1 m1 m1 r _ H1.out HU.out).mono ?_; rintro e w' ⟨rfl, hw⟩; have hw := hw.symm; subst hw))
      go_ret2
      exact ⟨a2, n2, c2, L, by rw [← HK.out]; rfl, ⟨HT.out, r, HX.out, HU.out⟩, hI2, hb⟩
    | some t =>
      have HU := hide hu
      obtain ⟨s1, s2⟩ := all_step HA.out HT.out HX.out hu
      have s4 := (unfr_some (fun c hc => HA.out c (by rw [HX.out]; exact List.mem_append_right _ hc)) hu).2.2.2.1
      have S1 := hide s1
      have S2 := hide s2
      have HTL : Hid (8 + t.length ≤ m1) := by show _ ≤ _; rw [← HM1.out]; exact s4
      clear hu s1 s2 s4
      have HOw := hide hown
      go_wp2_with (first
        | (go_at_call 44; refine (frof_yes b1 m1 m1 r t _ H1.out HU.out).mono ?_; rintro e w1 ⟨b, n, c, rfl, hn, hI, hoff, hb1⟩; have hI1 := hide hI; have HN := hide hn; have hsz1 := hb1.size; have hO1 := HOw.out.keep hb1; have hn8 : (8 : Int) + n ≤ m1 := (by have := HTL.out; omega); have hkk : (k : Int) + m1 = len := (by have := HKL.out; omega); have Hoff := hide (off_new HOw.out hoff); clear hoff hI hn)
        | (at_builtin; go_must (refine wp_appT _ rfl _ _ rfl w.heap.size _ L rfl (hO1.keep (new_below _ _)) w1.heap.size b n c t rfl (cell_new1 _ _ _ _ rfl) (hI1.out.keep (new_below _ _)) Hoff.out HLl.out (by simp; omega) ?_); intro v3 w3 hO3 hgr3 hb3))
      go_roundw
      case rel => exact ⟨L ++ [t], r.drop (8 + t.length), k + (8 + n), by go_num, by rw [flat_snoc, List.length_append, frL_length, ← HK.out, HN.out], S2.out, S1.out, hO3, hb.trans ((hb1.mono hsz).trans (((new_below _ _).mono (by omega)).trans hb3))⟩
      case measure => simp [intOf]; omega

set_option maxHeartbeats 2000000 in
theorem frames_any (a : Option Addr) (len cap : Nat) (xs : List Int) (w : World) (h : IsBytes w a len cap xs) (hbig : len ≤ 1000000000) :
    Calls Try.prog 16 #[.slice a len cap] w fun e w' => AllPost w xs e w' := by
  have H := hide h
  have HL := hide h.1
  have HA : Hid (AreB xs) := h.2.2.2.1
  have hlc := h.2.1
  have hm : (cap : Int) ≤ 9223372036854775807 := by have := h.2.2.1; unfold maxLen at this; omega
  have HB := hide hbig
  clear h hbig
  go_enter Try.func16, Try.ntmps16
  go_wp2
  go_loopw [4, 5] (fun v z wr => ∃ (L : List (List Int)) (r : List Int) (k : Nat), z = .int .i64 k ∧ k = (flat L).length ∧ xs = flat L ++ r ∧ Texts L ∧ OwnT wr w.heap.size v L ∧ Below w.heap.size w wr) (fun _ z _ => len - (intOf z).toNat)
  case atStart => exact ⟨[], xs, 0, rfl, rfl, rfl, (by intro t ht; cases ht), ownT_nil _ _, Below.refl _ _⟩
  case round =>
    obtain ⟨L, r, k, rfl, hk, hx, hT, hown, hb⟩ := hrel
    have hkl : k + r.length = len := by rw [← HL.out, hx, List.length_append, ← hk]
    have hdr : xs.drop k = r := by rw [hx, hk, List.drop_left]
    have hsz := hb.size
    obtain ⟨b1, hsl, h1b⟩ := isB_cutFrom H.out k r.length (cap - k) (by omega) (by omega) .i64 (k : Int) rfl
    rw [hdr] at h1b
    have h1w := h1b.keep hb
    have hLl : L.length ≤ 1000000000 := by have := flat_len_le L; have := HB.out; omega
    have HLl := hide hLl
    have HX := hide hx
    have HT := hide hT
    have HK := hide hk
    have HKL := hide hkl
    have H1 := hide h1w
    have HW := hide h1b
    clear h1w
    have hk2 : (k : Int) ≤ len := by omega
    generalize hm1 : r.length = m1 at *
    have HM1 := hide hm1
    clear hx hT hk hdr h1b hLl hkl hm1
    match hu : unfr r with
    | none =>
      have HU := hide hu
      clear hu
      obtain ⟨a2, n2, c2, hv2, hI2⟩ := hown.is
      subst hv2
      go_wp2_with (first
        | (go_at_call 32; refine (run_no b1 m1 (cap - k) r _ H1.out HU.out).mono ?_; rintro e w1 ⟨rfl, hb1⟩))
      go_ret2
      exact ⟨a2, n2, c2, L, by rw [← HK.out]; rfl, ⟨HT.out, r, HX.out, HU.out⟩, hI2.keep hb1, hb.trans (hb1.mono hsz)⟩
    | some t =>
      have HU := hide hu
      obtain ⟨s1, s2⟩ := all_step HA.out HT.out HX.out hu
      have s4 := (unfr_some (fun c hc => HA.out c (by rw [HX.out]; exact List.mem_append_right _ hc)) hu).2.2.2.1
      have S1 := hide s1
      have S2 := hide s2
      have HTL : Hid (8 + t.length ≤ m1) := by show _ ≤ _; rw [← HM1.out]; exact s4
      clear hu s1 s2 s4
      have HOw := hide hown
      go_wp2_with (first
        | (go_at_call 32; refine (run_yes b1 m1 (cap - k) r t _ H1.out HU.out).mono ?_; rintro e w1 ⟨b, n, c, rfl, hn, hI, hb1⟩; have hI1 := hide ((hI _ H1.out).keep hb1); have HN := hide hn; have hsz1 := hb1.size; have hO1 := HOw.out.keep hb1; have hn8 : (8 : Int) + n ≤ m1 := (by have := HTL.out; omega); have hkk : (k : Int) + m1 = len := (by have := HKL.out; omega); have Hoff := hide (off_old HOw.out (hI _ HW.out) (Nat.le_refl _)); clear hI hn)
        | (at_builtin; go_must (refine wp_appT _ rfl _ _ rfl w.heap.size _ L rfl (hO1.keep (new_below _ _)) w1.heap.size b n c t rfl (cell_new1 _ _ _ _ rfl) (hI1.out.keep (new_below _ _)) Hoff.out HLl.out (by simp; omega) ?_); intro v3 w3 hO3 hgr3 hb3))
      go_roundw
      case rel => exact ⟨L ++ [t], r.drop (8 + t.length), k + (8 + n), by go_num, by rw [flat_snoc, List.length_append, frL_length, ← HK.out, HN.out], S2.out, S1.out, hO3, hb.trans ((hb1.mono hsz).trans (((new_below _ _).mono (by omega)).trans hb3))⟩
      case measure => simp [intOf]; omega

theorem same_step (xs ys : List (List Int)) (k : Nat) (hl : xs.length = ys.length) (hk : k < xs.length) (h : xs.take k = ys.take k) : xs.take (k + 1) = ys.take (k + 1) ↔ xs.getD k [] = ys.getD k [] := by
  have hk' : k < ys.length := by omega
  have e1 : xs.getD k [] = xs[k] := by simp [List.getD, List.getElem?_eq_getElem hk]
  have e2 : ys.getD k [] = ys[k] := by simp [List.getD, List.getElem?_eq_getElem hk']
  rw [List.take_succ_eq_append_getElem hk, List.take_succ_eq_append_getElem hk', h, e1, e2]
  exact ⟨fun e => List.head_eq_of_cons_eq (List.append_cancel_left e), fun e => by rw [e]⟩

set_option maxHeartbeats 2000000 in
theorem sameT_any (a : Option Addr) (la ca : Nat) (xs : List (List Int)) (b : Option Addr) (lb cb : Nat) (ys : List (List Int)) (w : World) (h : IsTexts w a la ca xs) (h' : IsTexts w b lb cb ys) :
    Calls Try.prog 18 #[.slice a la ca, .slice b lb cb] w fun e w' => e = .returned (.bool (decide (xs = ys))) ∧ Below w.heap.size w w' := by
  have HV := hide h
  have HW := hide h'
  obtain ⟨hl, hlc, hm, -⟩ := h
  obtain ⟨hl', hlc', hm', -⟩ := h'
  unfold maxLen at hm hm'
  by_cases hab : la = lb
  · subst hab
    have HL : Hid (xs.length = la) := hl
    have HL' : Hid (ys.length = la) := hl'
    clear hl hl'
    go_enter Try.func18, Try.ntmps18
    go_wp2
    go_loopw [13] (fun i wr => ∃ k : Nat, k ≤ la ∧ i = .int .i64 k ∧ xs.take k = ys.take k ∧ Below w.heap.size w wr) (fun i _ => la - (intOf i).toNat)
    case atStart => exact ⟨0, Nat.zero_le _, rfl, rfl, Below.refl _ _⟩
    case round =>
      obtain ⟨k, hk, rfl, hs, hb⟩ := hrel
      have hsz := hb.size
      have HSt := hide hs
      clear hs
      by_cases hlt : k < la
      · have HE := hide (same_step xs ys k (HL.out.trans HL'.out.symm) (by rw [HL.out]; exact hlt) HSt.out)
        obtain ⟨g, off, b1, n1, c1, rfl, hg, hc, hI⟩ := (HV.out.keep hb).at hlt
        obtain ⟨g', off', b2, n2, c2, rfl, hg', hc', hI'⟩ := (HW.out.keep hb).at hlt
        have hq := strB_same hI.2.2.2.1 hI'.2.2.2.1
        have q1 := (hI.keep (Below.refl _ wr).drew).conv
        have q2 := (hI'.keep (Below.refl _ wr).drew).conv
        have hne : xs = ys → xs.getD k [] = ys.getD k [] := fun e => by rw [e]
        have HNE := hide hne
        clear hI hI' hne
        generalize xs.getD k [] = x at *
        generalize ys.getD k [] = y at *
        by_cases hxy : x = y
        · have hxd : decide (x = y) = true := decide_eq_true hxy
          rw [hxd] at hq
          clear hxd
          go_wp2
          go_region
          all_goals
            go_wp2
            go_roundw
            case rel => exact ⟨k + 1, by omega, by go_num, HE.out.2 hxy, hb.drew⟩
            case measure => simp [intOf]; omega
        · have hxd : decide (x = y) = false := decide_eq_false hxy
          rw [hxd] at hq
          clear hxd
          have HF : Hid (decide (xs = ys) = false) := decide_eq_false (fun e => hxy (HNE.out e))
          go_wp2
          go_region
          all_goals
            go_wp2
            go_ret
            exact ⟨retB HF.out.symm, hb.drew⟩
      · have hkl : k = la := by omega
        subst hkl
        have HF : Hid (decide (xs = ys) = true) := decide_eq_true (by
          have e := HSt.out
          rw [List.take_of_length_le (by rw [HL.out]; exact Nat.le_refl _), List.take_of_length_le (by rw [HL'.out]; exact Nat.le_refl _)] at e
          exact e)
        go_wp2
        go_ret
        exact ⟨retB HF.out.symm, hb⟩
  · have HF : Hid (decide (xs = ys) = false) := decide_eq_false (fun e => hab (by rw [← hl, ← hl', e]))
    have hab' : ((la : Int) == (lb : Int)) = false := by simp; omega
    clear hl hl'
    go_enter Try.func18, Try.ntmps18
    go_wp2
    go_ret
    exact ⟨retB HF.out.symm, Below.refl _ _⟩

theorem sameT_self (a : Option Addr) (la ca : Nat) (xs : List (List Int)) (b : Option Addr) (lb cb : Nat) (w : World) (h : IsTexts w a la ca xs) (h' : IsTexts w b lb cb xs) :
    Calls Try.prog 18 #[.slice a la ca, .slice b lb cb] w fun e w' => e = .returned (.bool true) ∧ Below w.heap.size w w' := by
  have h := sameT_any a la ca xs b lb cb xs w h h'
  rw [decide_eq_true (rfl : xs = xs)] at h
  exact h

def fewT (ts : List (List Int)) : Bool := ts.all (fun t => decide (t.length ≤ 100)) && decide (ts.length ≤ 12)

theorem fewT_yes {ts : List (List Int)} (h : fewT ts = true) : (∀ t ∈ ts, t.length ≤ 100) ∧ ts.length ≤ 12 := by
  unfold fewT at h
  rw [Bool.and_eq_true, List.all_eq_true, decide_eq_true_iff] at h
  exact ⟨fun t ht => of_decide_eq_true (h.1 t ht), h.2⟩

theorem all_take (ts : List (List Int)) (k : Nat) (hk : k < ts.length) : (ts.take (k + 1)).all (fun t => decide (t.length ≤ 100)) = ((ts.take k).all (fun t => decide (t.length ≤ 100)) && decide ((ts.getD k []).length ≤ 100)) := by
  rw [List.take_succ_eq_append_getElem hk, List.all_append]
  simp [List.getD, List.getElem?_eq_getElem hk]


theorem fr_example : (frA [97, 98, 99]).length = 11 ∧ (frA [97, 98, 99]).getD 3 0 = 3 := by decide +kernel

end Go.Proofs.Ytajpamkdcpbabaa
