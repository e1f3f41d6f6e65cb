/- The wal: where it lies beside its disk; Records, Open, Add, Rewrite, Size, by frames in plain lists. -/
import Derived.Test.YtajpamkdcpbabaaFrAll
import Derived.Test.YtajpamkdcpbabaaTxtN
import Derived.Test.YtajpamkdcpbabaaDk2
namespace Go.Proofs.Ytajpamkdcpbabaa
open Go.RowKit NumMath
set_option linter.unusedVariables false

theorem off_newN {w w0 : World} {base : Nat} {v : Value} {ts : List (List Int)} {b : Option Addr} {n : Nat} (h : OwnN w base v ts) (ho : n = 0 ∨ ∀ y, b = some y → w.heap.size ≤ y.block) (hb : base ≤ w.heap.size) : n = 0 ∨ ∀ y, b = some y → v.ownBlock ≠ some y.block ∧ base ≤ y.block := by
  rcases ho with ho | ho
  · exact .inl ho
  · exact .inr (fun y hy => ⟨fun e => by have := (h.lt _ e).2; have := ho y hy; omega, Nat.le_trans hb (ho y hy)⟩)

/-- texts in blocks of the call's own, and how many bytes their frames have -/
def AllNew (w : World) (xs : List Int) (e : Ending) (w' : World) : Prop := ∃ v L, e = .returned (.tuple #[v, .int .i64 ((flat L).length : Int)]) ∧ AllOf xs L ∧ OwnN w' w.heap.size v L ∧ Below w.heap.size w w'

set_option maxHeartbeats 2000000 in
theorem allN_any (a : Option Addr) (len cap : Nat) (xs : List Int) (w : World) (h : IsBytes w a len cap xs) (hbig : len ≤ 1000000000) :
    Calls Try.prog 31 #[.slice a len cap] w fun e w' => AllNew w xs e w' := by
  have H := hide h
  have HL := hide h.1
  have HA : Hid (AreB xs) := h.2.2.2.1
  have hlc := h.2.1
  have hm : (cap : Int) ≤ 9223372036854775807 := by have := h.2.2.1; unfold maxLen at this; omega
  have HB := hide hbig
  clear h hbig
  go_enter Try.func31, Try.ntmps31
  go_wp2
  go_loopw [2, 3] (fun v z wr => ∃ (L : List (List Int)) (r : List Int) (k : Nat), z = .int .i64 k ∧ k = (flat L).length ∧ xs = flat L ++ r ∧ Texts L ∧ OwnN wr w.heap.size v L ∧ Below w.heap.size w wr) (fun _ z _ => len - (intOf z).toNat)
  case atStart => exact ⟨[], xs, 0, rfl, rfl, rfl, (by intro t ht; cases ht), ownN_nil _ _, Below.refl _ _⟩
  case round =>
    obtain ⟨L, r, k, rfl, hk, hx, hT, hown, hb⟩ := hrel
    have hkl : k + r.length = len := by rw [← HL.out, hx, List.length_append, ← hk]
    have hdr : xs.drop k = r := by rw [hx, hk, List.drop_left]
    have hsz := hb.size
    obtain ⟨b1, hsl, h1b⟩ := isB_cut3 (H.out.keep hb) k r.length r.length (by omega) (Nat.le_refl _) (by omega) (k : Int) (len : Int) (len : Int) rfl (by omega) (by omega)
    rw [hdr, List.take_length] at h1b
    have hLl : L.length ≤ 1000000000 := by have := flat_len_le L; have := HB.out; omega
    have HLl := hide hLl
    have HX := hide hx
    have HT := hide hT
    have HK := hide hk
    have HKL := hide hkl
    have H1 := hide h1b
    have hk2 : (k : Int) ≤ len := by omega
    generalize hm1 : r.length = m1 at *
    have HM1 := hide hm1
    clear hx hT hk hdr h1b hLl hkl hm1
    match hu : unfr r with
    | none =>
      have HU := hide hu
      clear hu
      have HOw := hide hown
      obtain ⟨a2, n2, c2, hv2, hI2⟩ := hown.ownT.is
      subst hv2
      clear hown hI2
      go_wp2_with (first
        | (go_at_call 44; refine (frof_no b1 m1 m1 r _ H1.out HU.out).mono ?_; rintro e w' ⟨rfl, hw⟩; have hw := hw.symm; subst hw))
      go_ret2
      exact ⟨_, L, by rw [← HK.out]; rfl, ⟨HT.out, r, HX.out, HU.out⟩, HOw.out, hb⟩
    | some t =>
      have HU := hide hu
      obtain ⟨s1, s2⟩ := all_step HA.out HT.out HX.out hu
      have s4 := (unfr_some (fun c hc => HA.out c (by rw [HX.out]; exact List.mem_append_right _ hc)) hu).2.2.2.1
      have S1 := hide s1
      have S2 := hide s2
      have HTL : Hid (8 + t.length ≤ m1) := by show _ ≤ _; rw [← HM1.out]; exact s4
      clear hu s1 s2 s4
      have HOw := hide hown
      go_wp2_with (first
        | (go_at_call 44; refine (frof_yes b1 m1 m1 r t _ H1.out HU.out).mono ?_; rintro e w1 ⟨b, n, c, rfl, hn, hI, hoff, hb1⟩; have hI1 := hide hI; have HN := hide hn; have hsz1 := hb1.size; have hO1 := HOw.out.keep hb1; have hn8 : (8 : Int) + n ≤ m1 := (by have := HTL.out; omega); have hkk : (k : Int) + m1 = len := (by have := HKL.out; omega); have Hoff := hide (off_newN (w0 := w) HOw.out hoff hsz); clear hoff hI hn)
        | (at_builtin; go_must (refine wp_appN _ rfl _ _ rfl w.heap.size _ L rfl (hO1.keep (new_below _ _)) w1.heap.size b n c t rfl (cell_new1 _ _ _ _ rfl) (hI1.out.keep (new_below _ _)) Hoff.out HLl.out (by simp; omega) ?_); intro v3 w3 hO3 hgr3 hb3))
      go_roundw
      case rel => exact ⟨L ++ [t], r.drop (8 + t.length), k + (8 + n), by go_num, by rw [flat_snoc, List.length_append, frL_length, ← HK.out, HN.out], S2.out, S1.out, hO3, hb.trans ((hb1.mono hsz).trans (((new_below _ _).mono (by omega)).trans hb3))⟩
      case measure => simp [intOf]; omega

theorem wrecords_any (a : Option Addr) (len cap : Nat) (xs : List Int) (w : World) (h : IsBytes w a len cap xs) (hbig : len ≤ 1000000000) :
    Calls Try.prog 15 #[.slice a len cap] w fun e w' => AllNew w xs e w' := by
  have HC := hide (allN_any a len cap xs w h hbig)
  clear h hbig
  go_enter Try.func15, Try.ntmps15
  go_wp2_with (first
    | (go_at_call 31; refine HC.out.mono ?_; rintro e w1 ⟨v, L, rfl, hL, hO, hb⟩))
  go_ret2
  exact ⟨v, L, rfl, hL, hO, hb⟩

/-- the wal at q, of the disk at p -/
def WalAt (w : World) (q p : Nat) : Prop := w.cell? ⟨q, 0, none⟩ = some (.pointer (some ⟨p, 0, none⟩)) ∧ ¬ SB 2 w p q

theorem WalAt.next {w w' : World} {q p : Nat} (h : WalAt w q p) (hp : SPost 2 w p w') : WalAt w' q p := by
  have hlt : q < w.heap.size := World.block_lt_of_cell? _ ⟨q, 0, none⟩ h.1
  refine ⟨(hp.cell hlt h.2).trans h.1, fun hx => ?_⟩
  rcases hp.2 q hx with h1 | h1
  · exact h.2 h1
  · omega

theorem WalAt.keep {w w' : World} {q p : Nat} (h : WalAt w q p) (hp : p < w.heap.size) (hb : Below w.heap.size w w') : WalAt w' q p := h.next (SPost.of_below hp hb)

theorem wusable_nil (w : World) : Calls Try.prog 33 #[.pointer none] w fun e w' => e = .returned (.bool false) ∧ w' = w := by
  go_enter Try.func33, Try.ntmps33
  go_wp2
  go_ret
  exact ⟨rfl, rfl⟩

theorem wusable_zero (q : Nat) (w : World) (h : w.cell? ⟨q, 0, none⟩ = some (.pointer none)) : Calls Try.prog 33 #[.pointer (some ⟨q, 0, none⟩)] w fun e w' => e = .returned (.bool false) ∧ w' = w := by
  go_enter Try.func33, Try.ntmps33
  go_wp2
  go_ret
  exact ⟨rfl, rfl⟩

theorem wusable_any (q p : Nat) (w : World) (h : w.cell? ⟨q, 0, none⟩ = some (.pointer (some ⟨p, 0, none⟩))) : Calls Try.prog 33 #[.pointer (some ⟨q, 0, none⟩)] w fun e w' => e = .returned (.bool true) ∧ w' = w := by
  go_enter Try.func33, Try.ntmps33
  go_wp2
  go_ret
  exact ⟨rfl, rfl⟩

theorem frL_pos (t : List Int) : (((frL t).length : Int) == 0) = false := by
  rw [frL_length]
  simp
  omega

theorem flat_take_succ (ts : List (List Int)) (k : Nat) (hk : k < ts.length) : flat (ts.take (k + 1)) = flat (ts.take k) ++ frL (ts.getD k []) := by
  rw [List.take_succ_eq_append_getElem hk, flat_snoc]
  simp [List.getD, List.getElem?_eq_getElem hk]

theorem texts_nth {ts : List (List Int)} (h : Texts ts) (k : Nat) (hk : k < ts.length) : (ts.getD k []).length ≤ 65536 ∧ AreB (ts.getD k []) := by
  have e : ts.getD k [] = ts[k] := by simp [List.getD, List.getElem?_eq_getElem hk]
  rw [e]
  exact h _ (List.getElem_mem hk)

set_option maxHeartbeats 2000000 in
theorem wframes_any (q p : Nat) (a : Option Addr) (len cap : Nat) (ts : List (List Int)) (w : World) (hq : w.cell? ⟨q, 0, none⟩ = some (.pointer (some ⟨p, 0, none⟩))) (h : IsTexts w a len cap ts) (hT : Texts ts) (hbig : (flat ts).length ≤ 1000000000) :
    Calls Try.prog 36 #[.pointer (some ⟨q, 0, none⟩), .slice a len cap] w fun e w' => ∃ v, e = .returned (.tuple #[v, .int .i64 0]) ∧ OwnB w' w.heap.size v (flat ts) ∧ Below w.heap.size w w' := by
  have H := hide h
  have HL := hide h.1
  have hlc := h.2.1
  have hm : (cap : Int) ≤ 9223372036854775807 := by have := h.2.2.1; unfold maxLen at this; omega
  have HB := hide hbig
  have HT := hide hT
  clear h hbig hT
  go_enter Try.func36, Try.ntmps36
  go_wp2_with (first
    | (go_at_call 33; refine (wusable_any q p _ hq).mono ?_; rintro e w' ⟨rfl, hw⟩; have hw := hw.symm; subst hw))
  go_loopw [6, 15] (fun v z wr => ∃ k : Nat, k ≤ len ∧ z = .int .i64 k ∧ OwnB wr w.heap.size v (flat (ts.take k)) ∧ Below w.heap.size w wr) (fun _ z _ => len - (intOf z).toNat)
  case atStart => exact ⟨0, Nat.zero_le _, rfl, ownB_nil _ _, Below.refl _ _⟩
  case round =>
    obtain ⟨k, hk, rfl, hown, hb⟩ := hrel
    have hsz := hb.size
    have HOw := hide hown
    by_cases hlt : k < len
    · obtain ⟨t1, t2⟩ := texts_nth HT.out k (by rw [HL.out]; exact hlt)
      have HS := hide (flat_take_succ ts k (by rw [HL.out]; exact hlt))
      have HLe : Hid ((flat (ts.take k)).length + (frL (ts.getD k [])).length ≤ 1099511627776) := by
        show _ ≤ _
        have h1 := flat_take_le ts (k + 1)
        have h2 := HB.out
        rw [HS.out, List.length_append] at h1
        omega
      obtain ⟨g, off, b1, n1, c1, rfl, hg, hc, hI⟩ := (H.out.keep hb).at hlt
      have HF : Hid (frA (ts.getD k []) = frL (ts.getD k [])) := if_neg (by omega)
      have HI := hide hI
      have HP := hide (frL_pos (ts.getD k []))
      clear hI t1 t2 hown
      generalize ts.getD k [] = t at *
      go_wp2_with (first
        | (go_at_call 46; refine (frput_any b1 n1 c1 t _ HI.out).mono ?_; rw [HF.out]; rintro e w1 ⟨v1, rfl, hO1, hb1⟩; have hx := HP.out; obtain ⟨a1, m1, c1, rfl, hS1⟩ := hO1.any; have hm1 := hS1.1; rw [hm1] at hx; clear hm1; have HOw1 := hide (HOw.out.keep hb1); have HS1 := hide hS1; clear hS1 hO1; have hsz1 := hb1.size)
        | (at_builtin; go_must (refine wp_joinB _ rfl _ _ rfl w.heap.size _ _ rfl HOw1.out a1 m1 c1 _ rfl HS1.out HLe.out (by omega) ?_); intro v3 w3 hO3 hgr3 hat3; have hb3 := HOw1.out.grown hgr3 (by omega)))
      go_roundw
      case rel => exact ⟨k + 1, by omega, by go_num, by rw [HS.out]; exact hO3, hb.trans ((hb1.mono hsz).trans hb3)⟩
      case measure => simp [intOf]; omega
    · have hkl : k = len := by omega
      have HE : Hid (flat (ts.take k) = flat ts) := by show _ = _; rw [List.take_of_length_le (by rw [HL.out, hkl]; exact Nat.le_refl _)]
      subst hkl
      clear hown
      go_wp2
      go_ret2
      exact ⟨_, rfl, by rw [← HE.out]; exact HOw.out, hb⟩

end Go.Proofs.Ytajpamkdcpbabaa
