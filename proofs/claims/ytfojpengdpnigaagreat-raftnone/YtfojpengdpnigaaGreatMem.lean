/- Lists of members, read: OfMembers and the reference's MembersOf. -/
import Derived.Test.YtfojpengdpnigaaGreatNums
import Derived.Test.YtfojpengdpnigaaGreatRwRead2
import Derived.Test.YtfojpengdpnigaaGreatRwXread2
namespace Go.Proofs.YtfojpengdpnigaaGreat
open Go.RowKit NumMath
set_option linter.unusedVariables false
set_option maxRecDepth 100000

/-- so many numbers, rising, above last; what is left then; none: they are not so -/
def memLoop : Nat → Int → Option (List Int) → Option (List Int × Option (List Int))
  | 0, _, st => some ([], st)
  | n + 1, last, st => if (rdN 18446744073709551615 st).1 ≤ last then none else (memLoop n (rdN 18446744073709551615 st).1 (rdN 18446744073709551615 st).2).map (fun x => ((rdN 18446744073709551615 st).1 :: x.1, x.2))

/-- the members that bytes are -/
def memEnd : Option (List Int × Option (List Int)) → Option (List Int)
  | none => none
  | some (l, st) => if rdEnd st = 0 then some l else none

def memOf (bs : List Int) : Option (List Int) := memEnd (memLoop (rdN 9 (some bs)).1.toNat 0 (rdN 9 (some bs)).2)

theorem memEnd_no {l : List Int} {st : Option (List Int)} (h : ¬ rdEnd st = 0) : memEnd (some (l, st)) = none := by show (if _ then _ else _) = _; rw [if_neg h]
theorem memEnd_yes {l : List Int} {st : Option (List Int)} (h : rdEnd st = 0) : memEnd (some (l, st)) = some l := by show (if _ then _ else _) = _; rw [if_pos h]

theorem memLoop_no {n : Nat} {last : Int} {st : Option (List Int)} (h : (rdN 18446744073709551615 st).1 ≤ last) : memLoop (n + 1) last st = none := by rw [memLoop, if_pos h]
theorem memLoop_yes {n : Nat} {last : Int} {st : Option (List Int)} (h : ¬ (rdN 18446744073709551615 st).1 ≤ last) : memLoop (n + 1) last st = (memLoop n (rdN 18446744073709551615 st).1 (rdN 18446744073709551615 st).2).map (fun x => ((rdN 18446744073709551615 st).1 :: x.1, x.2)) := by rw [memLoop, if_neg h]

/-- what comes of all is what comes of the rest, behind what was read -/
def MemAt (T : Option (List Int × Option (List Int))) (n : Nat) (last : Int) (st : Option (List Int)) (acc : List Int) : Prop := T = (memLoop n last st).map (fun x => (acc ++ x.1, x.2))

theorem memAt_start (n : Nat) (last : Int) (st : Option (List Int)) : MemAt (memLoop n last st) n last st [] := by
  unfold MemAt
  cases memLoop n last st <;> simp

theorem memAt_no {T : Option (List Int × Option (List Int))} {n : Nat} {last : Int} {st : Option (List Int)} {acc : List Int} (h : MemAt T (n + 1) last st acc) (hm : (rdN 18446744073709551615 st).1 ≤ last) : T = none := by
  unfold MemAt at h
  rw [memLoop_no hm] at h
  exact h

theorem memAt_yes {T : Option (List Int × Option (List Int))} {n : Nat} {last : Int} {st : Option (List Int)} {acc : List Int} (h : MemAt T (n + 1) last st acc) (hm : ¬ (rdN 18446744073709551615 st).1 ≤ last) : MemAt T n (rdN 18446744073709551615 st).1 (rdN 18446744073709551615 st).2 (acc ++ [(rdN 18446744073709551615 st).1]) := by
  unfold MemAt at h ⊢
  rw [memLoop_yes hm] at h
  rw [h]
  cases memLoop n (rdN 18446744073709551615 st).1 (rdN 18446744073709551615 st).2 <;> simp

theorem memAt_end {T : Option (List Int × Option (List Int))} {last : Int} {st : Option (List Int)} {acc : List Int} (h : MemAt T 0 last st acc) : T = some (acc, st) := by
  unfold MemAt at h
  rw [h]
  simp [memLoop]

theorem IsR.keepB {good : Bool} {w w' : World} {p q B : Nat} {st : Option (List Int)} (h : IsR good w p q st) (hb : Below B w w') (hp : p < B) (hq : q < B) : IsR good w' p q st :=
  h.lies (M := fun k => B ≤ k) ⟨hb.os, hb.tape, hb.output, hb.size, fun k hk hn => hb.block k (by omega)⟩ (by omega) (by omega)

/-- what is told of members -/
def MemPost (w : World) (bs : List Int) (e : Ending) (w' : World) : Prop :=
  (memOf bs = none ∧ e = .returned (.tuple #[.slice none 0 0, .int .i64 30]) ∧ Below w.heap.size w w') ∨
    ∃ l a n c, memOf bs = some l ∧ e = .returned (.tuple #[.slice a n c, .int .i64 0]) ∧ OwnU w' w.heap.size (.slice a n c) l ∧ (∀ x ∈ l, 0 ≤ x ∧ x ≤ 18446744073709551615) ∧ l.length ≤ 9 ∧ Below w.heap.size w w'

theorem memPost_no {w w' : World} {bs : List Int} (h : memOf bs = none) (hb : Below w.heap.size w w') : MemPost w bs (.returned (.tuple #[.slice none 0 0, .int .i64 30])) w' := .inl ⟨h, rfl, hb⟩

theorem u64_cell (w : World) (n : Int) (g : Nat) (hg : w.heap.size = g) : SrcU (w.alloc (.cells #[.int .u64 n] 22)) (some ⟨g, 0, none⟩) 1 [n] := by
  subst hg
  exact srcU_one _ _ _ (by simp) (by simp)

set_option maxHeartbeats 1000000 in
theorem ofMem_any (a : Option Addr) (len cap : Nat) (bs : List Int) (w : World) (h : IsBytes w a len cap bs) (hl : len ≤ 1000000000) :
    Calls Tryz.prog 149 #[.slice a len cap] w fun e w' => MemPost w bs e w' := by
  have H := hide h
  clear h
  obtain ⟨r1, r2, r3⟩ := rdN_range 9 (some bs) (by intro xs hx c hc; cases hx; exact H.out.2.2.2.1 c hc) (by omega)
  obtain ⟨T, hT⟩ : ∃ T, memLoop (rdN 9 (some bs)).1.toNat 0 (rdN 9 (some bs)).2 = T := ⟨_, rfl⟩
  have HO : Hid (memOf bs = memEnd T) := by show _ = _; unfold memOf; rw [hT]
  have HT := hide (memAt_start (rdN 9 (some bs)).1.toNat 0 (rdN 9 (some bs)).2)
  rw [hT] at HT
  have HC := hide (fun p q w h => rdN_any p q (some bs) 9 w h (by omega) (by omega))
  clear hT
  generalize rdN 9 (some bs) = ns at *
  obtain ⟨n, st0⟩ := ns
  dsimp only at *
  obtain ⟨N, rfl⟩ := Int.eq_ofNat_of_zero_le r1
  have hN : N ≤ 9 := by omega
  rw [show ((N : Int)).toNat = N from rfl] at HT
  go_enter Tryz.func149, Tryz.ntmps149
  go_wp2_with (first
    | (go_at_call 154; go_must (refine (read_any a len cap bs _ H.out hl).mono ?_); rintro e w1 ⟨p, q, rfl, hp, hq, hR, hb1⟩; have HR := hide hR; have HP1 := hide hR.at; have HQ1 := hide hR.qlt; clear hR)
    | (go_at_call 160; go_must (refine (HC.out p q _ HR.out).mono ?_); rintro e w2 ⟨rfl, hpost⟩; have HR2 := hide hpost.1; have HB2 := hide (hb1.trans (hpost.2.below hb1.size (fun k hk => by omega))); have HS2 := hide hpost.2.size; clear hpost))
  go_loopw [5, 6, 13] (fun v la i wr => ∃ (k : Nat) (acc : List Int) (z : Int) (st : Option (List Int)), k ≤ N ∧ i = .int .u64 k ∧ la = .int .u64 z ∧ MemAt T (N - k) z st acc ∧ acc.length = k ∧ OwnU wr w1.heap.size v acc ∧ (∀ x ∈ acc, 0 ≤ x ∧ x ≤ 18446744073709551615) ∧ IsR true wr p q st ∧ Below w.heap.size w wr ∧ w1.heap.size ≤ wr.heap.size) (fun _ _ i _ => N - (intOf i).toNat)
  case atStart => exact ⟨0, [], 0, st0, Nat.zero_le _, rfl, rfl, HT.out, rfl, ownU_nil _ _, by simp, HR2.out, HB2.out, HS2.out⟩
  case round =>
    obtain ⟨k, acc, z, st, hk, rfl, rfl, hM, hac, hown, hrg, hR, hb, hsz1⟩ := hrel
    have HM := hide hM
    have HA := hide hac
    have HOw := hide hown
    have HRg := hide hrg
    have HRd := hide hR
    obtain ⟨va, vn, vc, rfl⟩ := hown.any3
    clear hM hac hown hrg hR
    by_cases hlt : k < N
    · obtain ⟨j, hj⟩ : ∃ j, N - k = j + 1 := ⟨N - k - 1, by omega⟩
      have hj2 : N - (k + 1) = j := by omega
      rw [hj] at HM
      have HJ := hide hj2
      have HNo := hide (memAt_no HM.out)
      have HYes := hide (memAt_yes HM.out)
      have HN := hide (rdN_any p q st 18446744073709551615 wr HRd.out (by omega) (by omega))
      obtain ⟨m1, m2, -⟩ := rdN_range 18446744073709551615 st HRd.out.byt (by omega)
      have HMr : Hid (0 ≤ (rdN 18446744073709551615 st).1 ∧ (rdN 18446744073709551615 st).1 ≤ 18446744073709551615) := ⟨m1, m2⟩
      clear HM m1 m2 hj hj2
      generalize rdN 18446744073709551615 st = mr at *
      obtain ⟨m, st'⟩ := mr
      dsimp only at *
      have hlt' : (k : Int) < (N : Int) := by omega
      by_cases hm : m ≤ z
      · have HZ := hide (HNo.out hm)
        go_wp2_with (first
          | (go_at_call 160; go_must (refine HN.out.mono ?_); rintro e w4 ⟨rfl, hpost⟩; have HB4 := hide (hb.trans (hpost.2.below hb.size (fun k hk => by have := HP1.out; omega))); clear hpost))
        go_ret2
        exact memPost_no (by rw [HO.out, HZ.out]; rfl) HB4.out
      · have HZ := hide (HYes.out hm)
        go_wp2_with (first
          | (go_at_call 160; go_must (refine HN.out.mono ?_); rintro e w4 ⟨rfl, hpost⟩; have HR4 := hide hpost.1; have HO4 := hide (HOw.out.lies (w' := w4) (fun g hg => hpost.2.block g (HOw.out.lt g hg).2 (fun e => by have := (HOw.out.lt g hg).1; have := HP1.out; omega))); have HB4 := hide (hb.trans (hpost.2.below hb.size (fun k hk => by have := HP1.out; omega))); have hs4 := hpost.2.size; clear hpost)
          | (at_builtin; go_must (refine wp_joinU _ rfl (.tmp 20) (.tmp 22) rfl w1.heap.size _ acc rfl (HO4.out.keep (new_below _ _)) (some ⟨w4.heap.size, 0, none⟩) 1 1 [m] rfl (u64_cell _ _ _ rfl) (by have := HA.out; simp; omega) (by simp; omega) ?_); intro v5 w5 hown5 hg5 hat5; have HO5 := hide hown5; have hb5 : Below w1.heap.size w4 w5 := ((new_below _ _).mono (by omega)).trans ((HO4.out.keep (new_below _ _)).grown hg5 (by simp; omega)); obtain ⟨xa, xn, xc, rfl⟩ := hown5.any3; clear hown5 hg5 hat5))
        go_roundw
        case rel => exact ⟨k + 1, acc ++ [m], m, st', by omega, by go_num, rfl, by rw [HJ.out]; exact HZ.out, by rw [List.length_append, HA.out]; rfl, HO5.out, fun x hx => (by rcases List.mem_append.1 hx with h | h; (exact HRg.out x h); (rw [List.mem_singleton.1 h]; exact HMr.out)), HR4.out.keepB hb5 HP1.out HQ1.out, HB4.out.trans (hb5.mono hb1.size), Nat.le_trans (Nat.le_trans hsz1 hs4) hb5.size⟩
        case measure => simp [intOf]; omega
    · have hkN : k = N := by omega
      subst hkN
      have HE := HM.out
      rw [Nat.sub_self] at HE
      have HEnd := hide (memAt_end HE)
      have hlt' : ¬ (k : Int) < (k : Int) := by omega
      clear HE HM
      by_cases he : rdEnd st = 0
      · have hec := end_any p q st wr HRd.out
        rw [he] at hec
        have HEc := hide hec
        clear hec
        have HF : Hid (memOf bs = some acc) := by show _ = _; rw [HO.out, HEnd.out, memEnd_yes he]
        clear he
        go_wp2_with (first
          | (go_at_call 161; go_must (refine HEc.out.mono ?_); rintro e w' ⟨rfl, hw⟩; have hw := hw.symm; subst hw))
        go_ret2
        exact .inr ⟨acc, va, vn, vc, HF.out, rfl, HOw.out.mono hb1.size, HRg.out, by have := HA.out; omega, hb⟩
      · have he30 : rdEnd st = 30 := by unfold rdEnd at he ⊢; split <;> simp_all
        have hec := end_any p q st wr HRd.out
        rw [he30] at hec
        have HEc := hide hec
        clear hec
        have HF : Hid (memOf bs = none) := by show _ = _; rw [HO.out, HEnd.out, memEnd_no he]
        clear he he30
        go_wp2_with (first
          | (go_at_call 161; go_must (refine HEc.out.mono ?_); rintro e w' ⟨rfl, hw⟩; have hw := hw.symm; subst hw))
        go_ret2
        exact memPost_no HF.out hb

set_option maxHeartbeats 400000 in
theorem xofMem_any (a : Option Addr) (len cap : Nat) (bs : List Int) (w : World) (h : IsBytes w a len cap bs) (hl : len ≤ 1000000000) :
    Calls Tryz.prog 151 #[.slice a len cap] w fun e w' => MemPost w bs e w' := by
  have H := hide h
  clear h
  obtain ⟨r1, r2, r3⟩ := rdN_range 9 (some bs) (by intro xs hx c hc; cases hx; exact H.out.2.2.2.1 c hc) (by omega)
  obtain ⟨T, hT⟩ : ∃ T, memLoop (rdN 9 (some bs)).1.toNat 0 (rdN 9 (some bs)).2 = T := ⟨_, rfl⟩
  have HO : Hid (memOf bs = memEnd T) := by show _ = _; unfold memOf; rw [hT]
  have HT := hide (memAt_start (rdN 9 (some bs)).1.toNat 0 (rdN 9 (some bs)).2)
  rw [hT] at HT
  have HC := hide (fun p q w h => xN_any p q (some bs) 9 w h (by omega) (by omega))
  clear hT
  generalize rdN 9 (some bs) = ns at *
  obtain ⟨n, st0⟩ := ns
  dsimp only at *
  obtain ⟨N, rfl⟩ := Int.eq_ofNat_of_zero_le r1
  have hN : N ≤ 9 := by omega
  rw [show ((N : Int)).toNat = N from rfl] at HT
  obtain ⟨q, hq, hq2⟩ : ∃ q, (len ≠ 0 → ∀ x, a = some x → x.block = q ∧ q < w.heap.size) ∧ q ≤ w.heap.size := by
    by_cases h0 : len = 0
    · exact ⟨w.heap.size, fun h => absurd h0 h, Nat.le_refl _⟩
    · obtain ⟨g, off, rfl, hg, _⟩ := H.out.at (k := 0) (by omega)
      exact ⟨g, fun _ x hx => by cases hx; exact ⟨rfl, hg⟩, Nat.le_of_lt hg⟩
  have HR := hide (isR_new false 178 w a len cap bs _ q rfl H.out hq hq2)
  obtain ⟨w1, hw1⟩ : ∃ w1, w.alloc (.cells #[.slice a len cap, .bool false] 178) = w1 := ⟨_, rfl⟩
  have hb1 : Below w.heap.size w w1 := by rw [← hw1]; exact new_below _ _
  have HP1 : Hid (w.heap.size < w1.heap.size) := by show _ < _; rw [← hw1]; simp
  have HQ1 : Hid (q < w1.heap.size) := by show _ < _; rw [← hw1]; simp; omega
  have HW1 := hide hw1
  clear hq hq2 hw1
  go_enter Tryz.func151, Tryz.ntmps151
  go_wp2_with (first
    | (go_at_call 163; go_must (refine (HC.out w.heap.size q _ HR.out).mono ?_); rintro e w2 ⟨rfl, hpost⟩; have HR2 := hide hpost.1; rw [HW1.out] at hpost; have HB2 := hide (hb1.trans (hpost.2.below hb1.size (fun k hk => by omega))); have HS2 := hide hpost.2.size; clear hpost))
  go_loopw [6, 7, 8] (fun v la i wr => ∃ (k : Nat) (acc : List Int) (z : Int) (st : Option (List Int)), k ≤ N ∧ i = .int .u64 k ∧ la = .int .u64 z ∧ MemAt T (N - k) z st acc ∧ acc.length = k ∧ OwnU wr w1.heap.size v acc ∧ (∀ x ∈ acc, 0 ≤ x ∧ x ≤ 18446744073709551615) ∧ IsR false wr w.heap.size q st ∧ Below w.heap.size w wr ∧ w1.heap.size ≤ wr.heap.size) (fun _ _ i _ => N - (intOf i).toNat)
  case atStart => exact ⟨0, [], 0, st0, Nat.zero_le _, rfl, rfl, HT.out, rfl, ownU_nil _ _, by simp, HR2.out, HB2.out, HS2.out⟩
  case round =>
    obtain ⟨k, acc, z, st, hk, rfl, rfl, hM, hac, hown, hrg, hR, hb, hsz1⟩ := hrel
    have HM := hide hM
    have HA := hide hac
    have HOw := hide hown
    have HRg := hide hrg
    have HRd := hide hR
    obtain ⟨va, vn, vc, rfl⟩ := hown.any3
    clear hM hac hown hrg hR
    by_cases hlt : k < N
    · obtain ⟨j, hj⟩ : ∃ j, N - k = j + 1 := ⟨N - k - 1, by omega⟩
      have hj2 : N - (k + 1) = j := by omega
      rw [hj] at HM
      have HJ := hide hj2
      have HNo := hide (memAt_no HM.out)
      have HYes := hide (memAt_yes HM.out)
      have HN := hide (xN_any w.heap.size q st 18446744073709551615 wr HRd.out (by omega) (by omega))
      obtain ⟨m1, m2, -⟩ := rdN_range 18446744073709551615 st HRd.out.byt (by omega)
      have HMr : Hid (0 ≤ (rdN 18446744073709551615 st).1 ∧ (rdN 18446744073709551615 st).1 ≤ 18446744073709551615) := ⟨m1, m2⟩
      clear HM m1 m2 hj hj2
      generalize rdN 18446744073709551615 st = mr at *
      obtain ⟨m, st'⟩ := mr
      dsimp only at *
      have hlt' : (k : Int) < (N : Int) := by omega
      by_cases hm : m ≤ z
      · have HZ := hide (HNo.out hm)
        go_wp2_with (first
          | (go_at_call 163; go_must (refine HN.out.mono ?_); rintro e w4 ⟨rfl, hpost⟩; have HB4 := hide (hb.trans (hpost.2.below hb.size (fun k hk => by have := HP1.out; omega))); clear hpost))
        go_ret2
        exact memPost_no (by rw [HO.out, HZ.out]; rfl) HB4.out
      · have HZ := hide (HYes.out hm)
        go_wp2_with (first
          | (go_at_call 163; go_must (refine HN.out.mono ?_); rintro e w4 ⟨rfl, hpost⟩; have HR4 := hide hpost.1; have HO4 := hide (HOw.out.lies (w' := w4) (fun g hg => hpost.2.block g (HOw.out.lt g hg).2 (fun e => by have := (HOw.out.lt g hg).1; have := HP1.out; omega))); have HB4 := hide (hb.trans (hpost.2.below hb.size (fun k hk => by have := HP1.out; omega))); have hs4 := hpost.2.size; clear hpost)
          | (at_builtin; go_must (refine wp_joinU _ rfl (.tmp 25) (.tmp 27) rfl w1.heap.size _ acc rfl (HO4.out.keep (new_below _ _)) (some ⟨w4.heap.size, 0, none⟩) 1 1 [m] rfl (u64_cell _ _ _ rfl) (by have := HA.out; simp; omega) (by simp; omega) ?_); intro v5 w5 hown5 hg5 hat5; have HO5 := hide hown5; have hb5 : Below w1.heap.size w4 w5 := ((new_below _ _).mono (by omega)).trans ((HO4.out.keep (new_below _ _)).grown hg5 (by simp; omega)); obtain ⟨xa, xn, xc, rfl⟩ := hown5.any3; clear hown5 hg5 hat5))
        go_roundw
        case rel => exact ⟨k + 1, acc ++ [m], m, st', by omega, by go_num, rfl, by rw [HJ.out]; exact HZ.out, by rw [List.length_append, HA.out]; rfl, HO5.out, fun x hx => (by rcases List.mem_append.1 hx with h | h; (exact HRg.out x h); (rw [List.mem_singleton.1 h]; exact HMr.out)), HR4.out.keepB hb5 HP1.out HQ1.out, HB4.out.trans (hb5.mono hb1.size), Nat.le_trans (Nat.le_trans hsz1 hs4) hb5.size⟩
        case measure => simp [intOf]; omega
    · have hkN : k = N := by omega
      subst hkN
      have HE := HM.out
      rw [Nat.sub_self] at HE
      have HEnd := hide (memAt_end HE)
      have hlt' : ¬ (k : Int) < (k : Int) := by omega
      clear HE HM
      by_cases he : rdEnd st = 0
      · have hec := xend_any w.heap.size q st wr HRd.out
        rw [he] at hec
        have HEc := hide hec
        clear hec
        have HF : Hid (memOf bs = some acc) := by show _ = _; rw [HO.out, HEnd.out, memEnd_yes he]
        clear he
        go_wp2_with (first
          | (go_at_call 164; go_must (refine HEc.out.mono ?_); rintro e w' ⟨rfl, hw⟩; have hw := hw.symm; subst hw))
        go_ret2
        exact .inr ⟨acc, va, vn, vc, HF.out, rfl, HOw.out.mono hb1.size, HRg.out, by have := HA.out; omega, hb⟩
      · have he30 : rdEnd st = 30 := by unfold rdEnd at he ⊢; split <;> simp_all
        have hec := xend_any w.heap.size q st wr HRd.out
        rw [he30] at hec
        have HEc := hide hec
        clear hec
        have HF : Hid (memOf bs = none) := by show _ = _; rw [HO.out, HEnd.out, memEnd_no he]
        clear he he30
        go_wp2_with (first
          | (go_at_call 164; go_must (refine HEc.out.mono ?_); rintro e w' ⟨rfl, hw⟩; have hw := hw.symm; subst hw))
        go_ret2
        exact memPost_no HF.out hb

end Go.Proofs.YtfojpengdpnigaaGreat
