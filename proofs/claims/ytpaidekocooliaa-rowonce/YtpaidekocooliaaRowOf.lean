/- row.Of and the reference's Unrow of any bytes. -/
import Derived.Test.YtpaidekocooliaaRowRowM
import Derived.Test.YtpaidekocooliaaOkeyJoin
namespace Go.Proofs.Ytpaidekocooliaa
open Go.RowKit NumMath
set_option linter.unusedVariables false

theorem OwnV.lies {w w' : World} {base : Nat} {v : Value} {xs : List Val} (h : OwnV w base v xs) (hb : ∀ g, v.ownBlock = some g → w'.heap[g]? = w.heap[g]?) : OwnV w' base v xs := by
  refine ⟨h.1, ?_⟩
  rcases h.2 with h0 | ⟨g, cap, cur, hv, hg, hh, hr⟩
  · exact .inl h0
  · refine .inr ⟨g, cap, cur, hv, hg, ?_, hr⟩
    rw [hb g (by rw [hv]; rfl)]
    exact hh

theorem OwnV.mono {w : World} {base base' : Nat} {v : Value} {xs : List Val} (h : OwnV w base v xs) (hb : base' ≤ base) : OwnV w base' v xs := by
  refine ⟨h.1, ?_⟩
  rcases h.2 with h0 | ⟨g, cap, cur, hv, hg, hr⟩
  · exact .inl h0
  · exact .inr ⟨g, cap, cur, hv, Nat.le_trans hb hg, hr⟩

/-- a list beside a Reader that reads on -/
theorem OwnV.beside {w w' : World} {base p : Nat} {v : Value} {xs : List Val} (h : OwnV w base v xs) (hk : Keeps (fun k => k = p) w w') (hp : p < base) : OwnV w' base v xs :=
  h.lies (fun g hg => hk.block g (World.ownsRow.lt h g hg).2 (by have := (World.ownsRow.lt h g hg).1; omega))

theorem Below.far {w w' : World} {B : Nat} (h : Below B w w') : Keeps (fun k => B ≤ k) w w' := ⟨h.os, h.tape, h.output, h.size, fun k hk hn => h.block k (by omega)⟩

theorem rdVs_left (st : Option (List Int)) (hb : Byt st) : ∀ k, rdLeft (rdVs k st).2 ≤ rdLeft st ∧ Byt (rdVs k st).2 := by
  intro k
  induction k with
  | zero => exact ⟨Int.le_refl _, hb⟩
  | succ k ih =>
    obtain ⟨h1, h2⟩ := ih
    refine ⟨Int.le_trans (rdV_left _ h2) h1, ?_⟩
    exact rdV_byt _ h2

theorem rdVs_len (st : Option (List Int)) : ∀ k, (rdVs k st).1.length = k := by
  intro k
  induction k with
  | zero => rfl
  | succ k ih => show ((rdVs k st).1 ++ [_]).length = _; rw [List.length_append, ih]; rfl

/-- the row that the bytes are, or that they are none -/
def OfRowPost (w : World) (r : List Val × Int) (e : Ending) (w' : World) : Prop := ∃ v, e = .returned (.tuple #[v, .int .i64 r.2]) ∧ OwnV w' w.heap.size v r.1 ∧ Below w.heap.size w w'

theorem ofL_yes (xs : List Int) (h : rdEnd (rdVs (rdN 32 (some xs)).1.toNat (rdN 32 (some xs)).2).2 = 0) : ofL xs = ((rdVs (rdN 32 (some xs)).1.toNat (rdN 32 (some xs)).2).1, 0) := by unfold ofL; rw [if_pos h]
theorem ofL_no (xs : List Int) (h : ¬ rdEnd (rdVs (rdN 32 (some xs)).1.toNat (rdN 32 (some xs)).2).2 = 0) : ofL xs = ([], 30) := by unfold ofL; rw [if_neg h]
theorem rdEnd_30 (st : Option (List Int)) (h : ¬ rdEnd st = 0) : rdEnd st = 30 := by
  cases st with
  | none => rfl
  | some xs => cases xs with
    | nil => exact absurd rfl h
    | cons c r => rfl

set_option maxHeartbeats 2000000 in
theorem of_any (a : Option Addr) (len cap : Nat) (xs : List Int) (w : World) (h : IsBytes w a len cap xs) (hl : len ≤ 1000000) :
    Calls Try.prog 28 #[.slice a len cap] w fun e w' => OfRowPost w (ofL xs) e w' := by
  have HI := hide h
  have hlen := h.1
  have HBy : Hid (Byt (some xs)) := by intro ys hy; cases hy; exact h.2.2.2.1
  clear h
  obtain ⟨r1, r2, hb1⟩ := rdN_range 32 (some xs) HBy.out (by omega)
  have HLf : Hid (rdLeft (rdN 32 (some xs)).2 ≤ 1000000) := by
    have h1 := rdN_left 32 (some xs) HBy.out
    have h2 : rdLeft (some xs) = (xs.length : Int) := rfl
    show _ ≤ _
    omega
  have HY := hide (ofL_yes xs)
  have HNo := hide (ofL_no xs)
  have HC := hide (fun p q w h => rdN_any p q (some xs) 32 w h (by omega) (by omega))
  have HBy1 := hide hb1
  clear hlen hb1
  generalize ofL xs = res at *
  generalize rdN 32 (some xs) = ns at *
  obtain ⟨n, st0⟩ := ns
  dsimp only at *
  obtain ⟨N, rfl⟩ := Int.eq_ofNat_of_zero_le r1
  rw [Int.toNat_natCast] at HY HNo
  have HLs := hide (rdVs_left st0 HBy1.out)
  have HLe := hide (rdVs_len st0)
  go_enter Try.func28, Try.ntmps28
  go_wp2_with (first
    | (go_at_call 12; refine (read_any a len cap xs _ HI.out (by omega)).mono ?_; rintro e w1 ⟨p, q, rfl, hpw, hqw, hR, hb1⟩; have HR0 := hide hR; have hsz1 := hb1.size; clear hR)
    | (go_at_call 13; refine (HC.out p q _ HR0.out).mono ?_; rintro e w2 ⟨rfl, hpost⟩; have HR := hide hpost.1; have hb2 := hb1.trans (hpost.below (B := w.heap.size) hsz1 hpw); have hpl := hpost.1.at; have hql := hpost.1.qlt; clear hpost))
  obtain ⟨B, HB⟩ : ∃ B, Hid (B = w2.heap.size) := ⟨_, rfl⟩
  have hpB : p < B := by rw [HB.out]; exact hpl
  have hqB : q < B := by rw [HB.out]; exact hql
  have hBw : w.heap.size ≤ B := by rw [HB.out]; exact hb2.size
  clear hpl hql
  go_loopw [5, 11] (fun v i wr => ∃ k : Nat, k ≤ N ∧ i = .int .u64 k ∧ IsR true wr p q (rdVs k st0).2 ∧ OwnV wr B v (rdVs k st0).1 ∧ Below w.heap.size w wr ∧ B ≤ wr.heap.size) (fun _ i _ => N - (intOf i).toNat)
  case atStart => exact ⟨0, Nat.zero_le _, rfl, HR.out, ownV_nil _ _, hb2, by rw [HB.out]; exact Nat.le_refl _⟩
  case round =>
    obtain ⟨k, hk, rfl, hRk, hown, hb, hB⟩ := hrel
    have HRk := hide hRk
    have HO := hide hown
    have hsz := hb.size
    have HLk : Hid (rdLeft (rdVs k st0).2 ≤ 1000000000) := by have h1 := (HLs.out k).1; have h2 := HLf.out; show _ ≤ _; omega
    have HLn : Hid ((rdVs k st0).1.length ≤ 1000) := by show _ ≤ _; rw [HLe.out k]; omega
    have HS1 : Hid ((rdVs (k + 1) st0).1 = (rdVs k st0).1 ++ [(rdV (rdVs k st0).2).1]) := rfl
    have HS2 : Hid ((rdVs (k + 1) st0).2 = (rdV (rdVs k st0).2).2) := rfl
    clear hRk hown
    by_cases hlt : k < N
    · have HA := hide (fun w h h' => rdV_any p q (rdVs k st0).2 w h h')
      generalize (rdVs k st0).2 = st at *
      generalize (rdVs k st0).1 = vs at *
      generalize rdV st = rv at *
      obtain ⟨⟨zk, zn, zs⟩, st'⟩ := rv
      unfold Val.v at HA
      dsimp only at *
      go_wp2_with (first
        | (go_at_call 19; go_must (refine (HA.out _ HRk.out HLk.out).mono ?_); rintro e w2 ⟨rfl, hpost⟩; have HR2 := hide hpost.1; have HO2 := hide (HO.out.beside hpost.2 hpB); have hb2' := hb.trans (hpost.below (B := w.heap.size) hsz hpw); have hB2 := Nat.le_trans hB hpost.2.size; clear hpost)
        | (at_builtin; go_must (refine wp_appV _ rfl (.tmp 13) (.tmp 16) rfl B _ _ rfl (HO2.out.keep (new_below _ _)) w2.heap.size 0 1 1 [⟨zk, zn, zs⟩] rfl rfl (cellsV_new _ ⟨zk, zn, zs⟩ _ rfl) (by have := HLn.out; simp only [List.length_singleton]; omega) (by simp; omega) ?_); intro v3 w3 hown3 hg3 hb3; have HO3 := hide hown3; have HR3 := hide ((HR2.out.keep (new_below _ _)).lies (Below.far hb3) (by omega) (by omega)); have hb3' := (hb2'.alloc (by omega) _).trans (hb3.mono (by omega)); have hB3 : B ≤ w3.heap.size := (by have := hb3.size; simp only [World.size_alloc] at this; omega); clear hown3 hg3 hb3))
      go_roundw
      case rel => exact ⟨k + 1, by omega, by go_num, by rw [HS2.out]; exact HR3.out, by rw [HS1.out]; exact HO3.out, hb3', hB3⟩
      case measure => simp [intOf]; omega
    · have hkl : k = N := by omega
      subst hkl
      by_cases hend : rdEnd (rdVs k st0).2 = 0
      · have HX := hide (HY.out hend)
        have HE := hide (fun w h => end_any p q (rdVs k st0).2 w h)
        rw [hend] at HE
        clear hend HY HNo
        go_wp2_with (first
          | (go_at_call 22; refine (HE.out _ HRk.out).mono ?_; rintro e w' ⟨rfl, hw⟩; have hw := hw.symm; subst hw))
        go_ret2
        rw [HX.out]
        exact ⟨_, rfl, HO.out.mono hBw, hb⟩
      · have HX := hide (HNo.out hend)
        have HE := hide (fun w h => end_any p q (rdVs k st0).2 w h)
        rw [rdEnd_30 _ hend] at HE
        clear hend HY HNo
        go_wp2_with (first
          | (go_at_call 22; refine (HE.out _ HRk.out).mono ?_; rintro e w' ⟨rfl, hw⟩; have hw := hw.symm; subst hw))
        go_ret2
        rw [HX.out]
        exact ⟨_, rfl, ownV_nil _ _, hb⟩

set_option maxHeartbeats 2000000 in
theorem unrow_any (a : Option Addr) (len cap : Nat) (xs : List Int) (w : World) (h : IsBytes w a len cap xs) (hl : len ≤ 1000000) :
    Calls Try.prog 29 #[.slice a len cap] w fun e w' => OfRowPost w (ofL xs) e w' := by
  have HI := hide h
  have hlen := h.1
  have HBy : Hid (Byt (some xs)) := by intro ys hy; cases hy; exact h.2.2.2.1
  clear h
  obtain ⟨r1, r2, hb1⟩ := rdN_range 32 (some xs) HBy.out (by omega)
  have HLf : Hid (rdLeft (rdN 32 (some xs)).2 ≤ 1000000) := by
    have h1 := rdN_left 32 (some xs) HBy.out
    have h2 : rdLeft (some xs) = (xs.length : Int) := rfl
    show _ ≤ _
    omega
  have HY := hide (ofL_yes xs)
  have HNo := hide (ofL_no xs)
  have HC := hide (fun p q w h => xN_any p q (some xs) 32 w h (by omega) (by omega))
  have HBy1 := hide hb1
  clear hlen hb1
  generalize ofL xs = res at *
  generalize rdN 32 (some xs) = ns at *
  obtain ⟨n, st0⟩ := ns
  dsimp only at *
  obtain ⟨N, rfl⟩ := Int.eq_ofNat_of_zero_le r1
  rw [Int.toNat_natCast] at HY HNo
  have HLs := hide (rdVs_left st0 HBy1.out)
  have HLe := hide (rdVs_len st0)
  go_enter Try.func29, Try.ntmps29
  obtain ⟨q, hq1, hq2⟩ : ∃ q, (len ≠ 0 → ∀ x, a = some x → x.block = q ∧ q < w.heap.size) ∧ q ≤ w.heap.size := by
    by_cases h0 : len = 0
    · exact ⟨w.heap.size, fun h => absurd h0 h, Nat.le_refl _⟩
    · obtain ⟨g, off, rfl, hg, -⟩ := HI.out.at (k := 0) (by omega)
      exact ⟨g, fun _ x hx => by cases hx; exact ⟨rfl, hg⟩, by omega⟩
  obtain ⟨p, HPp⟩ : ∃ p, Hid (p = w.heap.size) := ⟨_, rfl⟩
  have HR0 : Hid (IsR false (w.alloc (.cells #[.slice a len cap, .bool false] 32)) p q (some xs)) := isR_new false _ w a len cap xs p q HPp.out.symm HI.out hq1 (by rw [HPp.out]; exact hq2)
  have hpw : w.heap.size ≤ p := by rw [HPp.out]; exact Nat.le_refl _
  clear hq1 hq2
  go_wp2_with (first
    | (go_at_call 14; rw [← HPp.out]; refine (HC.out p q _ HR0.out).mono ?_; rintro e w2 ⟨rfl, hpost⟩; have HR := hide hpost.1; have hb2 := (new_below w _).trans (hpost.below (B := w.heap.size) (by simp) hpw); have hpl := hpost.1.at; have hql := hpost.1.qlt; clear hpost))
  obtain ⟨B, HB⟩ : ∃ B, Hid (B = w2.heap.size) := ⟨_, rfl⟩
  have hpB : p < B := by rw [HB.out]; exact hpl
  have hqB : q < B := by rw [HB.out]; exact hql
  have hBw : w.heap.size ≤ B := by rw [HB.out]; exact hb2.size
  clear hpl hql
  go_loopw [6, 7] (fun v i wr => ∃ k : Nat, k ≤ N ∧ i = .int .u64 k ∧ IsR false wr p q (rdVs k st0).2 ∧ OwnV wr B v (rdVs k st0).1 ∧ Below w.heap.size w wr ∧ B ≤ wr.heap.size) (fun _ i _ => N - (intOf i).toNat)
  case atStart => exact ⟨0, Nat.zero_le _, rfl, HR.out, ownV_nil _ _, hb2, by rw [HB.out]; exact Nat.le_refl _⟩
  case round =>
    obtain ⟨k, hk, rfl, hRk, hown, hb, hB⟩ := hrel
    have HRk := hide hRk
    have HO := hide hown
    have hsz := hb.size
    have HLk : Hid (rdLeft (rdVs k st0).2 ≤ 1000000000) := by have h1 := (HLs.out k).1; have h2 := HLf.out; show _ ≤ _; omega
    have HLn : Hid ((rdVs k st0).1.length ≤ 1000) := by show _ ≤ _; rw [HLe.out k]; omega
    have HS1 : Hid ((rdVs (k + 1) st0).1 = (rdVs k st0).1 ++ [(rdV (rdVs k st0).2).1]) := rfl
    have HS2 : Hid ((rdVs (k + 1) st0).2 = (rdV (rdVs k st0).2).2) := rfl
    clear hRk hown
    by_cases hlt : k < N
    · have HA := hide (fun w h h' => xV_any p q (rdVs k st0).2 w h h')
      generalize (rdVs k st0).2 = st at *
      generalize (rdVs k st0).1 = vs at *
      generalize rdV st = rv at *
      obtain ⟨⟨zk, zn, zs⟩, st'⟩ := rv
      unfold Val.v at HA
      dsimp only at *
      go_wp2_with (first
        | (go_at_call 20; go_must (refine (HA.out _ HRk.out HLk.out).mono ?_); rintro e w2 ⟨rfl, hpost⟩; have HR2 := hide hpost.1; have HO2 := hide (HO.out.beside hpost.2 hpB); have hb2' := hb.trans (hpost.below (B := w.heap.size) hsz hpw); have hB2 := Nat.le_trans hB hpost.2.size; clear hpost)
        | (at_builtin; go_must (refine wp_appV _ rfl (.tmp 18) (.tmp 21) rfl B _ _ rfl (HO2.out.keep (new_below _ _)) w2.heap.size 0 1 1 [⟨zk, zn, zs⟩] rfl rfl (cellsV_new _ ⟨zk, zn, zs⟩ _ rfl) (by have := HLn.out; simp only [List.length_singleton]; omega) (by simp; omega) ?_); intro v3 w3 hown3 hg3 hb3; have HO3 := hide hown3; have HR3 := hide ((HR2.out.keep (new_below _ _)).lies (Below.far hb3) (by omega) (by omega)); have hb3' := (hb2'.alloc (by omega) _).trans (hb3.mono (by omega)); have hB3 : B ≤ w3.heap.size := (by have := hb3.size; simp only [World.size_alloc] at this; omega); clear hown3 hg3 hb3))
      go_roundw
      case rel => exact ⟨k + 1, by omega, by go_num, by rw [HS2.out]; exact HR3.out, by rw [HS1.out]; exact HO3.out, hb3', hB3⟩
      case measure => simp [intOf]; omega
    · have hkl : k = N := by omega
      subst hkl
      by_cases hend : rdEnd (rdVs k st0).2 = 0
      · have HX := hide (HY.out hend)
        have HE := hide (fun w h => xend_any p q (rdVs k st0).2 w h)
        rw [hend] at HE
        clear hend HY HNo
        go_wp2_with (first
          | (go_at_call 23; refine (HE.out _ HRk.out).mono ?_; rintro e w' ⟨rfl, hw⟩; have hw := hw.symm; subst hw))
        go_ret2
        rw [HX.out]
        exact ⟨_, rfl, HO.out.mono hBw, hb⟩
      · have HX := hide (HNo.out hend)
        have HE := hide (fun w h => xend_any p q (rdVs k st0).2 w h)
        rw [rdEnd_30 _ hend] at HE
        clear hend HY HNo
        go_wp2_with (first
          | (go_at_call 23; refine (HE.out _ HRk.out).mono ?_; rintro e w' ⟨rfl, hw⟩; have hw := hw.symm; subst hw))
        go_ret2
        rw [HX.out]
        exact ⟨_, rfl, ownV_nil _ _, hb⟩

theorem ofL_err (xs : List Int) : (ofL xs).2 = 0 ∨ ofL xs = ([], 30) := by
  unfold ofL
  split
  · exact .inl rfl
  · exact .inr rfl

theorem ofL_fits (xs : List Int) (hb : ∀ c ∈ xs, 0 ≤ c ∧ c < 256) : ∀ v ∈ (ofL xs).1, v.fits := by
  rcases ofL_err xs with h | h
  · exact (ofL_inv hb (zs := (ofL xs).1) (by rw [← h])).2.2
  · rw [h]; intro v hv; cases hv

theorem isVals_take {w : World} {a : Option Addr} {len cap : Nat} {xs : List Val} (h : IsVals w a len cap xs) (m : Nat) (hm : m ≤ len) : IsVals w a m cap (xs.take m) := by
  obtain ⟨h1, h2, h3, h4, h5⟩ := h
  refine ⟨by rw [List.length_take]; omega, by omega, h3, fun v hv => h4 v (List.mem_of_mem_take hv), ?_⟩
  rcases h5 with h5 | ⟨g, off, ha, hg, hc⟩
  · exact .inl (by omega)
  · refine .inr ⟨g, off, ha, hg, ?_⟩
    intro i hi
    rw [List.length_take] at hi
    have e : (xs.take m).getD i val0 = xs.getD i val0 := by
      have : i < m := by omega
      simp [List.getD, this]
    rw [e]
    exact hc i (by omega)

end Go.Proofs.Ytpaidekocooliaa
