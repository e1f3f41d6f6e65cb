/- row.Put and the reference's Row of any list of values. -/
import Derived.Test.YtpaidekocooliaaRowRowM
import Derived.Test.YtpaidekocooliaaRowRef
namespace Go.Proofs.Ytpaidekocooliaa
open Go.RowKit NumMath
set_option linter.unusedVariables false

theorem may_0 (v : Val) (h : v.k = 0) : mayV v = true := by unfold mayV; simp [h]
theorem may_1 (v : Val) (h : v.k = 1) : mayV v = true := by unfold mayV; simp [h]
theorem may_2 (v : Val) (h : v.k = 2) (hs : v.s.size ≤ 1000) : mayV v = true := by unfold mayV; simp [h, hs]
theorem may_2n (v : Val) (h : v.k = 2) (hs : ¬ v.s.size ≤ 1000) : mayV v = false := by unfold mayV; simp [h]; omega
theorem may_n (v : Val) (h0 : ¬ v.k = 0) (h1 : ¬ v.k = 1) (h2 : ¬ v.k = 2) : mayV v = false := by unfold mayV; simp [h0, h1, h2]

theorem row_not (xs : List Val) (k : Nat) (h : k < xs.length) (hs : mayV (xs.getD k val0) = false) : rowOK xs = false := by
  unfold rowOK
  have : xs.all mayV = false := by
    rw [List.all_eq_false]
    exact ⟨_, getD_mem xs k h, by rw [hs]; simp⟩
  rw [this, Bool.and_false]

theorem row_long (xs : List Val) (h : ¬ xs.length ≤ 32) : rowOK xs = false := by unfold rowOK; simp; omega
theorem row_yes (xs : List Val) (h : xs.length ≤ 32) (ha : xs.all mayV = true) : rowOK xs = true := by unfold rowOK; rw [ha]; simp; omega

set_option maxHeartbeats 400000 in
theorem may_any (k n : Int) (s : ByteArray) (w : World) :
    Calls Try.prog 47 #[.agg #[.int .i64 k, .int .i64 n, .string s]] w fun e w' => e = .returned (.bool (mayV ⟨k, n, s⟩)) ∧ Below w.heap.size w w' := by
  by_cases h0 : k = 0
  · have HX := hide (may_0 ⟨k, n, s⟩ h0)
    subst h0
    go_enter Try.func47, Try.ntmps47
    go_wp2
    go_ret
    exact ⟨retB HX.out.symm, new_below _ _⟩
  · have h0' : (k == 0) = false := by simp [h0]
    by_cases h1 : k = 1
    · have HX := hide (may_1 ⟨k, n, s⟩ h1)
      subst h1
      go_enter Try.func47, Try.ntmps47
      go_wp2
      go_ret
      exact ⟨retB HX.out.symm, new_below _ _⟩
    · have h1' : (k == 1) = false := by simp [h1]
      by_cases h2 : k = 2
      · by_cases hs : s.size ≤ 1000
        · have HX := hide (may_2 ⟨k, n, s⟩ h2 hs)
          have hs' : (s.size : Int) ≤ 1000 := by omega
          subst h2
          go_enter Try.func47, Try.ntmps47
          go_wp2
          go_ret
          exact ⟨retB HX.out.symm, new_below _ _⟩
        · have HX := hide (may_2n ⟨k, n, s⟩ h2 hs)
          have hs' : ¬ (s.size : Int) ≤ 1000 := by omega
          subst h2
          go_enter Try.func47, Try.ntmps47
          go_wp2
          go_ret
          exact ⟨retB HX.out.symm, new_below _ _⟩
      · have h2' : (k == 2) = false := by simp [h2]
        have HX := hide (may_n ⟨k, n, s⟩ h0 h1 h2)
        go_enter Try.func47, Try.ntmps47
        go_wp2
        go_ret
        exact ⟨retB HX.out.symm, new_below _ _⟩

/-- as wValues_any; of no values it does not matter where they lie -/
theorem wValuesO (base p : Nat) (bs : List Int) (a : Option Addr) (len cap : Nat) (xs : List Val) (w : World) (h : IsW w base p bs) (hv : IsVals w a len cap xs) (ho : OffB a (WB w p) ∨ len = 0) (hbig : bs.length + (valsL xs).length ≤ 100000000) (hbase : base ≤ w.heap.size) :
    Calls Try.prog 48 #[.pointer (some ⟨p, 0, none⟩), .slice a len cap] w fun e w' => e = .returned (.tuple #[]) ∧ WPost w base p (bs ++ valsL xs) w' := wValues_any base p bs a len cap xs w h hv ho hbig hbase

/-- a row as bytes, or that it is none -/
def PutPost (w : World) (xs : List Val) (e : Ending) (w' : World) : Prop :=
  ((rowOK xs = true ∧ ∃ v, e = .returned (.tuple #[v, .int .i64 0]) ∧ OwnB w' w.heap.size v (rowL xs)) ∨ (rowOK xs = false ∧ e = .returned (.tuple #[.slice none 0 0, .int .i64 30]))) ∧ Below w.heap.size w w'

theorem PutPost.yes {w w' : World} {xs : List Val} {e : Ending} (h : PutPost w xs e w') (hr : rowOK xs = true) : ∃ v, e = .returned (.tuple #[v, .int .i64 0]) ∧ OwnB w' w.heap.size v (rowL xs) ∧ Below w.heap.size w w' := by
  obtain ⟨h, hb⟩ := h
  rcases h with ⟨_, v, he, ho⟩ | ⟨h, _⟩
  · exact ⟨v, he, ho, hb⟩
  · rw [hr] at h; cases h

theorem PutPost.no {w w' : World} {xs : List Val} {e : Ending} (h : PutPost w xs e w') (hr : rowOK xs = false) : e = .returned (.tuple #[.slice none 0 0, .int .i64 30]) ∧ Below w.heap.size w w' := by
  obtain ⟨h, hb⟩ := h
  rcases h with ⟨h, _⟩ | ⟨_, he⟩
  · rw [hr] at h; cases h
  · exact ⟨he, hb⟩

set_option maxHeartbeats 2000000 in
theorem put_any (a : Option Addr) (len cap : Nat) (xs : List Val) (w : World) (h : IsVals w a len cap xs) :
    Calls Try.prog 26 #[.slice a len cap] w fun e w' => PutPost w xs e w' := by
  have HV := hide h
  obtain ⟨hl, hlc, hm, hfit, -⟩ := h
  unfold maxLen at hm
  have HL : Hid (xs.length = len) := hl
  have HF := hide hfit
  clear hl hfit
  by_cases h32 : (32 : Int) < (len : Int)
  · have HX := hide (row_long xs (by rw [HL.out]; omega))
    go_enter Try.func26, Try.ntmps26
    go_wp2
    go_ret2
    exact ⟨.inr ⟨HX.out, rfl⟩, Below.refl _ _⟩
  · go_enter Try.func26, Try.ntmps26
    go_wp2
    go_loopw [12] (fun i wr => ∃ k : Nat, k ≤ len ∧ i = .int .i64 k ∧ Below w.heap.size w wr ∧ (xs.take k).all mayV = true) (fun i _ => len - (intOf i).toNat)
    case atStart => exact ⟨0, Nat.zero_le _, rfl, Below.refl _ _, by simp⟩
    case round =>
      obtain ⟨k, hk, rfl, hb, hall⟩ := hrel
      have HA := hide hall
      clear hall
      have hsz := hb.size
      by_cases hlt : k < len
      · obtain ⟨g, off, rfl, hg, hc⟩ := HV.out.at hlt
        have hk' : k < xs.length := by rw [HL.out]; exact hlt
        obtain ⟨⟨vk, vn, vs⟩, hv, c0, c1, c2⟩ := (hc.below hb hg).row hk'
        have HT := hide (all_take (p := mayV) xs k hk')
        have HN := hide (row_not xs k hk')
        rw [hv] at HT HN
        clear hv hk' hc
        dsimp only at *
        have HMy := hide (may_any vk vn vs)
        cases hmy : mayV ⟨vk, vn, vs⟩
        · rw [hmy] at HMy
          have HX := hide (HN.out hmy)
          clear hmy
          go_wp2_with (first
            | (go_at_call 47; refine (HMy.out _).mono ?_; rintro e w2 ⟨rfl, hb2⟩; have hb2' := (hb.alloc hsz _).trans (hb2.mono (by simp; omega)); clear hb2))
          go_ret2
          exact ⟨.inr ⟨HX.out, rfl⟩, hb2'⟩
        · rw [hmy] at HMy HT
          clear hmy
          go_wp2_with (first
            | (go_at_call 47; refine (HMy.out _).mono ?_; rintro e w2 ⟨rfl, hb2⟩; have hb2' := (hb.alloc hsz _).trans (hb2.mono (by simp; omega)); clear hb2))
          go_roundw
          case rel => exact ⟨k + 1, by omega, by go_num, hb2', by rw [HT.out, HA.out]; rfl⟩
          case measure => simp [intOf]; omega
      · have hkl : k = len := by omega
        subst hkl
        rw [List.take_of_length_le (by rw [HL.out]; exact Nat.le_refl _)] at HA
        have HX := hide (row_yes xs (by rw [HL.out]; omega) HA.out)
        have HVL : Hid ((valsL xs).length ≤ 40000) := by
          have h1 := valsL_may xs HF.out (List.all_eq_true.1 HA.out)
          have h2 := HL.out
          show _ ≤ _
          omega
        have HNL := hide (numL_length (k : Int) (by omega) (by omega))
        have H0 := hide (isW_new wr w.heap.size _ rfl hsz)
        have HIV := hide (HV.out.keep hb)
        have HOf : Hid (∀ x, a = some x → k ≠ 0 → x.block < w.heap.size) := by
          intro x hx h0
          rcases HV.out.2.2.2.2 with h | ⟨g, off, e, hg, _⟩
          · exact absurd h h0
          · rw [e] at hx; cases hx; exact hg
        go_wp2_with (first
          | (go_at_call 32; go_must (refine (wN_any w.heap.size wr.heap.size [] (k : Int) (wr.heap.size + 1) _ (H0.out.keep (new_below _ _)) (one_num _ _ _ (by simp)) (by omega) (by omega) (by simp) (by simp; omega)).mono ?_); rintro e w2 ⟨rfl, hpost⟩; have HP := hide hpost; have hb2 := ((hb.alloc hsz _).alloc (by simp; omega) _).trans (hpost.below (H0.out.keep (new_below _ _)) (by simp; omega)); have hsz2 := hb2.size; clear hpost)
          | (go_at_call 48; go_must (refine (wValuesO w.heap.size wr.heap.size ([] ++ numL (k : Int)) a k cap xs _ HP.out.1 (HV.out.keep hb2) (by by_cases h0 : k = 0; (exact .inr h0); exact .inl (fun x hx hW => by have h5 := HOf.out x hx h0; have h6 := (HP.out.1.lt hW).2; omega)) (by have h5 := HVL.out; have h6 := HNL.out; simp only [List.nil_append]; omega) hsz2).mono ?_); rintro e w3 ⟨rfl, hpost3⟩; have hb3 := hb2.trans (hpost3.below HP.out.1 hsz2); obtain ⟨wa, wn, wc, hc3, hf3, ho3, hp3, hn3⟩ := hpost3.1; have HO3 := hide ho3; clear hpost3 ho3 hn3))
        go_ret2
        refine ⟨.inl ⟨HX.out, _, rfl, ?_⟩, hb3⟩
        have h3 := HO3.out
        rw [List.nil_append] at h3
        unfold rowL
        rw [HL.out]
        exact h3

/-- as rVal_any; of no text it does not matter how long S is -/
theorem rValS (a : Option Addr) (len cap : Nat) (bs : List Int) (k n : Int) (s : ByteArray) (hk : ¬ k = 2) (w : World) (hs : SrcB w a len bs) (hf : Val.fits ⟨k, n, s⟩) (hl : len ≤ 10000000) :
    Calls Try.prog 40 #[.slice a len cap, .agg #[.int .i64 k, .int .i64 n, .string s]] w fun e w' => ∃ v, e = .returned v ∧ OwnB w' w.heap.size v (bs ++ valL ⟨k, n, s⟩) ∧ Below w.heap.size w w' := rVal_any a len cap bs k n s w hs hf hl (.inl hk)

set_option maxRecDepth 20000 in
set_option maxHeartbeats 2000000 in
theorem rrow_any (a : Option Addr) (len cap : Nat) (xs : List Val) (w : World) (h : IsVals w a len cap xs) :
    Calls Try.prog 27 #[.slice a len cap] w fun e w' => PutPost w xs e w' := by
  have HV := hide h
  obtain ⟨hl, hlc, hm, hfit, -⟩ := h
  unfold maxLen at hm
  have HL : Hid (xs.length = len) := hl
  have HF := hide hfit
  clear hl hfit
  by_cases h32 : (32 : Int) < (len : Int)
  · have HX := hide (row_long xs (by rw [HL.out]; omega))
    go_enter Try.func27, Try.ntmps27
    go_wp2
    go_ret2
    exact ⟨.inr ⟨HX.out, rfl⟩, Below.refl _ _⟩
  · have HNL := hide (numL_length (len : Int) (by omega) (by omega))
    go_enter Try.func27, Try.ntmps27
    go_wp2_with (first
      | (go_at_call 37; go_must (refine (rN_any none 0 0 [] (len : Int) _ ⟨rfl, .inl rfl⟩ (by omega) (by omega) (by omega)).mono ?_); rintro e w1 ⟨v1, rfl, hown1, hb1⟩; have HO1 := hide hown1; clear hown1))
    go_loopw [4, 16] (fun v i wr => ∃ k : Nat, k ≤ len ∧ i = .int .i64 k ∧ OwnB wr w.heap.size v (numL (len : Int) ++ valsL (xs.take k)) ∧ Below w.heap.size w wr ∧ (xs.take k).all mayV = true) (fun _ i _ => len - (intOf i).toNat)
    case atStart => exact ⟨0, Nat.zero_le _, rfl, by have h1 := HO1.out; rw [List.nil_append] at h1; rw [List.take_zero]; show OwnB _ _ _ (_ ++ []); rw [List.append_nil]; exact h1, hb1, by simp⟩
    case round =>
      obtain ⟨k, hk, rfl, hown, hb, hall⟩ := hrel
      have HA := hide hall
      have HO := hide hown
      have hsz := hb.size
      have HXl : Hid ((numL (len : Int) ++ valsL (xs.take k)).length ≤ 50000) := by
        have h1 := valsL_may (xs.take k) (fun v hv => HF.out v (List.mem_of_mem_take hv)) (List.all_eq_true.1 hall)
        have h2 := HNL.out
        rw [List.length_take] at h1
        show _ ≤ _
        rw [List.length_append]
        omega
      obtain ⟨va, vn', vc, rfl, hsrc⟩ := hown.any
      have HSr := hide hsrc
      clear hall hown hsrc
      by_cases hlt : k < len
      · obtain ⟨g, off, rfl, hg, hc⟩ := HV.out.at hlt
        have hk' : k < xs.length := by rw [HL.out]; exact hlt
        have hfv := HF.out _ (getD_mem xs k hk')
        obtain ⟨⟨vk, vn, vs⟩, hv, c0, c1, c2⟩ := (hc.below hb hg).row hk'
        have HT := hide (all_take (p := mayV) xs k hk')
        have HN := hide (row_not xs k hk')
        have HVt := hide (valsL_take xs k hk')
        rw [hv] at HT HN HVt hfv
        have HFv := hide hfv
        clear hv hk' hc hfv
        have HM0 := hide (may_0 ⟨vk, vn, vs⟩)
        have HM1 := hide (may_1 ⟨vk, vn, vs⟩)
        have HM2 := hide (may_2 ⟨vk, vn, vs⟩)
        have HM2n := hide (may_2n ⟨vk, vn, vs⟩)
        have HMn := hide (may_n ⟨vk, vn, vs⟩)
        dsimp only at *
        obtain ⟨bs, HBs⟩ : ∃ bs, Hid (numL (len : Int) ++ valsL (xs.take k) = bs) := ⟨_, rfl⟩
        have HVt : Hid (numL (len : Int) ++ valsL (xs.take (k + 1)) = bs ++ valL ⟨vk, vn, vs⟩) := by
          show _ = _
          rw [HVt.out, ← List.append_assoc, HBs.out]
        rw [HBs.out] at HO HXl HSr
        by_cases hn : vk < 0
        · have HMy := hide (HMn.out (by omega) (by omega) (by omega))
          have HX := hide (HN.out HMy.out)
          go_wp2
          go_ret2
          exact ⟨.inr ⟨HX.out, rfl⟩, hb.alloc hsz _⟩
        · by_cases hg2 : 2 < vk
          · have HMy := hide (HMn.out (by omega) (by omega) (by omega))
            have HX := hide (HN.out HMy.out)
            go_wp2
            go_ret2
            exact ⟨.inr ⟨HX.out, rfl⟩, hb.alloc hsz _⟩
          · by_cases h2 : vk = 2
            · subst h2
              by_cases hs : (1000 : Int) < (vs.size : Int)
              · have HMy := hide (HM2n.out rfl (by omega))
                have HX := hide (HN.out HMy.out)
                go_wp2
                go_ret2
                exact ⟨.inr ⟨HX.out, rfl⟩, hb.alloc hsz _⟩
              · have HMy := hide (HM2.out rfl (by omega))
                have hsz' : vs.size ≤ 1000 := by omega
                go_wp2_with (first
                  | (go_at_call 40; go_must (refine (rVal_any va vn' vc bs 2 vn vs _ (HSr.out.keep (new_below _ _)) HFv.out (by have h5 := HXl.out; have h6 := HSr.out.1; omega) (.inr (by omega))).mono ?_); rintro e w2 ⟨v2, rfl, hown2, hb2⟩; have HO2 := hide (hown2.mono (base' := w.heap.size) (by simp; omega)); have hb2' := (hb.alloc hsz _).trans (hb2.mono (by simp; omega)); clear hown2 hb2))
                go_roundw
                case rel => exact ⟨k + 1, by omega, by go_num, by rw [HVt.out]; exact HO2.out, hb2', by rw [HT.out, HA.out, HMy.out]; rfl⟩
                case measure => simp [intOf]; omega
            · have h2' : (vk == 2) = false := by simp [h2]
              have HMy : Hid (mayV ⟨vk, vn, vs⟩ = true) := by
                have h5 : vk = 0 ∨ vk = 1 := by omega
                rcases h5 with h5 | h5
                · exact HM0.out h5
                · exact HM1.out h5
              have HSm := hide (rValS va vn' vc bs vk vn vs h2)
              go_wp2_with (first
                | (go_at_call 40; go_must (refine (HSm.out _ (HSr.out.keep (new_below _ _)) HFv.out (by have h5 := HXl.out; have h6 := HSr.out.1; omega)).mono ?_); rintro e w2 ⟨v2, rfl, hown2, hb2⟩; have HO2 := hide (hown2.mono (base' := w.heap.size) (by simp; omega)); have hb2' := (hb.alloc hsz _).trans (hb2.mono (by simp; omega)); clear hown2 hb2))
              go_roundw
              case rel => exact ⟨k + 1, by omega, by go_num, by rw [HVt.out]; exact HO2.out, hb2', by rw [HT.out, HA.out, HMy.out]; rfl⟩
              case measure => simp [intOf]; omega
      · have hkl : k = len := by omega
        subst hkl
        rw [List.take_of_length_le (by rw [HL.out]; exact Nat.le_refl _)] at HA HO
        have HX := hide (row_yes xs (by rw [HL.out]; omega) HA.out)
        go_wp2
        go_ret2
        refine ⟨.inl ⟨HX.out, _, rfl, ?_⟩, hb⟩
        have h3 := HO.out
        unfold rowL
        rw [HL.out]
        exact h3

end Go.Proofs.Ytpaidekocooliaa
