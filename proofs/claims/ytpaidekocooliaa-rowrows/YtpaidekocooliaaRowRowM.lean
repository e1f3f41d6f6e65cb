/- Rows as bytes, and bytes as rows: in plain lists. -/
import Derived.Test.YtpaidekocooliaaRowBackM
namespace Go.Proofs.Ytpaidekocooliaa
open Go.RowKit NumMath
set_option linter.unusedVariables false

/-- whether a value may stand in a row -/
def mayV (v : Val) : Bool := decide (v.k = 0) || decide (v.k = 1) || (decide (v.k = 2) && decide (v.s.size ≤ 1000))
def rowOK (xs : List Val) : Bool := decide (xs.length ≤ 32) && xs.all mayV
/-- a row's bytes -/
def rowL (xs : List Val) : List Int := numL xs.length ++ valsL xs

/-- so many values, read -/
def rdVs : Nat → Option (List Int) → List Val × Option (List Int)
  | 0, st => ([], st)
  | n + 1, st => ((rdVs n st).1 ++ [(rdV (rdVs n st).2).1], (rdV (rdVs n st).2).2)

def ofL (xs : List Int) : List Val × Int :=
  if rdEnd (rdVs (rdN 32 (some xs)).1.toNat (rdN 32 (some xs)).2).2 = 0 then ((rdVs (rdN 32 (some xs)).1.toNat (rdN 32 (some xs)).2).1, 0) else ([], 30)

theorem mayV_size {v : Val} (h : mayV v = true) (hk : v.k = 2) : v.s.size ≤ 1000 := by
  unfold mayV at h
  simp [hk] at h
  exact h

theorem valL_may (v : Val) (hf : v.fits) (h : mayV v = true) : (valL v).length ≤ 1011 := by
  obtain ⟨z1, z2⟩ := zigV_range v.n hf.2.1.1 hf.2.1.2
  have h1 := numL_length (zigV v.n) z1 z2
  unfold valL
  split
  · rw [List.length_cons]; omega
  · split
    · rename_i h2
      have h3 := mayV_size h h2
      have h4 := numL_length (v.s.size : Int) (by omega) (by omega)
      rw [List.length_cons, List.length_append, sb_length]; omega
    · simp only [List.length_singleton]; omega

theorem valsL_may : ∀ (xs : List Val), (∀ v ∈ xs, v.fits) → (∀ v ∈ xs, mayV v = true) → (valsL xs).length ≤ 1011 * xs.length := by
  intro xs
  induction xs with
  | nil => intro _ _; exact Nat.le_refl _
  | cons v r ih =>
    intro hf h
    have h1 := valL_may v (hf v List.mem_cons_self) (h v List.mem_cons_self)
    have h2 := ih (fun x hx => hf x (List.mem_cons_of_mem _ hx)) (fun x hx => h x (List.mem_cons_of_mem _ hx))
    unfold valsL at h2 ⊢
    rw [List.flatMap_cons, List.length_append, List.length_cons]
    omega

theorem rowOK_parts {xs : List Val} (h : rowOK xs = true) : xs.length ≤ 32 ∧ ∀ v ∈ xs, mayV v = true := by
  unfold rowOK at h
  rw [Bool.and_eq_true, List.all_eq_true] at h
  exact ⟨of_decide_eq_true h.1, h.2⟩

theorem rowL_range (xs : List Val) : ∀ c ∈ rowL xs, 0 ≤ c ∧ c < 256 := by
  intro c hc
  rcases List.mem_append.1 hc with hc | hc
  · exact numL_range _ c hc
  · obtain ⟨v, _, hv⟩ := List.mem_flatMap.1 hc
    exact valL_range v c hv

/-! there and back -/

/-- a value that may stand, without its S or N: a value again -/
theorem rd_may (v : Val) (t : List Int) (hf : v.fits) (h : mayV v = true) : rdV (some (valL v ++ t)) = (plainV v, some t) := by
  by_cases h2 : v.k = 2
  · exact rd_val v t hf (mayV_size h h2)
  · by_cases h1 : v.k = 1
    · have hn := rd_num 1 2 (numL (zigV v.n) ++ t) (by omega) (by omega) (by omega)
      rw [numL_small 1 (by omega) (by omega), List.singleton_append] at hn
      have hi := rd_int v.n t hf.2.1.1 hf.2.1.2
      rw [valL_int h1, List.cons_append, rdV_1 _ _ t hn (by rw [hi]), hi]
      unfold plainV
      rw [if_pos h1]
    · have hn := rd_num 0 2 t (by omega) (by omega) (by omega)
      rw [numL_small 0 (by omega) (by omega), List.singleton_append] at hn
      rw [valL_null h1 h2, List.singleton_append, rdV_0 _ _ hn]
      unfold plainV
      rw [if_neg h1, if_neg h2]
      rfl

theorem rdVs_back (xs : List Val) (t : List Int) (hf : ∀ v ∈ xs, v.fits) (h : ∀ v ∈ xs, mayV v = true) : ∀ k, k ≤ xs.length → rdVs k (some (valsL xs ++ t)) = ((xs.take k).map plainV, some (valsL (xs.drop k) ++ t)) := by
  intro k
  induction k with
  | zero => intro _; rfl
  | succ k ih =>
    intro hk
    have e := ih (by omega)
    have hd : xs.drop k = xs.getD k val0 :: xs.drop (k + 1) := drop_at xs k (by omega)
    have hm := getD_mem xs k (by omega)
    show ((rdVs k (some (valsL xs ++ t))).1 ++ [(rdV (rdVs k (some (valsL xs ++ t))).2).1], (rdV (rdVs k (some (valsL xs ++ t))).2).2) = _
    rw [e]
    dsimp only
    have e2 : valsL (xs.drop k) = valL (xs.getD k val0) ++ valsL (xs.drop (k + 1)) := by unfold valsL; rw [hd, List.flatMap_cons]
    rw [e2, List.append_assoc, rd_may _ _ (hf _ hm) (h _ hm)]
    dsimp only
    rw [List.take_add_one, List.map_append]
    simp [List.getD, List.getElem?_eq_getElem (show k < xs.length by omega)]

theorem ofL_row (xs : List Val) (hf : ∀ v ∈ xs, v.fits) (h : rowOK xs = true) : ofL (rowL xs) = (xs.map plainV, 0) := by
  obtain ⟨h1, h2⟩ := rowOK_parts h
  have hn := rd_num (xs.length : Int) 32 (valsL xs) (by omega) (by omega) (by omega)
  unfold ofL rowL
  rw [hn]
  dsimp only
  have hb := rdVs_back xs [] hf h2 xs.length (Nat.le_refl _)
  rw [List.append_nil] at hb
  rw [Int.toNat_natCast, hb, List.take_length, List.drop_length]
  rfl

theorem rdN_inv {most : Int} {xs r : List Int} {n : Int} (hb : ∀ c ∈ xs, 0 ≤ c ∧ c < 256) (h : rdN most (some xs) = (n, some r)) : xs = numL n ++ r ∧ 0 ≤ n ∧ n ≤ most ∧ n ≤ 18446744073709551615 := by
  cases hn : numAt xs with
  | none => rw [rdN_fst most xs hn] at h; cases h
  | some nr =>
    obtain ⟨m, r'⟩ := nr
    obtain ⟨e, hm⟩ := scan_inv hb hn
    by_cases hmost : (m : Int) ≤ most
    · rw [rdN_fit most xs m r' hn hmost] at h
      cases h
      unfold numL
      rw [Int.toNat_natCast]
      exact ⟨e, by omega, hmost, by omega⟩
    · rw [rdN_big most xs m r' hn hmost] at h; cases h

theorem zig_zag' (u : Int) (h : 0 ≤ u) : zigV (zagV u) = u := by unfold zigV zagV; split <;> split <;> omega
theorem zag_range' (u : Int) (h : 0 ≤ u) (h2 : u ≤ 18446744073709551615) : -9223372036854775808 ≤ zagV u ∧ zagV u ≤ 9223372036854775807 := by unfold zagV; split <;> omega

theorem sb_strB' (ts : List Int) (h : ∀ c ∈ ts, 0 ≤ c ∧ c < 256) : sb (strB ts) = ts := sb_strB ts h

theorem rdV_inv {xs r : List Int} {v : Val} (hb : ∀ c ∈ xs, 0 ≤ c ∧ c < 256) (h : rdV (some xs) = (v, some r)) : xs = valL v ++ r ∧ mayV v = true ∧ v.fits := by
  obtain ⟨r1, r2, hb1⟩ := rdN_range 2 (some xs) (by intro ys hy; cases hy; exact hb) (by omega)
  obtain ⟨k, st1, he⟩ : ∃ k st1, rdN 2 (some xs) = (k, st1) := ⟨_, _, rfl⟩
  rw [he] at r1 r2 hb1
  dsimp only at r1 r2 hb1
  have hk : k = 0 ∨ k = 1 ∨ k = 2 := by omega
  cases st1 with
  | none =>
    have h0 : k = 0 := by have := rdN_fails 2 (some xs) (by rw [he]); rw [he] at this; exact this
    subst h0
    rw [rdV_0 _ _ he] at h
    cases h
  | some ys =>
    obtain ⟨e, -, -, -⟩ := rdN_inv hb he
    have hby := hb1 ys rfl
    rcases hk with rfl | rfl | rfl
    · rw [rdV_0 _ _ he] at h
      cases h
      rw [numL_small 0 (by omega) (by omega)] at e
      exact ⟨e, rfl, by simp [Val.fits, val0, maxLen]⟩
    · rw [numL_small 1 (by omega) (by omega)] at e
      cases h2 : (rdI (some ys)).2 with
      | none => rw [rdV_1n _ _ he h2] at h; cases h
      | some zs =>
        rw [rdV_1 _ _ zs he h2] at h
        cases h
        obtain ⟨u, hu⟩ : ∃ u, rdN 18446744073709551615 (some ys) = (u, some r) := ⟨(rdN 18446744073709551615 (some ys)).1, by unfold rdI at h2; dsimp only at h2; rw [← h2]⟩
        obtain ⟨e2, u1, u2, u3⟩ := rdN_inv hby hu
        have hi : (rdI (some ys)).1 = zagV u := by unfold rdI; rw [hu]
        rw [hi]
        obtain ⟨g1, g2⟩ := zag_range' u u1 u3
        refine ⟨?_, rfl, ⟨⟨by dsimp only; omega, by dsimp only; omega⟩, ⟨g1, g2⟩, by unfold maxLen; show (0 : Nat) ≤ _; omega⟩⟩
        rw [valL_int rfl, zig_zag' u u1, e, e2]; rfl
    · rw [numL_small 2 (by omega) (by omega)] at e
      cases h2 : (rdT 1000 (some ys)).2 with
      | none => rw [rdV_2n _ _ he h2] at h; cases h
      | some zs =>
        rw [rdV_2 _ _ zs he h2] at h
        cases h
        obtain ⟨n, st2, hn⟩ : ∃ n st2, rdN 1000 (some ys) = (n, st2) := ⟨_, _, rfl⟩
        cases st2 with
        | none => rw [rdT_none 1000 _ (by decide) (by rw [hn])] at h2; cases h2
        | some us =>
          obtain ⟨e2, u1, u2, u3⟩ := rdN_inv hby hn
          by_cases hfit : n ≤ us.length
          · have ht := rdT_some 1000 (some ys) (by decide) us (by rw [hn]) (by rw [hn]; exact hfit)
            rw [hn] at ht
            dsimp only at ht
            rw [ht] at h2 ⊢
            dsimp only at h2 ⊢
            cases h2
            obtain ⟨N, rfl⟩ := Int.eq_ofNat_of_zero_le u1
            rw [Int.toNat_natCast]
            have hus : ∀ c ∈ us, 0 ≤ c ∧ c < 256 := fun c hc => hby c (by rw [e2]; exact List.mem_append_right _ hc)
            have htk : ∀ c ∈ us.take N, 0 ≤ c ∧ c < 256 := fun c hc => hus c (List.mem_of_mem_take hc)
            have hsz : (strB (us.take N)).size = N := by rw [strB_size, List.length_take]; omega
            refine ⟨?_, ?_, ⟨⟨by dsimp only; omega, by dsimp only; omega⟩, ⟨by dsimp only; omega, by dsimp only; omega⟩, by unfold maxLen; show (strB (us.take N)).size ≤ _; rw [hsz]; omega⟩⟩
            · rw [valL_text rfl]
              dsimp only
              rw [hsz, sb_strB' _ htk, e, e2, List.singleton_append, List.cons_append, List.append_assoc, List.take_append_drop]
            · unfold mayV
              dsimp only
              rw [hsz]
              simp
              omega
          · rw [rdT_long 1000 _ (by decide) us (by rw [hn]) (by rw [hn]; exact hfit)] at h2; cases h2

theorem rdV_none : rdV none = (val0, none) := rdV_0 none none rfl

theorem rdVs_inv (xs : List Int) (hb : ∀ c ∈ xs, 0 ≤ c ∧ c < 256) : ∀ (k : Nat) (vs : List Val) (r : List Int), rdVs k (some xs) = (vs, some r) → xs = valsL vs ++ r ∧ vs.length = k ∧ ∀ v ∈ vs, mayV v = true ∧ v.fits := by
  intro k
  induction k with
  | zero => intro vs r h; cases h; exact ⟨rfl, rfl, by intro v hv; cases hv⟩
  | succ k ih =>
    intro vs r h
    obtain ⟨us, st, he⟩ : ∃ us st, rdVs k (some xs) = (us, st) := ⟨_, _, rfl⟩
    have h' : ((rdVs k (some xs)).1 ++ [(rdV (rdVs k (some xs)).2).1], (rdV (rdVs k (some xs)).2).2) = (vs, some r) := h
    rw [he] at h'
    dsimp only at h'
    cases st with
    | none => rw [rdV_none] at h'; cases h'
    | some ys =>
      obtain ⟨e, hl, hv⟩ := ih us ys he
      obtain ⟨v, st2, hv2⟩ : ∃ v st2, rdV (some ys) = (v, st2) := ⟨_, _, rfl⟩
      rw [hv2] at h'
      cases h'
      obtain ⟨e2, m1, m2⟩ := rdV_inv (fun c hc => hb c (by rw [e]; exact List.mem_append_right _ hc)) hv2
      refine ⟨?_, by rw [List.length_append, hl]; rfl, ?_⟩
      · rw [e, e2]
        unfold valsL
        rw [List.flatMap_append, List.flatMap_cons, List.flatMap_nil, List.append_nil, List.append_assoc]
      · intro u hu
        rcases List.mem_append.1 hu with hu | hu
        · exact hv u hu
        · rw [List.mem_singleton.1 hu]; exact ⟨m1, m2⟩

theorem rdEnd_zero {st : Option (List Int)} (h : rdEnd st = 0) : st = some [] := by
  cases st with
  | none => cases h
  | some xs => cases xs with
    | nil => rfl
    | cons c r => cases h

theorem rdVs_none : ∀ k, (rdVs k none).2 = none := by
  intro k
  induction k with
  | zero => rfl
  | succ k ih => show (rdV (rdVs k none).2).2 = none; rw [ih, rdV_none]

theorem ofL_inv {xs : List Int} (hb : ∀ c ∈ xs, 0 ≤ c ∧ c < 256) {zs : List Val} (h : ofL xs = (zs, 0)) : xs = rowL zs ∧ rowOK zs = true ∧ ∀ v ∈ zs, v.fits := by
  unfold ofL at h
  split at h
  · rename_i hend
    obtain ⟨n, st, he⟩ : ∃ n st, rdN 32 (some xs) = (n, st) := ⟨_, _, rfl⟩
    rw [he] at h hend
    dsimp only at h hend
    cases st with
    | none => rw [rdVs_none] at hend; cases hend
    | some ys =>
      obtain ⟨e, n1, n2, -⟩ := rdN_inv hb he
      obtain ⟨us, st2, he2⟩ : ∃ us st2, rdVs n.toNat (some ys) = (us, st2) := ⟨_, _, rfl⟩
      rw [he2] at h hend
      dsimp only at h hend
      have hs := rdEnd_zero hend
      subst hs
      cases h
      obtain ⟨e2, hl, hv⟩ := rdVs_inv ys (fun c hc => hb c (by rw [e]; exact List.mem_append_right _ hc)) _ _ _ he2
      have hn : ((zs.length : Nat) : Int) = n := by omega
      refine ⟨?_, ?_, fun v hv' => (hv v hv').2⟩
      · unfold rowL
        rw [hn, e, e2, List.append_nil]
      · unfold rowOK
        rw [Bool.and_eq_true, List.all_eq_true]
        exact ⟨by simp; omega, fun v hv' => (hv v hv').1⟩
  · cases h

end Go.Proofs.Ytpaidekocooliaa
