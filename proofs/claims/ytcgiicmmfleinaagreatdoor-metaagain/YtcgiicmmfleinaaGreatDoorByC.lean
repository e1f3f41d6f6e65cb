/- Bytes held against each other: their order, bytes.Compare, okey.Within and the reference's Within of any bytes. -/
import Derived.Test.YtcgiicmmfleinaaGreatDoorBtA
import Derived.Laws.Externs
import Derived.Lib.BytesEntry
namespace Go.Proofs.YtcgiicmmfleinaaGreatDoor
open Go.RowKit NumMath
set_option linter.unusedVariables false

def sb (s : ByteArray) : List Int := s.data.toList.map (fun c => (c.toNat : Int))

theorem sb_length (s : ByteArray) : (sb s).length = s.size := by unfold sb; rw [List.length_map]; rfl

def isB (c : Int) : Prop := 0 ≤ c ∧ c < 256

theorem sb_range (s : ByteArray) : ∀ c ∈ sb s, isB c := by
  intro c hc
  unfold sb at hc
  obtain ⟨b, _, rfl⟩ := List.mem_map.1 hc
  have := b.toNat_lt
  unfold isB
  omega

theorem sb_strB (xs : List Int) (h : ∀ c ∈ xs, isB c) : sb (strB xs) = xs := by
  unfold sb
  show List.map _ (strOfNums xs).data.toList = xs
  rw [strOfNums_data, List.map_map]
  conv => rhs; rw [← List.map_id xs]
  refine List.map_congr_left fun c hc => ?_
  have hb := h c hc
  unfold isB at hb
  show ((UInt8.ofNat c.toNat).toNat : Int) = c
  rw [byte_of c hb]
  omega

theorem strB_sb (s : ByteArray) : strB (sb s) = s := by
  apply ByteArray.ext
  apply Array.toList_inj.1
  show (strOfNums (sb s)).data.toList = _
  rw [strOfNums_data]
  unfold sb
  rw [List.map_map]
  conv => rhs; rw [← List.map_id s.data.toList]
  refine List.map_congr_left fun c hc => ?_
  show UInt8.ofNat ((c.toNat : Int)).toNat = c
  rw [Int.toNat_natCast]
  exact UInt8.ofNat_toNat

theorem sb_inj {s t : ByteArray} (h : sb s = sb t) : s = t := by rw [← strB_sb s, ← strB_sb t, h]

/-- one list of bytes ahead of another -/
def lessL : List Int → List Int → Bool
  | _, [] => false
  | [], _ :: _ => true
  | a :: x, b :: y => decide (a < b) || (decide (a = b) && lessL x y)

theorem lessL_self : ∀ xs, lessL xs xs = false := by
  intro xs
  induction xs with
  | nil => rfl
  | cons a r ih => simp [lessL, ih]

/-- ahead of, or behind, or the same -/
theorem lessL_anti : ∀ xs ys, lessL xs ys = true → lessL ys xs = false := by
  intro xs
  induction xs with
  | nil => intro ys _; cases ys <;> simp [lessL]
  | cons a r ih =>
    intro ys h
    cases ys with
    | nil => simp [lessL] at h
    | cons b t =>
      simp only [lessL, Bool.or_eq_true, decide_eq_true_eq, Bool.and_eq_true] at h
      rcases h with h | ⟨h1, h2⟩
      · simp [lessL]; omega
      · subst h1
        simp [lessL, ih t h2]

theorem bytesLess_map : ∀ (l m : List UInt8), Op.bytesLess l m = lessL (l.map fun c => (c.toNat : Int)) (m.map fun c => (c.toNat : Int)) := by
  intro l
  induction l with
  | nil => intro m; cases m <;> rfl
  | cons a r ih =>
    intro m
    cases m with
    | nil => rfl
    | cons b t =>
      show (decide (a < b) || (a == b && Op.bytesLess r t)) = (decide ((a.toNat : Int) < (b.toNat : Int)) || (decide ((a.toNat : Int) = (b.toNat : Int)) && lessL _ _))
      rw [ih t]
      have e1 : decide (a < b) = decide ((a.toNat : Int) < (b.toNat : Int)) := by
        congr 1
        rw [UInt8.lt_iff_toNat_lt]
        exact propext ⟨fun h => by omega, fun h => by omega⟩
      have e2 : (a == b) = decide ((a.toNat : Int) = (b.toNat : Int)) := by
        by_cases hab : a = b
        · subst hab; simp
        · have : ¬ (a.toNat : Int) = (b.toNat : Int) := by
            intro h
            exact hab (UInt8.toNat_inj.1 (by omega))
          simp [hab, this]
      rw [e1, e2]

theorem bytesLess_sb (s t : ByteArray) : Op.bytesLess s.toList t.toList = lessL (sb s) (sb t) := by
  rw [ByteArray.toList_eq, ByteArray.toList_eq, bytesLess_map]
  rfl

theorem bytesLess_strB (xs ys : List Int) (hx : ∀ c ∈ xs, isB c) (hy : ∀ c ∈ ys, isB c) : Op.bytesLess (strB xs).toList (strB ys).toList = lessL xs ys := by
  rw [bytesLess_sb, sb_strB xs hx, sb_strB ys hy]

theorem sb_eq (s t : ByteArray) : (s.toList == t.toList) = decide (sb s = sb t) := by
  by_cases h : s = t
  · subst h; simp
  · have h1 : ¬ sb s = sb t := fun e => h (sb_inj e)
    have h2 : ¬ s.toList = t.toList := by
      intro e
      rw [ByteArray.toList_eq, ByteArray.toList_eq] at e
      exact h (ByteArray.ext (Array.toList_inj.1 e))
    simp [h1, h2]

theorem strB_eq (xs ys : List Int) (hx : ∀ c ∈ xs, isB c) (hy : ∀ c ∈ ys, isB c) : ((strB xs).toList == (strB ys).toList) = decide (xs = ys) := by
  rw [sb_eq, sb_strB xs hx, sb_strB ys hy]

theorem lessL_total : ∀ xs ys, lessL xs ys = false → lessL ys xs = false → xs = ys := by
  intro xs
  induction xs with
  | nil => intro ys h _; cases ys with
    | nil => rfl
    | cons b t => simp [lessL] at h
  | cons a r ih =>
    intro ys h1 h2
    cases ys with
    | nil => simp [lessL] at h2
    | cons b t =>
      simp only [lessL, Bool.or_eq_false_iff, decide_eq_false_iff_not, Bool.and_eq_false_iff] at h1 h2
      have hab : a = b := by omega
      subst hab
      rw [ih t (by rcases h1.2 with h | h; exact absurd rfl h; exact h) (by rcases h2.2 with h | h; exact absurd rfl h; exact h)]

/-- the first two bytes that differ tell; else the shorter is less -/
def firstDiff (l m : List UInt8) : Int :=
  match (List.range (min l.length m.length)).find? fun i => l[i]! != m[i]! with
  | some i => if l[i]! < m[i]! then -1 else 1
  | none => if l.length < m.length then -1 else if l.length > m.length then 1 else 0

theorem firstDiff_cons (a b : UInt8) (l m : List UInt8) : firstDiff (a :: l) (b :: m) = if a = b then firstDiff l m else if a < b then -1 else 1 := by
  unfold firstDiff
  have e : min (a :: l).length (b :: m).length = min l.length m.length + 1 := by simp only [List.length_cons]; omega
  rw [e, List.range_succ_eq_map, List.find?_cons, List.find?_map]
  by_cases h : a = b
  · subst h
    simp only [List.getElem!_cons_zero, bne_self_eq_false, if_true]
    have e2 : ((fun i => (a :: l)[i]! != (a :: m)[i]!) ∘ Nat.succ) = fun i => l[i]! != m[i]! := by
      funext i
      simp
    rw [e2]
    cases (List.range (min l.length m.length)).find? fun i => l[i]! != m[i]! with
    | none =>
      simp only [Option.map_none, List.length_cons]
      split <;> split <;> (try split) <;> (try split) <;> omega
    | some i => simp
  · have hb : ((a :: l)[0]! != (b :: m)[0]!) = true := by simp [h]
    rw [hb, if_neg h]
    simp

theorem firstDiff_is : ∀ (l m : List UInt8), firstDiff l m = if Op.bytesLess l m = true then -1 else if (l == m) = true then 0 else 1 := by
  intro l
  induction l with
  | nil =>
    intro m
    cases m with
    | nil => rfl
    | cons b t => simp [firstDiff, Op.bytesLess]
  | cons a r ih =>
    intro m
    cases m with
    | nil => simp [firstDiff, Op.bytesLess]
    | cons b t =>
      rw [firstDiff_cons, ih t]
      show _ = if (decide (a < b) || (a == b && Op.bytesLess r t)) = true then _ else _
      by_cases h : a = b
      · subst h
        simp
      · by_cases h2 : a < b
        · simp [h, h2]
        · simp [h, h2]

theorem bang_data (a : ByteArray) (i : Nat) : a[i]! = a.data.toList[i]! := by
  by_cases h : i < a.size
  · rw [getElem!_pos a i h, getElem!_pos a.data.toList i (by simpa using h)]
    simp [ByteArray.getElem_eq_getElem_data]
  · rw [getElem!_neg a i h, getElem!_neg a.data.toList i (by simpa using h)]

theorem entry_is (a b : ByteArray) : Extern.BytealgCompare.cmp a b = firstDiff a.data.toList b.data.toList := by
  unfold Extern.BytealgCompare.cmp firstDiff
  have e : (fun i : Nat => a[i]! != b[i]!) = fun i : Nat => a.data.toList[i]! != b.data.toList[i]! := by
    funext i
    rw [bang_data, bang_data]
  have ea : a.data.toList.length = a.size := rfl
  have eb : b.data.toList.length = b.size := rfl
  rw [e, ea, eb]
  cases (List.range (min a.size b.size)).find? fun i => a.data.toList[i]! != b.data.toList[i]! with
  | none => rfl
  | some i => dsimp only; rw [bang_data, bang_data]

/-- what Compare answers -/
def cmpB (xs ys : List Int) : Int := if lessL xs ys = true then -1 else if xs = ys then 0 else 1

theorem entry_bytes (xs ys : List Int) (hx : ∀ c ∈ xs, isB c) (hy : ∀ c ∈ ys, isB c) : Extern.BytealgCompare.cmp (strB xs) (strB ys) = cmpB xs ys := by
  rw [entry_is, firstDiff_is]
  have h1 := bytesLess_strB xs ys hx hy
  have h2 := strB_eq xs ys hx hy
  rw [ByteArray.toList_eq, ByteArray.toList_eq] at h1 h2
  unfold cmpB
  rw [h1, h2]
  simp

theorem cmpB_neg (xs ys : List Int) : decide (cmpB xs ys < 0) = lessL xs ys := by
  unfold cmpB
  cases lessL xs ys
  · by_cases h : xs = ys <;> simp [h]
  · simp

theorem bytesOf_row {w : World} {a : Option Addr} {len cap : Nat} {xs : List Int} (h : IsBytes w a len cap xs) : (Extern.Bytes.bytesOf (.slice a len cap)).run Tryz.prog w = .ok (strB xs) w := by
  obtain ⟨h1, h2, h3, h4, h5⟩ := h
  rcases h5 with h5 | ⟨g, off, rfl, hg, hB⟩
  · subst h5
    have : xs = [] := List.length_eq_zero_iff.1 h1
    subst this
    cases a <;> rfl
  · have := Lib.run_loadBytesX (P := Tryz.prog) w xs ⟨g, off, none⟩ .empty (fun j x hj => by
      have h2 : (⟨g, off, none⟩ : Addr).add j = ⟨g, off + j, none⟩ := by unfold Addr.add; split <;> simp_all
      obtain ⟨hj', rfl⟩ := List.getElem?_eq_some_iff.1 hj
      rw [h2, hB j hj']
      simp [List.getD, List.getElem?_eq_getElem hj'])
    rw [h1] at this
    refine this.trans ?_
    congr 1
    apply ByteArray.ext
    simp [strB, strOfNums, Lib.bytesOf]

theorem run_compare {w : World} {a b : Option Addr} {la ca lb cb : Nat} {xs ys : List Int} (h : IsBytes w a la ca xs) (h' : IsBytes w b lb cb ys) :
    (callFunc 193 #[.slice a la ca, .slice b lb cb]).run Tryz.prog w = .ok (.value (.int .i64 (cmpB xs ys))) w := by
  rw [run_callFunc_extern (e := Extern.BytealgCompare.compare) Tryz.func193 (by kernel_rfl) (by kernel_rfl) (by kernel_rfl) (by kernel_rfl)]
  change (Sem.run Tryz.prog (do pure (goInt (Extern.BytealgCompare.cmp (← Extern.Bytes.bytesOf (.slice a la ca)) (← Extern.Bytes.bytesOf (.slice b lb cb))))) w).andThen _ = _
  simp only [Sem.run_bind, bytesOf_row h, bytesOf_row h', Sem.run_pure, Result.andThen, entry_bytes xs ys h.2.2.2.1 h'.2.2.2.1, goInt]

set_option maxHeartbeats 400000 in
theorem bcompare_any (a : Option Addr) (la ca : Nat) (xs : List Int) (b : Option Addr) (lb cb : Nat) (ys : List Int) (w : World) (h : IsBytes w a la ca xs) (h' : IsBytes w b lb cb ys) :
    Calls Tryz.prog 192 #[.slice a la ca, .slice b lb cb] w fun e w' => e = .returned (.int .i64 (cmpB xs ys)) ∧ w' = w := by
  have hr := run_compare h h'
  clear h h'
  go_enter Tryz.func192, Tryz.ntmps192
  go_wp2
  go_ret
  exact ⟨rfl, rfl⟩

/-- from ls up to hs, hs left out; nothing as hs bounds nothing -/
def withinB (ks ls hs : List Int) : Bool := !lessL ks ls && (decide (hs = []) || lessL ks hs)

set_option maxHeartbeats 1000000 in
theorem within_any (a : Option Addr) (la ca : Nat) (ks : List Int) (b : Option Addr) (lb cb : Nat) (ls : List Int) (c : Option Addr) (lc cc : Nat) (hs : List Int) (w : World) (h1 : IsBytes w a la ca ks) (h2 : IsBytes w b lb cb ls) (h3 : IsBytes w c lc cc hs) :
    Calls Tryz.prog 183 #[.slice a la ca, .slice b lb cb, .slice c lc cc] w fun e w' => e = .returned (.bool (withinB ks ls hs)) ∧ w' = w := by
  have H1 := hide h1
  have H2 := hide h2
  have H3 := hide h3
  obtain ⟨-, -, m1, -, -⟩ := h1
  obtain ⟨-, -, m2, -, -⟩ := h2
  obtain ⟨hl3, hc3, m3, -, -⟩ := h3
  unfold maxLen at m1 m2 m3
  have n1 := cmpB_neg ks ls
  have n2 := cmpB_neg ks hs
  have HC1 := hide (bcompare_any a la ca ks b lb cb ls w H1.out H2.out)
  have HC2 := hide (bcompare_any a la ca ks c lc cc hs w H1.out H3.out)
  have HL3 := hide hl3
  clear hl3
  cases hk : lessL ks ls
  · rw [hk] at n1
    by_cases h0 : lc = 0
    · have he : hs = [] := List.length_eq_zero_iff.1 (by rw [HL3.out]; exact h0)
      have HX : Hid (withinB ks ls hs = true) := by show _ = _; unfold withinB; rw [hk, he]; rfl
      subst h0
      clear hk he
      go_enter Tryz.func183, Tryz.ntmps183
      go_wp2_with (go_at_call 192; refine HC1.out.mono ?_; rintro e w' ⟨rfl, hw⟩; have hw := hw.symm; subst hw)
      go_ret
      exact ⟨retB HX.out.symm, rfl⟩
    · have he : ¬ hs = [] := by intro h; rw [h] at HL3; exact h0 HL3.out.symm
      have HX : Hid (withinB ks ls hs = lessL ks hs) := by show _ = _; unfold withinB; rw [hk, decide_eq_false he]; simp
      have h0' : ((lc : Int) == 0) = false := by simp; omega
      clear hk he
      go_enter Tryz.func183, Tryz.ntmps183
      go_wp2_with (first
        | (go_at_call_of 192 lb; refine HC1.out.mono ?_; rintro e w' ⟨rfl, hw⟩; have hw := hw.symm; subst hw)
        | (go_at_call 192; refine HC2.out.mono ?_; rintro e w' ⟨rfl, hw⟩; have hw := hw.symm; subst hw))
      go_ret
      exact ⟨retB HX.out.symm, rfl⟩
  · rw [hk] at n1
    have HX : Hid (withinB ks ls hs = false) := by show _ = _; unfold withinB; rw [hk]; rfl
    clear hk
    go_enter Tryz.func183, Tryz.ntmps183
    go_wp2_with (go_at_call 192; refine HC1.out.mono ?_; rintro e w' ⟨rfl, hw⟩; have hw := hw.symm; subst hw)
    go_ret
    exact ⟨retB HX.out.symm, rfl⟩

end Go.Proofs.YtcgiicmmfleinaaGreatDoor
