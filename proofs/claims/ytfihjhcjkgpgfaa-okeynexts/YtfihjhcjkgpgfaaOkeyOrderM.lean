/- Keys stand as the lists do: plain, no program in sight. -/
import Derived.Test.YtfihjhcjkgpgfaaOkeyMath
namespace Go.Proofs.Ytfihjhcjkgpgfaa
open Go.RowKit NumMath
set_option linter.unusedVariables false

/-- one list of bytes ahead of another -/
def lessL : List Int → List Int → Bool
  | _, [] => false
  | [], _ :: _ => true
  | a :: x, b :: y => decide (a < b) || (decide (a = b) && lessL x y)

theorem lessL_self : ∀ xs, lessL xs xs = false := by
  intro xs
  induction xs with
  | nil => rfl
  | cons a r ih => simp [lessL, ih]

theorem lessL_front (P A B : List Int) : lessL (P ++ A) (P ++ B) = lessL A B := by
  induction P with
  | nil => rfl
  | cons a r ih => simp [lessL, ih]

theorem lessL_head (a b : Int) (A B : List Int) (h : a < b) : lessL (a :: A) (b :: B) = true := by simp [lessL, h]

/-- ahead of, or behind, or the same -/
theorem lessL_anti : ∀ xs ys, lessL xs ys = true → lessL ys xs = false := by
  intro xs
  induction xs with
  | nil => intro ys _; cases ys <;> simp [lessL]
  | cons a r ih =>
    intro ys h
    cases ys with
    | nil => simp [lessL] at h
    | cons b t =>
      simp only [lessL, Bool.or_eq_true, decide_eq_true_eq, Bool.and_eq_true] at h
      rcases h with h | ⟨h1, h2⟩
      · simp [lessL]; omega
      · subst h1
        simp [lessL, ih t h2]

theorem bytesLess_map : ∀ (l m : List UInt8), Op.bytesLess l m = lessL (l.map fun c => (c.toNat : Int)) (m.map fun c => (c.toNat : Int)) := by
  intro l
  induction l with
  | nil => intro m; cases m <;> rfl
  | cons a r ih =>
    intro m
    cases m with
    | nil => rfl
    | cons b t =>
      show (decide (a < b) || (a == b && Op.bytesLess r t)) = (decide ((a.toNat : Int) < (b.toNat : Int)) || (decide ((a.toNat : Int) = (b.toNat : Int)) && lessL _ _))
      rw [ih t]
      have e1 : decide (a < b) = decide ((a.toNat : Int) < (b.toNat : Int)) := by
        congr 1
        rw [UInt8.lt_iff_toNat_lt]
        exact propext ⟨fun h => by omega, fun h => by omega⟩
      have e2 : (a == b) = decide ((a.toNat : Int) = (b.toNat : Int)) := by
        by_cases hab : a = b
        · subst hab; simp
        · have : ¬ (a.toNat : Int) = (b.toNat : Int) := by
            intro h
            exact hab (UInt8.toNat_inj.1 (by omega))
          simp [hab, this]
      rw [e1, e2]

theorem bytesLess_sb (s t : ByteArray) : Op.bytesLess s.toList t.toList = lessL (sb s) (sb t) := by
  rw [ByteArray.toList_eq, ByteArray.toList_eq, bytesLess_map]
  rfl

theorem bytesLess_strB (xs ys : List Int) (hx : ∀ c ∈ xs, isB c) (hy : ∀ c ∈ ys, isB c) : Op.bytesLess (strB xs).toList (strB ys).toList = lessL xs ys := by
  rw [bytesLess_sb, sb_strB xs hx, sb_strB ys hy]

theorem sb_eq (s t : ByteArray) : (s.toList == t.toList) = decide (sb s = sb t) := by
  by_cases h : s = t
  · subst h; simp
  · have h1 : ¬ sb s = sb t := fun e => h (sb_inj e)
    have h2 : ¬ s.toList = t.toList := by
      intro e
      rw [ByteArray.toList_eq, ByteArray.toList_eq] at e
      exact h (ByteArray.ext (Array.toList_inj.1 e))
    simp [h1, h2]

theorem strB_eq (xs ys : List Int) (hx : ∀ c ∈ xs, isB c) (hy : ∀ c ∈ ys, isB c) : ((strB xs).toList == (strB ys).toList) = decide (xs = ys) := by
  rw [sb_eq, sb_strB xs hx, sb_strB ys hy]

/-- texts, kept and ended, stand as they did -/
theorem text_less : ∀ (s t A B : List Int), (∀ c ∈ s, isB c) → (∀ c ∈ t, isB c) → lessL s t = true → lessL (s.flatMap esc ++ 0 :: 1 :: A) (t.flatMap esc ++ 0 :: 1 :: B) = true := by
  intro s
  induction s with
  | nil =>
    intro t A B _ ht h
    cases t with
    | nil => simp [lessL] at h
    | cons d t =>
      rw [List.flatMap_cons]
      have hd := ht d List.mem_cons_self
      unfold isB at hd
      rcases esc_cases d with ⟨_, e⟩ | ⟨e0, e⟩
      · rw [e]; simp [lessL]
      · rw [e]
        show lessL (0 :: 1 :: A) (d :: _) = true
        exact lessL_head _ _ _ _ (by omega)
  | cons c s ih =>
    intro t A B hs ht h
    cases t with
    | nil => simp [lessL] at h
    | cons d t =>
      simp only [lessL, Bool.or_eq_true, decide_eq_true_eq, Bool.and_eq_true] at h
      rw [List.flatMap_cons, List.flatMap_cons, List.append_assoc, List.append_assoc]
      rcases h with h | ⟨h1, h2⟩
      · have hc := hs c List.mem_cons_self
        unfold isB at hc
        rcases esc_cases d with ⟨d0, e⟩ | ⟨d0, e⟩
        · omega
        · rcases esc_cases c with ⟨c0, f⟩ | ⟨c0, f⟩
          · rw [e, f]
            show lessL (0 :: _) (d :: _) = true
            exact lessL_head _ _ _ _ (by omega)
          · rw [e, f]
            show lessL (c :: _) (d :: _) = true
            exact lessL_head _ _ _ _ h
      · subst h1
        rw [lessL_front]
        exact ih t A B (fun x hx => hs x (List.mem_cons_of_mem _ hx)) (fun x hx => ht x (List.mem_cons_of_mem _ hx)) h2

theorem put_less (m n : Int) (A B : List Int) (h1 : -9223372036854775808 ≤ m ∧ m ≤ 9223372036854775807) (h2 : -9223372036854775808 ≤ n ∧ n ≤ 9223372036854775807) (h : m < n) : lessL (putL (flipV m) 8 ++ A) (putL (flipV n) 8 ++ B) = true := by
  have hl := key_less m n h1.1 h1.2 h2.1 h2.2
  rw [decide_eq_true h, bytesLess_strB _ _ (putL_range _ _) (putL_range _ _)] at hl
  have key : ∀ (xs ys : List Int), xs.length = ys.length → lessL xs ys = true → lessL (xs ++ A) (ys ++ B) = true := by
    intro xs
    induction xs with
    | nil => intro ys hy hl; cases ys with
      | nil => simp [lessL] at hl
      | cons b t => simp at hy
    | cons a r ih =>
      intro ys hy hl
      cases ys with
      | nil => simp at hy
      | cons b t =>
        simp only [lessL, Bool.or_eq_true, decide_eq_true_eq, Bool.and_eq_true] at hl
        show (decide (a < b) || (decide (a = b) && lessL (r ++ A) (t ++ B))) = true
        rcases hl with hl | ⟨e, hl⟩
        · simp [hl]
        · simp [e, ih t (by simpa using hy) hl]
  exact key _ _ (by rw [putL_length, putL_length]) hl

theorem cmpI_cases (x y : Int) : (x < y ∧ cmpI x y = -1) ∨ (y < x ∧ cmpI x y = 1) ∨ (x = y ∧ cmpI x y = 0) := by
  by_cases h1 : x < y
  · exact .inl ⟨h1, cmpI_lt h1⟩
  · by_cases h2 : y < x
    · exact .inr (.inl ⟨h2, cmpI_gt h2⟩)
    · exact .inr (.inr ⟨by omega, cmpI_eq (by omega) (by omega)⟩)

theorem lessL_total : ∀ xs ys, lessL xs ys = false → lessL ys xs = false → xs = ys := by
  intro xs
  induction xs with
  | nil => intro ys h _; cases ys with
    | nil => rfl
    | cons b t => simp [lessL] at h
  | cons a r ih =>
    intro ys h1 h2
    cases ys with
    | nil => simp [lessL] at h2
    | cons b t =>
      simp only [lessL, Bool.or_eq_false_iff, decide_eq_false_iff_not, Bool.and_eq_false_iff] at h1 h2
      have hab : a = b := by omega
      subst hab
      rw [ih t (by rcases h1.2 with h | h; exact absurd rfl h; exact h) (by rcases h2.2 with h | h; exact absurd rfl h; exact h)]

theorem cmpS_cases (s t : ByteArray) : (lessL (sb s) (sb t) = true ∧ cmpS s t = -1) ∨ (lessL (sb t) (sb s) = true ∧ cmpS s t = 1) ∨ (s = t ∧ cmpS s t = 0) := by
  cases h1 : Op.bytesLess s.toList t.toList
  · cases h2 : (s.toList == t.toList)
    · right; left
      refine ⟨?_, cmpS_gt h1 h2⟩
      rw [bytesLess_sb] at h1
      rw [sb_eq] at h2
      cases h3 : lessL (sb t) (sb s)
      · exact absurd (lessL_total _ _ h1 h3) (of_decide_eq_false h2)
      · rfl
    · right; right
      rw [sb_eq] at h2
      exact ⟨sb_inj (of_decide_eq_true h2), cmpS_eq h1 (by rw [sb_eq]; exact h2)⟩
  · left
    refine ⟨?_, cmpS_lt h1⟩
    rw [bytesLess_sb] at h1
    exact h1

/-- two values, whatever comes behind them -/
theorem key_cases (u v : Val) (hu : Plain u) (hv : Plain v) : (cmpV u v = -1 ∧ ∀ A B, lessL (keyV u ++ A) (keyV v ++ B) = true) ∨ (cmpV u v = 1 ∧ ∀ A B, lessL (keyV v ++ B) (keyV u ++ A) = true) ∨ (cmpV u v = 0 ∧ u = v) := by
  have hh : ∀ (a b : Int) (r t A B : List Int), a < b → lessL ((a :: r) ++ A) ((b :: t) ++ B) = true := fun a b r t A B h => lessL_head a b _ _ h
  obtain ⟨⟨⟨_, _⟩, fu, _⟩, pu⟩ := hu
  obtain ⟨⟨⟨_, _⟩, fv, _⟩, pv⟩ := hv
  obtain ⟨uk, un, us⟩ := u
  obtain ⟨vk, vn, vs⟩ := v
  dsimp only at *
  unfold cmpV
  dsimp only
  rcases pu with ⟨rfl, rfl, rfl⟩ | ⟨rfl, rfl⟩ | ⟨rfl, rfl⟩ <;> rcases pv with ⟨rfl, rfl, rfl⟩ | ⟨rfl, rfl⟩ | ⟨rfl, rfl⟩
  · exact .inr (.inr ⟨rfl, rfl⟩)
  · rw [keyV_null (by decide) (by decide), keyV_int rfl]
    exact .inl ⟨by rw [if_neg (by decide)]; decide, fun A B => hh 1 2 _ _ _ _ (by decide)⟩
  · rw [keyV_null (by decide) (by decide), keyV_text rfl]
    exact .inl ⟨by rw [if_neg (by decide)]; decide, fun A B => hh 1 3 _ _ _ _ (by decide)⟩
  · rw [keyV_int rfl, keyV_null (by decide) (by decide)]
    exact .inr (.inl ⟨by rw [if_neg (by decide)]; decide, fun A B => hh 1 2 _ _ _ _ (by decide)⟩)
  · rw [if_pos rfl, if_pos rfl, keyV_int rfl, keyV_int rfl]
    dsimp only
    rcases cmpI_cases un vn with ⟨h, e⟩ | ⟨h, e⟩ | ⟨h, e⟩
    · exact .inl ⟨e, fun A B => by rw [List.cons_append, List.cons_append]; exact (lessL_front [2] _ _).trans (put_less un vn A B fu fv h)⟩
    · exact .inr (.inl ⟨e, fun A B => by rw [List.cons_append, List.cons_append]; exact (lessL_front [2] _ _).trans (put_less vn un B A fv fu h)⟩)
    · exact .inr (.inr ⟨e, by rw [h]⟩)
  · rw [keyV_int rfl, keyV_text rfl]
    exact .inl ⟨by rw [if_neg (by decide)]; decide, fun A B => hh 2 3 _ _ _ _ (by decide)⟩
  · rw [keyV_text rfl, keyV_null (by decide) (by decide)]
    exact .inr (.inl ⟨by rw [if_neg (by decide)]; decide, fun A B => hh 1 3 _ _ _ _ (by decide)⟩)
  · rw [keyV_text rfl, keyV_int rfl]
    exact .inr (.inl ⟨by rw [if_neg (by decide)]; decide, fun A B => hh 2 3 _ _ _ _ (by decide)⟩)
  · rw [if_pos rfl, if_neg (by decide), if_pos rfl, keyV_text rfl, keyV_text rfl]
    dsimp only
    have ht : ∀ (s t : ByteArray) (A B : List Int), lessL (sb s) (sb t) = true → lessL (3 :: textL s ++ [0, 1] ++ A) (3 :: textL t ++ [0, 1] ++ B) = true := by
      intro s t A B h
      have := text_less (sb s) (sb t) A B (sb_range s) (sb_range t) h
      have e1 : ∀ (s : ByteArray) (A : List Int), 3 :: textL s ++ [0, 1] ++ A = [3] ++ ((sb s).flatMap esc ++ 0 :: 1 :: A) := by intro s A; unfold textL; simp
      rw [e1, e1, lessL_front]
      exact this
    rcases cmpS_cases us vs with ⟨h, e⟩ | ⟨h, e⟩ | ⟨h, e⟩
    · exact .inl ⟨e, fun A B => ht us vs A B h⟩
    · exact .inr (.inl ⟨e, fun A B => ht vs us B A h⟩)
    · exact .inr (.inr ⟨e, by rw [h]⟩)

/-- keys stand as the lists do -/
theorem keys_cases : ∀ (xs ys : List Val), (∀ v ∈ xs, Plain v) → (∀ v ∈ ys, Plain v) →
    (cmpL xs ys = -1 ∧ lessL (keyL xs) (keyL ys) = true) ∨ (cmpL xs ys = 1 ∧ lessL (keyL ys) (keyL xs) = true) ∨ (cmpL xs ys = 0 ∧ xs = ys) := by
  intro xs
  induction xs with
  | nil =>
    intro ys _ hy
    cases ys with
    | nil => exact .inr (.inr ⟨rfl, rfl⟩)
    | cons v r =>
      refine .inl ⟨rfl, ?_⟩
      rw [keyL_cons]
      have hp := keyV_pos v
      cases hk : keyV v with
      | nil => rw [hk] at hp; simp at hp
      | cons b t => rfl
  | cons u r ih =>
    intro ys hx hy
    cases ys with
    | nil =>
      refine .inr (.inl ⟨rfl, ?_⟩)
      rw [keyL_cons]
      have hp := keyV_pos u
      cases hk : keyV u with
      | nil => rw [hk] at hp; simp at hp
      | cons b t => rfl
    | cons v t =>
      rw [keyL_cons, keyL_cons, cmpL]
      rcases key_cases u v (hx u List.mem_cons_self) (hy v List.mem_cons_self) with ⟨e, h⟩ | ⟨e, h⟩ | ⟨e, h⟩
      · rw [e, if_neg (by decide)]
        exact .inl ⟨rfl, h _ _⟩
      · rw [e, if_neg (by decide)]
        exact .inr (.inl ⟨rfl, h _ _⟩)
      · rw [e, if_pos rfl]
        subst h
        rw [lessL_front, lessL_front]
        rcases ih t (fun x hx' => hx x (List.mem_cons_of_mem _ hx')) (fun x hx' => hy x (List.mem_cons_of_mem _ hx')) with h | h | ⟨h1, h2⟩
        · exact .inl h
        · exact .inr (.inl h)
        · exact .inr (.inr ⟨h1, by rw [h2]⟩)

/-- the law's two tests, of keys as strings -/
theorem keys_tests (xs ys : List Val) (hx : ∀ v ∈ xs, Plain v) (hy : ∀ v ∈ ys, Plain v) :
    Op.bytesLess (strB (keyL xs)).toList (strB (keyL ys)).toList = decide (cmpL xs ys < 0) ∧ (!Op.bytesLess (strB (keyL xs)).toList (strB (keyL ys)).toList && !((strB (keyL xs)).toList == (strB (keyL ys)).toList)) = decide (0 < cmpL xs ys) := by
  rw [bytesLess_strB _ _ (keyL_range xs) (keyL_range ys), strB_eq _ _ (keyL_range xs) (keyL_range ys)]
  rcases keys_cases xs ys hx hy with ⟨e, h⟩ | ⟨e, h⟩ | ⟨e, h⟩
  · rw [e, h]; exact ⟨rfl, rfl⟩
  · rw [e, lessL_anti _ _ h]
    have hne : ¬ keyL xs = keyL ys := by
      intro he
      rw [he, lessL_self] at h
      exact absurd h (by decide)
    rw [decide_eq_false hne]
    exact ⟨rfl, rfl⟩
  · subst h
    rw [e, lessL_self]
    simp

end Go.Proofs.Ytfihjhcjkgpgfaa
