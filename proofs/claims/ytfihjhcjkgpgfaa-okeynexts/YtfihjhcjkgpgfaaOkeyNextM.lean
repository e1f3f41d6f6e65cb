/- The least bytes above all that begin so: what lies between is what begins so. Plain, no program in sight. -/
import Derived.Test.YtfihjhcjkgpgfaaOkeyWithin
import Derived.Test.YtfihjhcjkgpgfaaOkeyNext
namespace Go.Proofs.Ytfihjhcjkgpgfaa
open Go.RowKit NumMath
set_option linter.unusedVariables false

theorem next_form (bs : List Int) : ∀ k, k ≤ bs.length → (nextAt bs k = [] ∧ ∀ i, i < k → ¬ bs.getD i 0 < 255) ∨ ∃ m, m < k ∧ bs.getD m 0 < 255 ∧ nextAt bs k = bs.take m ++ [bs.getD m 0 + 1] ∧ ∀ i, m < i → i < k → ¬ bs.getD i 0 < 255 := by
  intro k
  induction k with
  | zero => intro _; exact .inl ⟨rfl, fun i hi => by omega⟩
  | succ n ih =>
    intro hk
    by_cases h : bs.getD n 0 < 255
    · exact .inr ⟨n, by omega, h, nextAt_yes bs n h, fun i h1 h2 => by omega⟩
    · rw [nextAt_no bs n h]
      rcases ih (by omega) with ⟨e, hi⟩ | ⟨m, hm, h1, e, hi⟩
      · refine .inl ⟨e, fun i h1 => ?_⟩
        by_cases hn : i = n
        · subst hn; exact h
        · exact hi i (by omega)
      · refine .inr ⟨m, by omega, h1, e, fun i h2 h3 => ?_⟩
        by_cases hn : i = n
        · subst hn; exact h
        · exact hi i h2 (by omega)

theorem ff_front : ∀ (F ks : List Int), (∀ c ∈ F, ¬ c < 255) → (∀ c ∈ ks, isB c) → (∀ c ∈ F, isB c) → lessL ks F = false → ∃ r, ks = F ++ r := by
  intro F
  induction F with
  | nil => intro ks _ _ _ _; exact ⟨ks, rfl⟩
  | cons f F ih =>
    intro ks hf hk hfb h
    cases ks with
    | nil => simp [lessL] at h
    | cons k ks =>
      have h1 := hf f List.mem_cons_self
      have h2 := hk k List.mem_cons_self
      have h3 := hfb f List.mem_cons_self
      unfold isB at h2 h3
      simp only [lessL, Bool.or_eq_false_iff, decide_eq_false_iff_not, Bool.and_eq_false_iff] at h
      have e : k = f := by omega
      obtain ⟨r, hr⟩ := ih ks (fun c hc => hf c (List.mem_cons_of_mem _ hc)) (fun c hc => hk c (List.mem_cons_of_mem _ hc)) (fun c hc => hfb c (List.mem_cons_of_mem _ hc)) (by rcases h.2 with h | h; exact absurd e h; exact h)
      exact ⟨r, by rw [e, hr]; rfl⟩

theorem between : ∀ (p : List Int) (c : Int) (F ks : List Int), (∀ x ∈ F, ¬ x < 255) → (∀ x ∈ F, isB x) → (∀ x ∈ ks, isB x) → lessL ks (p ++ c :: F) = false → lessL ks (p ++ [c + 1]) = true → ∃ r, ks = p ++ c :: F ++ r := by
  intro p
  induction p with
  | nil =>
    intro c F ks hF hFb hk h1 h2
    cases ks with
    | nil => simp [lessL] at h1
    | cons k ks =>
      simp only [List.nil_append, lessL, Bool.or_eq_false_iff, decide_eq_false_iff_not, Bool.and_eq_false_iff] at h1
      simp only [List.nil_append, lessL, Bool.or_eq_true, decide_eq_true_eq, Bool.and_eq_true] at h2
      have e : k = c := by
        rcases h2 with h2 | h2
        · omega
        · exact absurd h2.2 (by decide)
      obtain ⟨r, hr⟩ := ff_front F ks hF (fun x hx => hk x (List.mem_cons_of_mem _ hx)) hFb (by rcases h1.2 with h | h; exact absurd e h; exact h)
      exact ⟨r, by rw [e, hr]; rfl⟩
  | cons a p ih =>
    intro c F ks hF hFb hk h1 h2
    cases ks with
    | nil => simp [lessL] at h1
    | cons k ks =>
      simp only [List.cons_append, lessL, Bool.or_eq_false_iff, decide_eq_false_iff_not, Bool.and_eq_false_iff] at h1
      simp only [List.cons_append, lessL, Bool.or_eq_true, decide_eq_true_eq, Bool.and_eq_true] at h2
      have e : k = a := by omega
      subst e
      obtain ⟨r, hr⟩ := ih c F ks hF hFb (fun x hx => hk x (List.mem_cons_of_mem _ hx)) (by rcases h1.2 with h | h; exact absurd rfl h; exact h) (by rcases h2 with h | h; omega; exact h.2)
      exact ⟨r, by rw [hr]; rfl⟩

theorem next_parts (bs : List Int) (hb : ∀ c ∈ bs, isB c) : nextL bs = [] ∨ ∃ p c F, bs = p ++ c :: F ∧ nextL bs = p ++ [c + 1] ∧ (∀ x ∈ F, ¬ x < 255) ∧ (∀ x ∈ F, isB x) := by
  rcases next_form bs bs.length (Nat.le_refl _) with ⟨e, _⟩ | ⟨m, hm, h1, e, hi⟩
  · exact .inl e
  · right
    refine ⟨bs.take m, bs.getD m 0, bs.drop (m + 1), ?_, e, ?_, fun x hx => hb x (List.mem_of_mem_drop hx)⟩
    · have : bs.drop m = bs.getD m 0 :: bs.drop (m + 1) := by
        rw [List.drop_eq_getElem_cons hm]
        simp [List.getD, List.getElem?_eq_getElem hm]
      rw [← this, List.take_append_drop]
    · intro x hx
      obtain ⟨i, hi', rfl⟩ := List.mem_iff_getElem.1 hx
      rw [List.length_drop] at hi'
      have := hi (m + 1 + i) (by omega) (by omega)
      rw [List.getElem_drop]
      simpa [List.getD, List.getElem?_eq_getElem (show m + 1 + i < bs.length by omega)] using this

/-- k begins with b -/
theorem begins_yes (bs r : List Int) : lessL (bs ++ r) bs = false := by
  have := lessL_front bs r []
  rw [List.append_nil] at this
  rw [this]
  cases r <;> rfl

theorem within_begins (ks bs : List Int) (hk : ∀ c ∈ ks, isB c) (hb : ∀ c ∈ bs, isB c) (h : ∃ r, ks = bs ++ r) : withinB ks bs (nextL bs) = true := by
  obtain ⟨r, rfl⟩ := h
  unfold withinB
  rw [begins_yes]
  rcases next_parts bs hb with e | ⟨p, c, F, e, en, _, _⟩
  · rw [e]; rfl
  · rw [en, e]
    have : lessL (p ++ c :: F ++ r) (p ++ [c + 1]) = true := by
      rw [List.append_assoc, lessL_front]
      exact lessL_head c (c + 1) _ _ (by omega)
    rw [this]
    simp

theorem within_not (ks bs : List Int) (hk : ∀ c ∈ ks, isB c) (hb : ∀ c ∈ bs, isB c) (h : ¬ ∃ r, ks = bs ++ r) (hn : ¬ nextL bs = []) : withinB ks bs (nextL bs) = false := by
  unfold withinB
  rw [decide_eq_false hn]
  rcases next_parts bs hb with e | ⟨p, c, F, e, en, hF, hFb⟩
  · exact absurd e hn
  · cases h1 : lessL ks bs
    · cases h2 : lessL ks (nextL bs)
      · rfl
      · exfalso
        rw [e] at h1
        rw [en] at h2
        obtain ⟨r, hr⟩ := between p c F ks hF hFb hk h1 h2
        exact h ⟨r, by rw [hr, e]⟩
    · rfl

theorem within_none (ks bs : List Int) (hn : nextL bs = []) : withinB ks bs (nextL bs) = !lessL ks bs := by
  unfold withinB
  rw [hn]
  simp

theorem begins_iff (ks bs : List Int) : (∃ r, ks = bs ++ r) ↔ bs.length ≤ ks.length ∧ ks.take bs.length = bs := by
  constructor
  · rintro ⟨r, rfl⟩
    exact ⟨by simp, by simp⟩
  · rintro ⟨_, h⟩
    refine ⟨ks.drop bs.length, ?_⟩
    have e := List.take_append_drop bs.length ks
    rw [h] at e
    exact e.symm

theorem nextL_range (bs : List Int) (hb : ∀ c ∈ bs, isB c) : ∀ c ∈ nextL bs, isB c := by
  rcases next_form bs bs.length (Nat.le_refl _) with ⟨e, _⟩ | ⟨m, hm, h1, e, hi⟩
  · intro c hc; unfold nextL at hc; rw [e] at hc; simp at hc
  · intro c hc
    unfold nextL at hc
    rw [e] at hc
    rcases List.mem_append.1 hc with hc | hc
    · exact hb c (List.mem_of_mem_take hc)
    · have hr := nth_range bs hb m
      rw [List.mem_singleton.1 hc]
      unfold isB
      omega

end Go.Proofs.Ytfihjhcjkgpgfaa
