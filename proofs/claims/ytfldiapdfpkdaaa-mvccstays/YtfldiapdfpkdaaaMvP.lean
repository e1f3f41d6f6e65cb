/- Keys with their versions, as plain lists: what is read behind a version that was put, behind a clearing, behind a turn. -/
import Derived.Test.YtfldiapdfpkdaaaMvE
namespace Go.Proofs.Ytfldiapdfpkdaaa
set_option linter.unusedVariables false

theorem mem_tw {α : Type} {p : α → Bool} : ∀ {l : List α} {x : α}, x ∈ l.takeWhile p → p x = true := by
  intro l
  induction l with
  | nil => intro x h; cases h
  | cons y r ih =>
    intro x h
    rw [List.takeWhile_cons] at h
    split at h
    · rename_i hy
      rcases List.mem_cons.1 h with rfl | h
      · exact hy
      · exact ih h
    · cases h

theorem fold_done {α : Type} (ts : α → Int) (v : α) : ∀ (vs l : List α), vs.foldl (stepP ts v) (l, true) = (l ++ vs.filter (fun x => decide (ts x ≠ ts v)), true) := by
  intro vs
  induction vs with
  | nil => intro l; simp
  | cons x r ih =>
    intro l
    rw [List.foldl_cons]
    have e : stepP ts v (l, true) x = (if ts x = ts v then l else l ++ [x], true) := by
      unfold stepP
      simp
      split <;> rfl
    rw [e, ih, List.filter_cons]
    split <;> rename_i h <;> simp [h]

theorem fold_gt {α : Type} (ts : α → Int) (v : α) : ∀ (vs l : List α), (∀ x ∈ vs, ts v < ts x) → vs.foldl (stepP ts v) (l, false) = (l ++ vs, false) := by
  intro vs
  induction vs with
  | nil => intro l _; simp
  | cons x r ih =>
    intro l h
    have hx := h x (List.mem_cons_self ..)
    rw [List.foldl_cons]
    have e : stepP ts v (l, false) x = (l ++ [x], false) := by
      unfold stepP
      rw [if_neg (fun e => by omega), if_neg (by omega)]
    rw [e, ih _ (fun y hy => h y (List.mem_cons_of_mem _ hy)), List.append_assoc]
    rfl

/-- what is later, the version itself, and the others that are not of its time -/
theorem putP_eq {α : Type} (ts : α → Int) (v : α) (vs : List α) : putP ts v vs = vs.takeWhile (fun x => decide (ts v < ts x)) ++ v :: (vs.dropWhile (fun x => decide (ts v < ts x))).filter (fun x => decide (ts x ≠ ts v)) := by
  have h1 : ∀ x ∈ vs.takeWhile (fun x => decide (ts v < ts x)), ts v < ts x := fun x hx => by
    have := mem_tw hx
    simpa using this
  have hsp : vs.foldl (stepP ts v) ([], false) = (vs.dropWhile (fun x => decide (ts v < ts x))).foldl (stepP ts v) (vs.takeWhile (fun x => decide (ts v < ts x)), false) := by
    conv => lhs; rw [← List.takeWhile_append_dropWhile (p := fun x => decide (ts v < ts x)) (l := vs)]
    rw [List.foldl_append, fold_gt ts v _ [] h1, List.nil_append]
  unfold putP
  rw [hsp]
  cases hd : vs.dropWhile (fun x => decide (ts v < ts x)) with
  | nil => simp
  | cons b r =>
    have hb : ¬ ts v < ts b := by
      have := List.head?_dropWhile_not (fun x => decide (ts v < ts x)) vs
      rw [hd] at this
      simpa using this
    rw [List.foldl_cons]
    have e : stepP ts v (vs.takeWhile (fun x => decide (ts v < ts x)), false) b = (if ts b = ts v then vs.takeWhile (fun x => decide (ts v < ts x)) ++ [v] else vs.takeWhile (fun x => decide (ts v < ts x)) ++ [v] ++ [b], true) := by
      have hr : (if (vs.takeWhile (fun x => decide (ts v < ts x)), false).2 = false ∧ ts b ≤ ts v then ((vs.takeWhile (fun x => decide (ts v < ts x)), false).1 ++ [v], true) else (vs.takeWhile (fun x => decide (ts v < ts x)), false)) = (vs.takeWhile (fun x => decide (ts v < ts x)) ++ [v], true) := if_pos ⟨rfl, by omega⟩
      rw [stepP_r ts v _ b _ hr.symm]
      split <;> rfl
    rw [e, fold_done, List.filter_cons]
    dsimp only
    rw [if_pos rfl]
    split <;> rename_i h <;> simp [h]

/-- a version that was put is read at its time -/
theorem put_at {α : Type} (ts : α → Int) (v : α) (vs : List α) : atV ts (ts v) (putP ts v vs) = some v := by
  rw [putP_eq]
  unfold atV
  rw [List.find?_append]
  have h1 : (vs.takeWhile (fun x => decide (ts v < ts x))).find? (fun x => decide (ts x ≤ ts v)) = none := by
    rw [List.find?_eq_none]
    intro x hx
    have := mem_tw hx
    simp at this ⊢
    omega
  rw [h1, List.find?_cons]
  simp

/-- .. and later until a later one -/
theorem put_later {α : Type} (ts : α → Int) (v : α) (vs : List α) (t : Int) (ht : ts v ≤ t) : ∃ x, atV ts t (putP ts v vs) = some x ∧ ts v ≤ ts x ∧ ts x ≤ t := by
  rw [putP_eq]
  unfold atV
  rw [List.find?_append]
  cases e : (vs.takeWhile (fun x => decide (ts v < ts x))).find? (fun x => decide (ts x ≤ t)) with
  | some x =>
    have h1 := List.find?_some e
    have h2 := mem_tw (List.mem_of_find?_eq_some e)
    simp at h1 h2
    exact ⟨x, rfl, by omega, h1⟩
  | none =>
    rw [List.find?_cons, decide_eq_true ht]
    exact ⟨v, rfl, Int.le_refl _, ht⟩

/-- the latest ahead -/
def Desc {α : Type} (ts : α → Int) (vs : List α) : Prop := vs.Pairwise (fun a b => ts b < ts a)

theorem put_desc {α : Type} (ts : α → Int) (v : α) (vs : List α) (h : Desc ts vs) : Desc ts (putP ts v vs) := by
  rw [putP_eq]
  unfold Desc at h ⊢
  have hs : (vs.takeWhile (fun x => decide (ts v < ts x)) ++ vs.dropWhile (fun x => decide (ts v < ts x))).Pairwise (fun a b => ts b < ts a) := by rw [List.takeWhile_append_dropWhile]; exact h
  rw [List.pairwise_append] at hs ⊢
  have hlow : ∀ x ∈ vs.dropWhile (fun x => decide (ts v < ts x)), ts x ≤ ts v := by
    cases hd : vs.dropWhile (fun x => decide (ts v < ts x)) with
    | nil => intro x hx; cases hx
    | cons b r =>
      have hb : ¬ ts v < ts b := by
        have := List.head?_dropWhile_not (fun x => decide (ts v < ts x)) vs
        rw [hd] at this
        simpa using this
      have hp := hs.2.1
      rw [hd] at hp
      intro x hx
      rcases List.mem_cons.1 hx with rfl | hx
      · omega
      · have := (List.pairwise_cons.1 hp).1 x hx; omega
  refine ⟨hs.1, List.pairwise_cons.2 ⟨fun x hx => ?_, hs.2.1.filter _⟩, fun a ha b hb => ?_⟩
  · have h1 := hlow x (List.mem_filter.1 hx).1
    have h2 := (List.mem_filter.1 hx).2
    simp at h2
    omega
  · have h1 := mem_tw ha
    simp at h1
    rcases List.mem_cons.1 hb with rfl | hb
    · exact h1
    · have := hlow b (List.mem_filter.1 hb).1; omega

/-! ### A clearing -/

theorem gc_gt {α : Type} (tv : α → Int) (dd : α → Bool) (ts : Int) : ∀ (vs : List α) (l : List α) (met : Bool) (n : Nat), (∀ x ∈ vs, ts < tv x) → vs.foldl (gcStep tv dd ts) (l, met, n) = (l ++ vs, met, n) := by
  intro vs
  induction vs with
  | nil => intro l met n _; simp
  | cons x r ih =>
    intro l met n h
    have hx := h x (List.mem_cons_self ..)
    rw [List.foldl_cons]
    have e : gcStep tv dd ts (l, met, n) x = (l ++ [x], met, n) := by
      unfold gcStep gcKeep
      rw [decide_eq_true hx, decide_eq_false (by omega : ¬ tv x ≤ ts)]
      simp
    rw [e, ih _ _ _ (fun y hy => h y (List.mem_cons_of_mem _ hy)), List.append_assoc]
    rfl

theorem gc_le {α : Type} (tv : α → Int) (dd : α → Bool) (ts : Int) : ∀ (vs : List α) (l : List α) (n : Nat), (∀ x ∈ vs, tv x ≤ ts) → (vs.foldl (gcStep tv dd ts) (l, true, n)).1 = l := by
  intro vs
  induction vs with
  | nil => intro l n _; rfl
  | cons x r ih =>
    intro l n h
    have hx := h x (List.mem_cons_self ..)
    rw [List.foldl_cons]
    have e : gcStep tv dd ts (l, true, n) x = (l, true, n + 1) := by
      unfold gcStep gcKeep
      rw [decide_eq_false (by omega : ¬ ts < tv x)]
      simp
    rw [e]
    exact ih _ _ (fun y hy => h y (List.mem_cons_of_mem _ hy))

/-- what is kept: all that is later, and the one that is told at the time, unless it is dead -/
theorem gcV_eq (ts : Int) (vs : List Ver) (h : Desc Ver.ts vs) : gcV ts vs = vs.takeWhile (fun x => decide (ts < x.ts)) ++ match vs.dropWhile (fun x => decide (ts < x.ts)) with
    | [] => []
    | b :: _ => if b.dd = true then [] else [b] := by
  have h1 : ∀ x ∈ vs.takeWhile (fun x => decide (ts < x.ts)), ts < x.ts := fun x hx => by
    have := mem_tw hx
    simpa using this
  unfold gcV gcFold
  have hsp : vs.foldl (gcStep Ver.ts Ver.dd ts) ([], false, 0) = (vs.dropWhile (fun x => decide (ts < x.ts))).foldl (gcStep Ver.ts Ver.dd ts) (vs.takeWhile (fun x => decide (ts < x.ts)), false, 0) := by
    conv => lhs; rw [← List.takeWhile_append_dropWhile (p := fun x => decide (ts < x.ts)) (l := vs)]
    rw [List.foldl_append, gc_gt Ver.ts Ver.dd ts _ [] false 0 h1, List.nil_append]
  rw [hsp]
  have hs : (vs.takeWhile (fun x => decide (ts < x.ts)) ++ vs.dropWhile (fun x => decide (ts < x.ts))).Pairwise (fun a b => b.ts < a.ts) := by rw [List.takeWhile_append_dropWhile]; exact h
  rw [List.pairwise_append] at hs
  cases hd : vs.dropWhile (fun x => decide (ts < x.ts)) with
  | nil => simp
  | cons b r =>
    have hb : ¬ ts < b.ts := by
      have := List.head?_dropWhile_not (fun x => decide (ts < x.ts)) vs
      rw [hd] at this
      simpa using this
    have hr : ∀ x ∈ r, x.ts ≤ ts := fun x hx => by
      have hp := hs.2.1
      rw [hd] at hp
      have := (List.pairwise_cons.1 hp).1 x hx
      omega
    rw [List.foldl_cons]
    have e : gcStep Ver.ts Ver.dd ts (vs.takeWhile (fun x => decide (ts < x.ts)), false, 0) b = (if b.dd = true then vs.takeWhile (fun x => decide (ts < x.ts)) else vs.takeWhile (fun x => decide (ts < x.ts)) ++ [b], true, if b.dd = true then 1 else 0) := by
      unfold gcStep gcKeep
      rw [decide_eq_false hb, decide_eq_true (by omega : b.ts ≤ ts)]
      cases b.dd <;> simp
    rw [e, gc_le _ _ _ r _ _ hr]
    dsimp only
    split <;> simp

theorem gc_desc (ts : Int) (vs : List Ver) (h : Desc Ver.ts vs) : Desc Ver.ts (gcV ts vs) := by
  rw [gcV_eq ts vs h]
  have hs : (vs.takeWhile (fun x => decide (ts < x.ts)) ++ vs.dropWhile (fun x => decide (ts < x.ts))).Pairwise (fun a b => b.ts < a.ts) := by rw [List.takeWhile_append_dropWhile]; exact h
  unfold Desc
  rw [List.pairwise_append] at hs ⊢
  cases hd : vs.dropWhile (fun x => decide (ts < x.ts)) with
  | nil => exact ⟨hs.1, List.Pairwise.nil, fun a ha b hb => by cases hb⟩
  | cons b r =>
    dsimp only
    split
    · exact ⟨hs.1, List.Pairwise.nil, fun a ha b hb => by cases hb⟩
    · refine ⟨hs.1, List.pairwise_singleton _ _, fun a ha c hc => ?_⟩
      rw [List.mem_singleton.1 hc]
      exact hs.2.2 a ha b (by rw [hd]; exact List.mem_cons_self ..)

/-- reads from its time on stay, but that a dead one may be none -/
theorem gc_stays (ts later : Int) (hl : ts ≤ later) (vs : List Ver) (h : Desc Ver.ts vs) : atV Ver.ts later (gcV ts vs) = atV Ver.ts later vs ∨ (atV Ver.ts later (gcV ts vs) = none ∧ ∃ v, atV Ver.ts later vs = some v ∧ v.dd = true) := by
  rw [gcV_eq ts vs h]
  have e0 : atV Ver.ts later vs = (vs.takeWhile (fun x => decide (ts < x.ts)) ++ vs.dropWhile (fun x => decide (ts < x.ts))).find? (fun x => decide (x.ts ≤ later)) := by rw [List.takeWhile_append_dropWhile]; rfl
  rw [e0]
  unfold atV
  rw [List.find?_append, List.find?_append]
  cases e : (vs.takeWhile (fun x => decide (ts < x.ts))).find? (fun x => decide (x.ts ≤ later)) with
  | some x => exact .inl rfl
  | none =>
    cases hd : vs.dropWhile (fun x => decide (ts < x.ts)) with
    | nil => exact .inl rfl
    | cons b r =>
      have hb : ¬ ts < b.ts := by
        have := List.head?_dropWhile_not (fun x => decide (ts < x.ts)) vs
        rw [hd] at this
        simpa using this
      have hbl : decide (b.ts ≤ later) = true := decide_eq_true (by omega)
      dsimp only
      by_cases hdd : b.dd = true
      · rw [if_pos hdd]
        exact .inr ⟨rfl, b, by rw [List.find?_cons, hbl]; rfl, hdd⟩
      · rw [if_neg hdd]
        exact .inl (by rw [List.find?_cons, List.find?_cons, hbl])

end Go.Proofs.Ytfldiapdfpkdaaa
