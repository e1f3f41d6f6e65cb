/- Whom one comes to along edges: just those that the search tells; rings. -/
import Derived.Test.YtbnojmaknlfphaaDoorWp1
namespace Go.Proofs.YtbnojmaknlfphaaDoor
set_option linter.unusedVariables false

/-- one comes from x to y along edges, in one step at least -/
inductive Reach (l : List (Int × Int)) : Int → Int → Prop
  | one {x y : Int} : (x, y) ∈ l → Reach l x y
  | more {x y z : Int} : (x, y) ∈ l → Reach l y z → Reach l x z

theorem Reach.trans {l : List (Int × Int)} {x y z : Int} (h : Reach l x y) (h2 : Reach l y z) : Reach l x z := by
  induction h with
  | one e => exact .more e h2
  | more e _ ih => exact .more e (ih h2)

theorem Reach.last {l : List (Int × Int)} {x y z : Int} (h : Reach l x y) (e : (y, z) ∈ l) : Reach l x z := h.trans (.one e)

theorem Reach.sub {l l' : List (Int × Int)} (hs : ∀ e ∈ l, e ∈ l') {x y : Int} (h : Reach l x y) : Reach l' x y := by
  induction h with
  | one e => exact .one (hs _ e)
  | more e _ ih => exact .more (hs _ e) ih

theorem walk_sound (l : List (Int × Int)) (fr : Int) : ∀ (i : Nat) (s : Int × Int), (walkW l fr)[i]? = some s → Reach l fr s.1 := by
  intro i
  induction i using Nat.strongRecOn with
  | ind i ih =>
    intro s hs
    have he := (walkW_good l fr).2.1 s (List.mem_of_getElem? hs)
    rcases walkW_ord l fr i s hs with h1 | ⟨j, t, hj, h1⟩
    · rw [h1] at he
      exact .one he
    · exact (ih j hj _ h1).last he

/-- what the search has done up to place i of its queue -/
structure DoneW (l : List (Int × Int)) (fr : Int) (i : Nat) (st : WSt) : Prop where
  good : GoodW l st
  fst : st.2[0]? = some fr
  all : ∀ k q, k < i → st.2[k]? = some q → ∀ e ∈ l, e.1 = q → metW st.1 e.2 = true
  inq : ∀ x, metW st.1 x = true → x = fr ∨ x ∈ st.2

theorem edge_pre (fr q : Int) (st : WSt) (e : Int × Int) : st.1 <+: (edgeW fr q st e).1 ∧ st.2 <+: (edgeW fr q st e).2 := by
  unfold edgeW
  split
  · exact ⟨List.prefix_refl _, List.prefix_refl _⟩
  · split
    · exact ⟨List.prefix_refl _, List.prefix_refl _⟩
    · refine ⟨List.prefix_append _ _, ?_⟩
      dsimp only
      split
      · exact List.prefix_append _ _
      · exact List.prefix_refl _

theorem fold_pre (fr q : Int) : ∀ (m : List (Int × Int)) (st : WSt), st.1 <+: (m.foldl (edgeW fr q) st).1 ∧ st.2 <+: (m.foldl (edgeW fr q) st).2 := by
  intro m
  induction m with
  | nil => intro st; exact ⟨List.prefix_refl _, List.prefix_refl _⟩
  | cons e r ih =>
    intro st
    have h1 := edge_pre fr q st e
    have h2 := ih (edgeW fr q st e)
    exact ⟨h1.1.trans h2.1, h1.2.trans h2.2⟩

theorem fold_all (fr q : Int) : ∀ (m : List (Int × Int)) (st : WSt) (e : Int × Int), e ∈ m → e.1 = q → metW (m.foldl (edgeW fr q) st).1 e.2 = true := by
  intro m
  induction m with
  | nil => intro st e h; simp at h
  | cons x r ih =>
    intro st e h hq
    rw [List.foldl_cons]
    rcases List.mem_cons.1 h with rfl | h
    · refine met_pre (fold_pre fr q r _).1 ?_
      unfold edgeW
      rw [if_neg (by simpa using hq)]
      split
      · assumption
      · rw [metW_mem]; simp
    · exact ih _ e h hq

theorem fold_inq (fr q : Int) : ∀ (m : List (Int × Int)) (st : WSt), (∀ x, metW st.1 x = true → x = fr ∨ x ∈ st.2) → ∀ x, metW (m.foldl (edgeW fr q) st).1 x = true → x = fr ∨ x ∈ (m.foldl (edgeW fr q) st).2 := by
  intro m
  induction m with
  | nil => intro st h; exact h
  | cons e r ih =>
    intro st h
    refine ih _ ?_
    intro x hx
    unfold edgeW at hx ⊢
    split at hx
    · rename_i h1; rw [if_pos h1]; exact h x hx
    · rename_i h1
      rw [if_neg h1]
      split at hx
      · rename_i h2; rw [if_pos h2]; exact h x hx
      · rename_i h2
        rw [if_neg h2]
        rw [metW_mem, List.map_append, List.mem_append] at hx
        dsimp only
        rcases hx with hx | hx
        · rcases h x (metW_mem.2 hx) with h3 | h3
          · exact .inl h3
          · right
            split
            · exact List.mem_append_left _ h3
            · exact h3
        · simp at hx
          subst hx
          by_cases h3 : e.2 = fr
          · exact .inl h3
          · right
            rw [if_pos h3]
            exact List.mem_append_right _ (List.mem_singleton.2 rfl)

theorem pre_get {α : Type} {a b : List α} (h : a <+: b) {k : Nat} {x : α} (hx : a[k]? = some x) : b[k]? = some x := by
  obtain ⟨c, rfl⟩ := h
  rw [List.getElem?_append_left (List.getElem?_eq_some_iff.1 hx).1]
  exact hx

theorem done_it (l : List (Int × Int)) (fr : Int) : ∀ (f i : Nat) (st : WSt), l.length + 2 ≤ f + i → DoneW l fr i st → ∀ b, (b = fr ∨ metW (itW fr l f i st).1 b = true) → ∀ e ∈ l, e.1 = b → metW (itW fr l f i st).1 e.2 = true := by
  intro f
  induction f with
  | zero =>
    intro i st hf h b hb e he hq
    have hl := h.good.qle
    have hall : ∀ q ∈ st.2, ∀ e ∈ l, e.1 = q → metW st.1 e.2 = true := fun q hq e he heq => by
      obtain ⟨k, hk, hkq⟩ := List.mem_iff_getElem.1 hq
      exact h.all k q (by omega) (by rw [List.getElem?_eq_getElem hk, hkq]) e he heq
    rcases hb with hb | hb
    · exact hall fr (List.mem_of_getElem? h.fst) e he (hq.trans hb)
    · rcases h.inq b hb with h1 | h1
      · exact hall fr (List.mem_of_getElem? h.fst) e he (hq.trans h1)
      · exact hall b h1 e he hq
  | succ f ih =>
    intro i st hf h
    rw [itW]
    split
    · rename_i hi
      refine ih (i + 1) _ (by omega) ?_
      have hp := fold_pre fr (st.2.getD i 0) l st
      refine ⟨GoodW.fold fr _ l st (fun e he => he) h.good, pre_get hp.2 h.fst, fun k q hk hkq e he heq => ?_, fold_inq fr _ l st h.inq⟩
      by_cases hki : k = i
      · subst hki
        have : st.2[k]? = some (st.2.getD k 0) := getD_of hi
        have h2 := pre_get hp.2 this
        have h3 : some (st.2.getD k 0) = some q := h2.symm.trans hkq
        exact fold_all fr _ l st e he (heq.trans (Option.some.inj h3).symm)
      · have hlt : k < st.2.length := by omega
        have h1 : st.2[k]? = some q := by
          rw [List.getElem?_eq_getElem hlt]
          have := pre_get hp.2 (List.getElem?_eq_getElem hlt)
          exact this.symm.trans hkq
        exact met_pre hp.1 (h.all k q (by omega) h1 e he heq)
    · rename_i hi
      intro b hb e he hq
      have hall : ∀ q ∈ st.2, ∀ e ∈ l, e.1 = q → metW st.1 e.2 = true := fun q hq e he heq => by
        obtain ⟨k, hk, hkq⟩ := List.mem_iff_getElem.1 hq
        exact h.all k q (by omega) (by rw [List.getElem?_eq_getElem hk, hkq]) e he heq
      rcases hb with hb | hb
      · exact hall fr (List.mem_of_getElem? h.fst) e he (hq.trans hb)
      · rcases h.inq b hb with h1 | h1
        · exact hall fr (List.mem_of_getElem? h.fst) e he (hq.trans h1)
        · exact hall b h1 e he hq

theorem walk_closed (l : List (Int × Int)) (fr b : Int) (hb : b = fr ∨ b ∈ afterW l fr) (e : Int × Int) (he : e ∈ l) (hq : e.1 = b) : e.2 ∈ afterW l fr := by
  have := done_it l fr (l.length + 2) 0 ([], [fr]) (by omega) ⟨goodW_new l fr, rfl, fun k q hk => by omega, fun x hx => by simp [metW] at hx⟩ b (by
    rcases hb with hb | hb
    · exact .inl hb
    · exact .inr (metW_mem.2 hb)) e he hq
  exact metW_mem.1 this

/-- the search tells just those that one comes to -/
theorem after_reach (l : List (Int × Int)) (fr x : Int) : x ∈ afterW l fr ↔ Reach l fr x := by
  constructor
  · intro h
    unfold afterW at h
    obtain ⟨s, hs, rfl⟩ := List.mem_map.1 h
    obtain ⟨i, hi, hsi⟩ := List.mem_iff_getElem.1 hs
    exact walk_sound l fr i s (by rw [List.getElem?_eq_getElem hi, hsi])
  · intro h
    have key : ∀ {a b : Int}, Reach l a b → (a = fr ∨ a ∈ afterW l fr) → b ∈ afterW l fr := by
      intro a b hab
      induction hab with
      | one e => intro ha; exact walk_closed l fr _ ha _ e rfl
      | more e _ ih => intro ha; exact ih (.inr (walk_closed l fr _ ha _ e rfl))
    exact key h (.inl rfl)

/-- no ring -/
def NoRing (l : List (Int × Int)) : Prop := ∀ x, ¬ Reach l x x

theorem cycle_none_iff (l : List (Int × Int)) (fr : Int) : cycleW l fr = [] ↔ ¬ Reach l fr fr := by
  rw [← after_reach]
  constructor
  · intro h hm
    obtain ⟨h1, _⟩ := cycleW_some l fr hm
    rw [h] at h1
    cases h1
  · exact cycleW_none l fr

theorem NoRing.sub {l l' : List (Int × Int)} (h : NoRing l) (hs : ∀ e ∈ l', e ∈ l) : NoRing l' := fun x hx => h x (hx.sub hs)

/-- edges from t alone are new, and t is in no ring: there is none -/
theorem NoRing.from {l l' : List (Int × Int)} (h : NoRing l) (t : Int) (hs : ∀ e ∈ l', e.1 ≠ t → e ∈ l) (ht : ¬ Reach l' t t) : NoRing l' := by
  have key : ∀ {a b : Int}, Reach l' a b → Reach l a b ∨ ((a = t ∨ Reach l' a t) ∧ (Reach l' t b)) := by
    intro a b hab
    induction hab with
    | @one x y e =>
      by_cases hx : x = t
      · subst hx; exact .inr ⟨.inl rfl, .one e⟩
      · exact .inl (.one (hs _ e hx))
    | @more x y z e h2 ih =>
      by_cases hx : x = t
      · subst hx; exact .inr ⟨.inl rfl, .more e h2⟩
      · rcases ih with ih | ⟨ih1, ih2⟩
        · exact .inl (.more (hs _ e hx) ih)
        · refine .inr ⟨.inr ?_, ih2⟩
          rcases ih1 with rfl | ih1
          · exact .one e
          · exact .more e ih1
  intro x hx
  rcases key hx with h1 | ⟨h1 | h1, h2⟩
  · exact h x h1
  · subst h1; exact ht h2
  · exact ht (h2.trans h1)

/-- edges to t alone are new, and none leaves t: there is no ring -/
theorem NoRing.into {l l' : List (Int × Int)} (h : NoRing l) (t : Int) (hs : ∀ e ∈ l', e.2 ≠ t → e ∈ l) (ht : ∀ e ∈ l', e.1 ≠ t) : NoRing l' := by
  have key : ∀ {a b : Int}, Reach l' a b → b ≠ t → Reach l a b := by
    intro a b hab
    induction hab with
    | @one x y e => intro hb; exact .one (hs _ e hb)
    | @more x y z e h2 ih =>
      intro hb
      have hy : y ≠ t := by
        rintro rfl
        cases h2 with
        | one e2 => exact ht _ e2 rfl
        | more e2 _ => exact ht _ e2 rfl
      exact .more (hs _ e hy) (ih hb)
  intro x hx
  have hxt : x ≠ t := by
    rintro rfl
    cases hx with
    | one e => exact ht _ e rfl
    | more e _ => exact ht _ e rfl
  exact h x (key hx hxt)

end Go.Proofs.YtbnojmaknlfphaaDoor
