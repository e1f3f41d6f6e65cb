/- A shortest way back, as plain lists: it is there just if one comes to oneself; each step is an edge; nobody twice. -/
import Derived.Test.YtbnojmaknlfphaaDoorWt3
namespace Go.Proofs.YtbnojmaknlfphaaDoor
set_option linter.unusedVariables false

/-- who is asked is the first one, or was come to; who came is the first one, or was come to ahead -/
structure OrdW (fr : Int) (st : WSt) : Prop where
  q : ∀ x ∈ st.2, x = fr ∨ ∃ t, (x, t) ∈ st.1
  o : ∀ (i : Nat) (s : Int × Int), st.1[i]? = some s → s.2 = fr ∨ ∃ j t, j < i ∧ st.1[j]? = some (s.2, t)

theorem OrdW.edge {fr : Int} {st : WSt} (h : OrdW fr st) (q : Int) (hq : q = fr ∨ ∃ t, (q, t) ∈ st.1) (e : Int × Int) : OrdW fr (edgeW fr q st e) ∧ ∀ s ∈ st.1, s ∈ (edgeW fr q st e).1 := by
  unfold edgeW
  split
  · exact ⟨h, fun s hs => hs⟩
  · rename_i he
    have he : e.1 = q := by simpa using he
    split
    · exact ⟨h, fun s hs => hs⟩
    · refine ⟨⟨?_, ?_⟩, fun s hs => List.mem_append_left _ hs⟩
      · intro x hx
        dsimp only at hx ⊢
        split at hx
        · rcases List.mem_append.1 hx with h1 | h1
          · rcases h.q x h1 with h2 | ⟨t, h2⟩
            · exact .inl h2
            · exact .inr ⟨t, List.mem_append_left _ h2⟩
          · rw [List.mem_singleton.1 h1]
            exact .inr ⟨e.1, List.mem_append_right _ (List.mem_singleton.2 rfl)⟩
        · rcases h.q x hx with h2 | ⟨t, h2⟩
          · exact .inl h2
          · exact .inr ⟨t, List.mem_append_left _ h2⟩
      · intro i s hs
        dsimp only at hs ⊢
        by_cases hi : i < st.1.length
        · rw [List.getElem?_append_left hi] at hs
          rcases h.o i s hs with h1 | ⟨j, t, hj, h1⟩
          · exact .inl h1
          · exact .inr ⟨j, t, hj, by rw [List.getElem?_append_left (by omega)]; exact h1⟩
        · rw [List.getElem?_append_right (by omega)] at hs
          have hs' := List.mem_of_getElem? hs
          rw [List.mem_singleton] at hs'
          subst hs'
          rcases hq with h1 | ⟨t, h1⟩
          · exact .inl (by dsimp only; rw [he, h1])
          · obtain ⟨j, hj, h2⟩ := List.mem_iff_getElem.1 h1
            exact .inr ⟨j, t, by omega, by dsimp only; rw [List.getElem?_append_left hj, List.getElem?_eq_getElem hj, h2, he]⟩

theorem OrdW.fold {fr q : Int} : ∀ (m : List (Int × Int)) (st : WSt), OrdW fr st → (q = fr ∨ ∃ t, (q, t) ∈ st.1) → OrdW fr (m.foldl (edgeW fr q) st) := by
  intro m
  induction m with
  | nil => intro st h _; exact h
  | cons e r ih =>
    intro st h hq
    obtain ⟨h1, h2⟩ := h.edge q hq e
    refine ih _ h1 ?_
    rcases hq with hq | ⟨t, hq⟩
    · exact .inl hq
    · exact .inr ⟨t, h2 _ hq⟩

theorem OrdW.it {fr : Int} (l : List (Int × Int)) : ∀ (f i : Nat) (st : WSt), OrdW fr st → OrdW fr (itW fr l f i st) := by
  intro f
  induction f with
  | zero => intro i st h; exact h
  | succ f ih =>
    intro i st h
    rw [itW]
    split
    · rename_i hi
      refine ih _ _ (OrdW.fold l st h (h.q _ ?_))
      exact List.mem_of_getElem? (getD_of hi)
    · exact h

theorem walkW_ord (l : List (Int × Int)) (fr : Int) : ∀ (i : Nat) (s : Int × Int), (walkW l fr)[i]? = some s → s.2 = fr ∨ ∃ j t, j < i ∧ (walkW l fr)[j]? = some (s.2, t) :=
  (OrdW.it l (l.length + 2) 0 ([], [fr]) ⟨by simp, by simp⟩).o

/-- p is a way along edges, and its last one has an edge to z -/
def wayW (l : List (Int × Int)) : List Int → Int → Prop
  | [], _ => False
  | [x], z => (x, z) ∈ l
  | x :: y :: r, z => (x, y) ∈ l ∧ wayW l (y :: r) z

theorem wayW_snoc {l : List (Int × Int)} : ∀ {p : List Int} {t z : Int}, wayW l p t → (t, z) ∈ l → wayW l (p ++ [t]) z
  | [], _, _, h, _ => h.elim
  | [x], t, z, h, h2 => ⟨h, h2⟩
  | x :: y :: r, t, z, h, h2 => ⟨h.1, wayW_snoc (p := y :: r) h.2 h2⟩

theorem wayW_at {l : List (Int × Int)} : ∀ {p : List Int} {z : Int}, wayW l p z → ∀ i, i < p.length → (p.getD i 0, (p ++ [z]).getD (i + 1) 0) ∈ l
  | [], _, h, _, _ => h.elim
  | [x], z, h, i, hi => by
    have : i = 0 := by simpa using hi
    subst this
    exact h
  | x :: y :: r, z, h, i, hi => by
    cases i with
    | zero => exact h.1
    | succ i => exact wayW_at (p := y :: r) h.2 i (by simpa using hi)

theorem nd_at {ws : List (Int × Int)} (nd : (ws.map Prod.fst).Nodup) {i j : Nat} {z t t' : Int} (h1 : ws[i]? = some (z, t)) (h2 : ws[j]? = some (z, t')) : i = j := by
  have hi := (List.getElem?_eq_some_iff.1 h1).1
  have hj := (List.getElem?_eq_some_iff.1 h2).1
  have e1 : (ws.map Prod.fst)[i]? = some z := by rw [List.getElem?_map, h1]; rfl
  have e2 : (ws.map Prod.fst)[j]? = some z := by rw [List.getElem?_map, h2]; rfl
  have a1 := (List.getElem?_eq_some_iff.1 e1).2
  have a2 := (List.getElem?_eq_some_iff.1 e2).2
  have hp := List.pairwise_iff_getElem.1 nd
  rcases Nat.lt_trichotomy i j with h | h | h
  · exact absurd (a1.trans a2.symm) (hp i j (by simpa using hi) (by simpa using hj) h)
  · exact h
  · exact absurd (a2.trans a1.symm) (hp j i (by simpa using hj) (by simpa using hi) h)

theorem cyc_none (fr : Int) : ∀ (ws : List (Int × Int)) (z : Int) (acc : List Int), (∀ s ∈ ws, s.1 ≠ z) → cycW fr ws z acc = [] := by
  intro ws
  induction ws with
  | nil => intro z acc _; rfl
  | cons s r ih =>
    intro z acc h
    rw [cycW, if_neg (h s (List.mem_cons_self ..))]
    exact ih z acc (fun x hx => h x (List.mem_cons_of_mem _ hx))

theorem cyc_ok (l ws : List (Int × Int)) (fr : Int) (nd : (ws.map Prod.fst).Nodup) (ed : ∀ s ∈ ws, (s.2, s.1) ∈ l) (od : ∀ (i : Nat) (s : Int × Int), ws[i]? = some s → s.2 = fr ∨ ∃ j t, j < i ∧ ws[j]? = some (s.2, t)) :
    ∀ (k : Nat) (z : Int) (acc : List Int), k ≤ ws.length → (∃ j t, j < k ∧ ws[j]? = some (z, t)) → ∃ p, cycW fr (ws.take k).reverse z acc = p ++ acc ∧ p.head? = some fr ∧ wayW l p z ∧ p.Nodup ∧ (∀ y ∈ p, y = fr ∨ ∃ (i : Nat) (t : Int) (i2 : Nat) (t2 : Int), i < i2 ∧ ws[i]? = some (y, t) ∧ ws[i2]? = some (z, t2)) ∧ p.length ≤ k := by
  intro k
  induction k with
  | zero => intro z acc _ ⟨j, t, hj, _⟩; omega
  | succ k ih =>
    intro z acc hk ⟨j, t, hj, hjt⟩
    obtain ⟨⟨s, b⟩, hs⟩ : ∃ s, ws[k]? = some s := ⟨_, List.getElem?_eq_getElem (by omega)⟩
    rw [rev_take ws k _ hs, cycW]
    by_cases hsz : s = z
    · rw [if_pos hsz]
      subst hsz
      have hbz : (b, s) ∈ l := ed (s, b) (List.mem_of_getElem? hs)
      by_cases hb : b = fr
      · rw [if_pos hb]
        exact ⟨[b], rfl, by rw [hb]; rfl, hbz, by simp, by intro y hy; rw [List.mem_singleton] at hy; exact .inl (hy.trans hb), by simp⟩
      · rw [if_neg hb]
        rcases od k _ hs with h1 | ⟨i, t1, hi, h1⟩
        · exact absurd h1 hb
        · obtain ⟨p, e1, e2, e3, e4, e5, e6⟩ := ih b (b :: acc) (by omega) ⟨i, t1, hi, h1⟩
          refine ⟨p ++ [b], by rw [e1]; simp, ?_, wayW_snoc e3 hbz, ?_, ?_, by simp; omega⟩
          · cases p with
            | nil => cases e2
            | cons x r => exact e2
          · rw [List.nodup_append]
            refine ⟨e4, by simp, fun x hx y hy => ?_⟩
            rw [List.mem_singleton] at hy
            subst hy
            intro exy
            subst exy
            rcases e5 x hx with h2 | ⟨i1, u1, i2, u2, hii, h3, h4⟩
            · exact hb h2
            · have := nd_at nd h3 h4; omega
          · intro y hy
            rcases List.mem_append.1 hy with h2 | h2
            · rcases e5 y h2 with h3 | ⟨i1, u1, i2, u2, hii, h3, h4⟩
              · exact .inl h3
              · have := nd_at nd h4 h1
                exact .inr ⟨i1, u1, k, b, by omega, h3, hs⟩
            · rw [List.mem_singleton] at h2
              subst h2
              exact .inr ⟨i, t1, k, _, hi, h1, hs⟩
    · rw [if_neg hsz]
      have hjk : j ≠ k := by
        intro e
        subst e
        rw [hs] at hjt
        cases hjt
        exact hsz rfl
      obtain ⟨p, e1, e2, e3, e4, e5, e6⟩ := ih z acc (by omega) ⟨j, t, by omega, hjt⟩
      exact ⟨p, e1, e2, e3, e4, e5, by omega⟩

/-- there is a way back just if one comes to oneself -/
theorem cycleW_none (l : List (Int × Int)) (fr : Int) (h : fr ∉ afterW l fr) : cycleW l fr = [] := by
  unfold cycleW
  refine cyc_none fr _ _ _ (fun s hs e => h ?_)
  unfold afterW
  rw [List.mem_reverse] at hs
  exact List.mem_map.2 ⟨s, hs, e⟩

theorem cycleW_some (l : List (Int × Int)) (fr : Int) (h : fr ∈ afterW l fr) : (cycleW l fr).head? = some fr ∧ wayW l (cycleW l fr) fr ∧ (cycleW l fr).Nodup ∧ (cycleW l fr).length ≤ l.length := by
  obtain ⟨nd, ed, le⟩ := walkW_good l fr
  have od := walkW_ord l fr
  unfold afterW at h
  obtain ⟨⟨s, t⟩, hs, e⟩ := List.mem_map.1 h
  obtain ⟨j, hj, hjs⟩ := List.mem_iff_getElem.1 hs
  obtain ⟨p, e1, e2, e3, e4, _, e6⟩ := cyc_ok l (walkW l fr) fr nd ed od (walkW l fr).length fr [] (Nat.le_refl _) ⟨j, t, hj, by rw [List.getElem?_eq_getElem hj, hjs]; cases e; rfl⟩
  rw [List.take_length, List.append_nil] at e1
  unfold cycleW
  rw [e1]
  exact ⟨e2, e3, e4, by omega⟩

/-- each step of it is an edge -/
theorem cycleW_step (l : List (Int × Int)) (fr : Int) (i : Nat) (hi : i < (cycleW l fr).length) : ((cycleW l fr).getD i 0, (cycleW l fr).getD ((i + 1) % (cycleW l fr).length) 0) ∈ l := by
  by_cases h : fr ∈ afterW l fr
  · obtain ⟨h1, h2, _, _⟩ := cycleW_some l fr h
    have h3 := wayW_at h2 i hi
    generalize cycleW l fr = p at *
    by_cases hl : i + 1 < p.length
    · rw [Nat.mod_eq_of_lt hl]
      have e : (p ++ [fr]).getD (i + 1) 0 = p.getD (i + 1) 0 := by
        rw [List.getD_eq_getElem?_getD, List.getD_eq_getElem?_getD, List.getElem?_append_left hl]
      rw [e] at h3
      exact h3
    · have el : i + 1 = p.length := by omega
      have e : (p ++ [fr]).getD (i + 1) 0 = fr := by
        rw [List.getD_eq_getElem?_getD, el, List.getElem?_append_right (Nat.le_refl _)]; simp
      have e0 : p.getD 0 0 = fr := by
        cases p with
        | nil => simp at hi
        | cons x r => cases h1; rfl
      rw [e] at h3
      rw [el, Nat.mod_self, e0]
      exact h3
  · rw [cycleW_none l fr h] at hi
    simp at hi

end Go.Proofs.YtbnojmaknlfphaaDoor
