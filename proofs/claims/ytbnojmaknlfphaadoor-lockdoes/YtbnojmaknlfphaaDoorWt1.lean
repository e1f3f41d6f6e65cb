/- Who waits for whom: the document's way to tell it, as plain lists (walk: nodes that are come to, breadth first). -/
import Derived.Test.YtbnojmaknlfphaaDoorGnA
namespace Go.Proofs.YtbnojmaknlfphaaDoor
set_option linter.unusedVariables false

/-- what is known, as (to, by), and whom to ask -/
abbrev WSt := List (Int × Int) × List Int

/-- whether a node was come to -/
def metW (out : List (Int × Int)) (n : Int) : Bool := out.any (fun s => s.1 == n)

/-- an edge, looked at from q -/
def edgeW (fr q : Int) (st : WSt) (e : Int × Int) : WSt :=
  if e.1 ≠ q then st else if metW st.1 e.2 = true then st else (st.1 ++ [(e.2, e.1)], if e.2 ≠ fr then st.2 ++ [e.2] else st.2)

/-- all edges, looked at from q -/
def rowW (fr q : Int) (l : List (Int × Int)) (st : WSt) : WSt := l.foldl (edgeW fr q) st

/-- the nodes from place i of the queue on -/
def itW (fr : Int) (l : List (Int × Int)) : Nat → Nat → WSt → WSt
  | 0, _, st => st
  | f + 1, i, st => if i < st.2.length then itW fr l f (i + 1) (rowW fr (st.2.getD i 0) l st) else st

/-- nodes that are come to, and by whom -/
def walkW (l : List (Int × Int)) (fr : Int) : List (Int × Int) := (itW fr l (l.length + 2) 0 ([], [fr])).1

theorem nodup_le : ∀ (xs ys : List Int), xs.Nodup → (∀ x ∈ xs, x ∈ ys) → xs.length ≤ ys.length := by
  intro xs
  induction xs with
  | nil => intro ys _ _; exact Nat.zero_le _
  | cons x r ih =>
    intro ys hn hm
    rw [List.nodup_cons] at hn
    have hx := hm x (List.mem_cons_self ..)
    have h1 := ih (ys.erase x) hn.2 (fun y hy => (List.mem_erase_of_ne (fun e : y = x => hn.1 (e ▸ hy))).2 (hm y (List.mem_cons_of_mem _ hy)))
    rw [List.length_erase_of_mem hx] at h1
    have : 0 < ys.length := List.length_pos_of_mem hx
    rw [List.length_cons]; omega

/-- what holds of the state all along -/
structure GoodW (l : List (Int × Int)) (st : WSt) : Prop where
  nd : (st.1.map Prod.fst).Nodup
  ed : ∀ s ∈ st.1, (s.2, s.1) ∈ l
  q : st.2.length ≤ st.1.length + 1

theorem GoodW.le {l : List (Int × Int)} {st : WSt} (h : GoodW l st) : st.1.length ≤ l.length := by
  have := nodup_le (st.1.map Prod.fst) (l.map Prod.snd) h.nd (fun x hx => by
    obtain ⟨s, hs, rfl⟩ := List.mem_map.1 hx
    exact List.mem_map.2 ⟨_, h.ed s hs, rfl⟩)
  simpa using this

theorem metW_mem {out : List (Int × Int)} {n : Int} : metW out n = true ↔ n ∈ out.map Prod.fst := by
  unfold metW
  rw [List.any_eq_true]
  constructor
  · rintro ⟨s, hs, e⟩
    exact List.mem_map.2 ⟨s, hs, by simpa using e⟩
  · intro h
    obtain ⟨s, hs, rfl⟩ := List.mem_map.1 h
    exact ⟨s, hs, by simp⟩

theorem GoodW.edge {l : List (Int × Int)} {st : WSt} (h : GoodW l st) (fr q : Int) (e : Int × Int) (he : e ∈ l) : GoodW l (edgeW fr q st e) := by
  unfold edgeW
  split
  · exact h
  · split
    · exact h
    · rename_i _ h2
      refine ⟨?_, ?_, ?_⟩
      · show ((st.1 ++ [(e.2, e.1)]).map Prod.fst).Nodup
        rw [List.map_append, List.nodup_append]
        refine ⟨h.nd, by simp, fun x hx y hy => ?_⟩
        simp at hy
        subst hy
        intro exy
        subst exy
        exact h2 (metW_mem.2 hx)
      · intro s hs
        rcases List.mem_append.1 hs with h3 | h3
        · exact h.ed s h3
        · rw [List.mem_singleton.1 h3]; exact he
      · have := h.q
        dsimp only
        rw [List.length_append]
        split
        · rw [List.length_append]; simp; omega
        · simp; omega

theorem GoodW.fold {l : List (Int × Int)} (fr q : Int) : ∀ (m : List (Int × Int)) (st : WSt), (∀ e ∈ m, e ∈ l) → GoodW l st → GoodW l (m.foldl (edgeW fr q) st) := by
  intro m
  induction m with
  | nil => intro st _ h; exact h
  | cons e r ih => intro st hm h; exact ih _ (fun x hx => hm x (List.mem_cons_of_mem _ hx)) (h.edge fr q e (hm e (List.mem_cons_self ..)))

theorem goodW_new (l : List (Int × Int)) (fr : Int) : GoodW l ([], [fr]) := ⟨by simp, by simp, by simp⟩

theorem GoodW.qle {l : List (Int × Int)} {st : WSt} (h : GoodW l st) : st.2.length ≤ l.length + 1 := by have := h.le; have := h.q; omega

theorem foldl_take_succ {β γ : Type} (f : β → γ → β) (b : β) (l : List γ) (k : Nat) (x : γ) (h : l[k]? = some x) : (l.take (k + 1)).foldl f b = f ((l.take k).foldl f b) x := by
  rw [List.take_add_one, h]
  simp

theorem edgeW_q (fr q : Int) (st : WSt) (e : Int × Int) : ∃ r, (edgeW fr q st e).2 = st.2 ++ r := by
  unfold edgeW
  split
  · exact ⟨[], by simp⟩
  · split
    · exact ⟨[], by simp⟩
    · dsimp only
      split
      · exact ⟨_, rfl⟩
      · exact ⟨[], by simp⟩

theorem foldW_q (fr q : Int) : ∀ (m : List (Int × Int)) (st : WSt), ∃ r, (m.foldl (edgeW fr q) st).2 = st.2 ++ r := by
  intro m
  induction m with
  | nil => intro st; exact ⟨[], by simp⟩
  | cons e r ih =>
    intro st
    obtain ⟨r1, h1⟩ := edgeW_q fr q st e
    obtain ⟨r2, h2⟩ := ih (edgeW fr q st e)
    exact ⟨r1 ++ r2, by rw [List.foldl_cons, h2, h1, List.append_assoc]⟩

theorem getD_of {xs : List Int} {k : Nat} (h : k < xs.length) : xs[k]? = some (xs.getD k 0) := by
  rw [List.getD_eq_getElem?_getD, List.getElem?_eq_getElem h]; rfl

theorem foldW_at (fr q : Int) (m : List (Int × Int)) (st : WSt) (k : Nat) (h : k < st.2.length) : k < (m.foldl (edgeW fr q) st).2.length ∧ (m.foldl (edgeW fr q) st).2[k]? = some (st.2.getD k 0) := by
  obtain ⟨r, hr⟩ := foldW_q fr q m st
  rw [hr]
  refine ⟨by rw [List.length_append]; omega, ?_⟩
  rw [List.getElem?_append_left h, getD_of h]

theorem itW_more (fr : Int) (l : List (Int × Int)) (n k : Nat) (st : WSt) (hn : k < n) (h : k < st.2.length) : itW fr l (n - k) k st = itW fr l (n - (k + 1)) (k + 1) (rowW fr (st.2.getD k 0) l st) := by
  obtain ⟨f, hf⟩ : ∃ f, n - k = f + 1 := ⟨n - k - 1, by omega⟩
  rw [hf, show n - (k + 1) = f by omega, itW, if_pos h]

theorem itW_end (fr : Int) (l : List (Int × Int)) (f k : Nat) (st : WSt) (h : ¬ k < st.2.length) : itW fr l f k st = st := by
  cases f with
  | zero => rfl
  | succ f => rw [itW, if_neg h]

theorem metW_more (out : List (Int × Int)) (m : Nat) (s : Int × Int) (n : Int) (h : out[m]? = some s) : metW (out.take (m + 1)) n = (metW (out.take m) n || s.1 == n) := by
  unfold metW
  rw [List.take_add_one, h]
  simp

end Go.Proofs.YtbnojmaknlfphaaDoor
