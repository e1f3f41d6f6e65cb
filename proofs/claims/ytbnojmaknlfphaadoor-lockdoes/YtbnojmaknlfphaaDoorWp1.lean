/- Who waits for whom, the program's way, as plain lists: edges kept once, by who waits; the same nodes are come to in the same order as the document's. -/
import Derived.Test.YtbnojmaknlfphaaDoorWt4
namespace Go.Proofs.YtbnojmaknlfphaaDoor
set_option linter.unusedVariables false

/-- an edge laid behind those that are there, if it is not there -/
def ddW (acc : List (Int × Int)) (e : Int × Int) : List (Int × Int) := if e ∈ acc then acc else acc ++ [e]

def ddL (l : List (Int × Int)) : List (Int × Int) := l.foldl ddW []

/-- those that begin at q -/
def rowsE (d : List (Int × Int)) (q : Int) : List (Int × Int) := d.filter (fun e => e.1 == q)

/-- an edge, the program's way -/
def pedge (st : WSt) (e : Int × Int) : WSt := if metW st.1 e.2 = true then st else (st.1 ++ [(e.2, e.1)], st.2 ++ [e.2])

def pit (d : List (Int × Int)) : Nat → Nat → WSt → WSt
  | 0, _, st => st
  | f + 1, i, st => if i < st.2.length then pit d f (i + 1) ((rowsE d (st.2.getD i 0)).foldl pedge st) else st

def qedge (q : Int) (st : WSt) (e : Int × Int) : WSt := if e.1 = q then pedge st e else st

theorem rows_fold (q : Int) : ∀ (d : List (Int × Int)) (st : WSt), (rowsE d q).foldl pedge st = d.foldl (qedge q) st := by
  intro d
  induction d with
  | nil => intro st; rfl
  | cons e r ih =>
    intro st
    unfold rowsE at *
    rw [List.filter_cons, List.foldl_cons]
    by_cases h : e.1 = q
    · rw [if_pos (by simpa using h), List.foldl_cons, ih, qedge, if_pos h]
    · rw [if_neg (by simpa using h), ih, qedge, if_neg h]

theorem pedge_pre (st : WSt) (e : Int × Int) : st.1 <+: (pedge st e).1 := by
  unfold pedge
  split
  · exact List.prefix_refl _
  · exact List.prefix_append _ _

theorem qedge_pre (q : Int) (st : WSt) (e : Int × Int) : st.1 <+: (qedge q st e).1 := by
  unfold qedge
  split
  · exact pedge_pre _ _
  · exact List.prefix_refl _

theorem pfold_pre : ∀ (m : List (Int × Int)) (st : WSt), st.1 <+: (m.foldl pedge st).1 := by
  intro m
  induction m with
  | nil => intro st; exact List.prefix_refl _
  | cons e r ih => intro st; exact (pedge_pre st e).trans (ih _)

theorem qfold_pre (q : Int) : ∀ (m : List (Int × Int)) (st : WSt), st.1 <+: (m.foldl (qedge q) st).1 := by
  intro m
  induction m with
  | nil => intro st; exact List.prefix_refl _
  | cons e r ih => intro st; exact (qedge_pre q st e).trans (ih _)

theorem pit_pre (d : List (Int × Int)) : ∀ (f i : Nat) (st : WSt), st.1 <+: (pit d f i st).1 := by
  intro f
  induction f with
  | zero => intro i st; exact List.prefix_refl _
  | succ f ih =>
    intro i st
    rw [pit]
    split
    · exact (pfold_pre _ st).trans (ih _ _)
    · exact List.prefix_refl _

theorem met_pre {a b : List (Int × Int)} (h : a <+: b) {n : Int} (hm : metW a n = true) : metW b n = true := by
  rw [metW_mem] at *
  obtain ⟨c, rfl⟩ := h
  rw [List.map_append]
  exact List.mem_append_left _ hm

theorem qedge_met (q : Int) (st : WSt) (e : Int × Int) (h : e.1 = q) : metW (qedge q st e).1 e.2 = true := by
  unfold qedge
  rw [if_pos h]
  unfold pedge
  split
  · assumption
  · rw [metW_mem]; simp

theorem qfold_met (q : Int) : ∀ (m : List (Int × Int)) (st : WSt) (e : Int × Int), e ∈ m → e.1 = q → metW (m.foldl (qedge q) st).1 e.2 = true := by
  intro m
  induction m with
  | nil => intro st e h; simp at h
  | cons x r ih =>
    intro st e h hq
    rw [List.foldl_cons]
    rcases List.mem_cons.1 h with rfl | h
    · exact met_pre (qfold_pre q r _) (qedge_met q st e hq)
    · exact ih _ e h hq

theorem qedge_none {q : Int} {st : WSt} {e : Int × Int} (h : e.1 = q → metW st.1 e.2 = true) : qedge q st e = st := by
  unfold qedge
  split
  · rename_i h1; unfold pedge; rw [if_pos (h h1)]
  · rfl

theorem qfold_none {q : Int} : ∀ (m : List (Int × Int)) (st : WSt), (∀ e ∈ m, e.1 = q → metW st.1 e.2 = true) → m.foldl (qedge q) st = st := by
  intro m
  induction m with
  | nil => intro st _; rfl
  | cons e r ih =>
    intro st h
    rw [List.foldl_cons, qedge_none (h e (List.mem_cons_self ..))]
    exact ih st (fun x hx => h x (List.mem_cons_of_mem _ hx))

theorem dd_fold (q : Int) (st : WSt) : ∀ (l acc : List (Int × Int)), (l.foldl ddW acc).foldl (qedge q) st = l.foldl (qedge q) (acc.foldl (qedge q) st) := by
  intro l
  induction l with
  | nil => intro acc; rfl
  | cons e r ih =>
    intro acc
    rw [List.foldl_cons, List.foldl_cons, ih]
    congr 1
    unfold ddW
    split
    · rename_i h
      rw [qedge_none (fun hq => qfold_met q acc st e h hq)]
    · rw [List.foldl_append]; rfl

theorem prow_eq (l : List (Int × Int)) (q : Int) (st : WSt) : (rowsE (ddL l) q).foldl pedge st = l.foldl (qedge q) st := by
  rw [rows_fold, ddL, dd_fold]; rfl

/-- an edge, both ways -/
theorem edge_both (fr q : Int) (sr sp : WSt) (h : sr.1 = sp.1) (e : Int × Int) : (edgeW fr q sr e).1 = (qedge q sp e).1 ∧ ∃ r, (qedge q sp e).2 = sp.2 ++ r ∧ (edgeW fr q sr e).2 = sr.2 ++ r.filter (fun x => x != fr) := by
  unfold edgeW qedge pedge
  by_cases hq : e.1 = q
  · rw [if_neg (by simpa using hq), if_pos hq, h]
    split
    · exact ⟨h, [], by simp, by simp⟩
    · refine ⟨by simp, [e.2], rfl, ?_⟩
      dsimp only
      by_cases hf : e.2 = fr
      · rw [if_neg (by simpa using hf)]; simp [hf]
      · rw [if_pos hf]; simp [hf]
  · rw [if_pos hq, if_neg hq]
    exact ⟨h, [], by simp, by simp⟩

theorem row_both (fr q : Int) : ∀ (l : List (Int × Int)) (sr sp : WSt), sr.1 = sp.1 → (l.foldl (edgeW fr q) sr).1 = (l.foldl (qedge q) sp).1 ∧ ∃ r, (l.foldl (qedge q) sp).2 = sp.2 ++ r ∧ (l.foldl (edgeW fr q) sr).2 = sr.2 ++ r.filter (fun x => x != fr) := by
  intro l
  induction l with
  | nil => intro sr sp h; exact ⟨h, [], by simp, by simp⟩
  | cons e t ih =>
    intro sr sp h
    obtain ⟨h1, r1, h2, h3⟩ := edge_both fr q sr sp h e
    obtain ⟨h4, r2, h5, h6⟩ := ih _ _ h1
    refine ⟨h4, r1 ++ r2, ?_, ?_⟩
    · rw [List.foldl_cons, h5, h2, List.append_assoc]
    · rw [List.foldl_cons, h6, h3, List.filter_append, List.append_assoc]

theorem GoodW.qe {l : List (Int × Int)} {st : WSt} (h : GoodW l st) (q : Int) (e : Int × Int) (he : e ∈ l) : GoodW l (qedge q st e) := by
  unfold qedge
  split
  · unfold pedge
    split
    · exact h
    · rename_i _ h2
      refine ⟨?_, ?_, ?_⟩
      · show ((st.1 ++ [(e.2, e.1)]).map Prod.fst).Nodup
        rw [List.map_append, List.nodup_append]
        refine ⟨h.nd, by simp, fun x hx y hy => ?_⟩
        simp at hy
        subst hy
        intro exy
        subst exy
        exact h2 (metW_mem.2 hx)
      · intro s hs
        rcases List.mem_append.1 hs with h3 | h3
        · exact h.ed s h3
        · rw [List.mem_singleton.1 h3]; exact he
      · have := h.q
        dsimp only
        rw [List.length_append, List.length_append]; simp; omega
  · exact h

theorem GoodW.qf {l : List (Int × Int)} (q : Int) : ∀ (m : List (Int × Int)) (st : WSt), (∀ e ∈ m, e ∈ l) → GoodW l st → GoodW l (m.foldl (qedge q) st) := by
  intro m
  induction m with
  | nil => intro st _ h; exact h
  | cons e r ih => intro st hm h; exact ih _ (fun x hx => hm x (List.mem_cons_of_mem _ hx)) (h.qe q e (hm e (List.mem_cons_self ..)))

theorem pit_both (l : List (Int × Int)) (fr : Int) : ∀ (f f' i j : Nat) (sp sr : WSt), GoodW l sp → GoodW l sr → sr.1 = sp.1 → (∀ e ∈ l, e.1 = fr → metW sp.1 e.2 = true) → sr.2.drop j = (sp.2.drop i).filter (fun x => x != fr) → l.length + 2 ≤ f + i → l.length + 2 ≤ f' + j → (pit (ddL l) f i sp).1 = (itW fr l f' j sr).1 := by
  intro f
  induction f with
  | zero =>
    intro f' i j sp sr gp gr he hc hd hf hf'
    have hl := gp.qle
    rw [List.drop_of_length_le (show sp.2.length ≤ i by omega)] at hd
    have hj : sr.2.length ≤ j := by simpa using List.drop_eq_nil_iff.1 hd
    rw [itW_end fr l f' j sr (by omega), he]
    rfl
  | succ f ih =>
    intro f' i j sp sr gp gr he hc hd hf hf'
    rw [pit]
    by_cases hi : i < sp.2.length
    · rw [if_pos hi, prow_eq]
      have hdi : sp.2.drop i = sp.2.getD i 0 :: sp.2.drop (i + 1) := by
        rw [List.drop_eq_getElem_cons hi, List.getD_eq_getElem?_getD, List.getElem?_eq_getElem hi]; rfl
      rw [hdi] at hd
      generalize sp.2.getD i 0 = q at *
      by_cases hq : q = fr
      · subst hq
        rw [qfold_none l sp hc]
        exact ih f' (i + 1) j sp sr gp gr he hc (by simpa using hd) (by omega) hf'
      · rw [List.filter_cons, if_pos (by simpa using hq)] at hd
        have hj : j < sr.2.length := by
          apply Classical.byContradiction
          intro hj
          rw [List.drop_of_length_le (by omega)] at hd
          cases hd
        have hdj : sr.2.drop j = sr.2.getD j 0 :: sr.2.drop (j + 1) := by
          rw [List.drop_eq_getElem_cons hj, List.getD_eq_getElem?_getD, List.getElem?_eq_getElem hj]; rfl
        rw [hdj] at hd
        have hq2 : sr.2.getD j 0 = q := (List.cons.inj hd).1
        have hd2 := (List.cons.inj hd).2
        have hlr := gr.qle
        obtain ⟨g, hg⟩ : ∃ g, f' = g + 1 := ⟨f' - 1, by omega⟩
        subst hg
        rw [itW, if_pos hj, hq2, rowW]
        obtain ⟨h1, r, h2, h3⟩ := row_both fr q l sr sp he
        refine ih g (i + 1) (j + 1) _ _ (gp.qf q l sp (fun e h => h)) (GoodW.fold fr q l sr (fun e h => h) gr) h1 (fun e h h' => met_pre (qfold_pre q l sp) (hc e h h')) ?_ (by omega) (by omega)
        rw [h2, h3, List.drop_append_of_le_length (by omega), List.drop_append_of_le_length (by omega), List.filter_append, hd2]
    · rw [if_neg hi]
      rw [List.drop_of_length_le (show sp.2.length ≤ i by omega)] at hd
      have hj : sr.2.length ≤ j := by simpa using List.drop_eq_nil_iff.1 hd
      rw [itW_end fr l f' j sr (by omega), he]

/-- the same nodes are come to, in the same order -/
theorem pit_walk (l : List (Int × Int)) (fr : Int) : (pit (ddL l) (l.length + 2) 0 ([], [fr])).1 = walkW l fr := by
  unfold walkW
  rw [show l.length + 2 = (l.length + 1) + 1 from rfl, pit, itW, if_pos (by simp), if_pos (by simp), prow_eq, rowW]
  show (pit (ddL l) (l.length + 1) (0 + 1) (l.foldl (qedge fr) ([], [fr]))).1 = (itW fr l (l.length + 1) (0 + 1) (l.foldl (edgeW fr fr) ([], [fr]))).1
  obtain ⟨h1, r, h2, h3⟩ := row_both fr fr l ([], [fr]) ([], [fr]) rfl
  refine pit_both l fr _ _ _ _ _ _ (GoodW.qf fr l _ (fun e h => h) (goodW_new l fr)) (GoodW.fold fr fr l _ (fun e h => h) (goodW_new l fr)) h1 (fun e h h' => qfold_met fr l _ e h h') ?_ (by omega) (by omega)
  rw [h2, h3]
  rfl

theorem mem_dd {x : Int × Int} : ∀ (l acc : List (Int × Int)), x ∈ l.foldl ddW acc ↔ x ∈ acc ∨ x ∈ l := by
  intro l
  induction l with
  | nil => intro acc; simp
  | cons e r ih =>
    intro acc
    rw [List.foldl_cons, ih]
    unfold ddW
    split
    · rename_i h
      constructor
      · rintro (h1 | h1)
        · exact .inl h1
        · exact .inr (List.mem_cons_of_mem _ h1)
      · rintro (h1 | h1)
        · exact .inl h1
        · rcases List.mem_cons.1 h1 with rfl | h1
          · exact .inl h
          · exact .inr h1
    · rw [List.mem_append, List.mem_singleton, List.mem_cons]
      constructor
      · rintro ((h1 | h1) | h1)
        · exact .inl h1
        · exact .inr (.inl h1)
        · exact .inr (.inr h1)
      · rintro (h1 | h1 | h1)
        · exact .inl (.inl h1)
        · exact .inl (.inr h1)
        · exact .inr h1

theorem mem_ddL {x : Int × Int} {l : List (Int × Int)} : x ∈ ddL l ↔ x ∈ l := by unfold ddL; rw [mem_dd]; simp

theorem dd_len : ∀ (l acc : List (Int × Int)), (l.foldl ddW acc).length ≤ acc.length + l.length := by
  intro l
  induction l with
  | nil => intro acc; simp
  | cons e r ih =>
    intro acc
    rw [List.foldl_cons]
    have := ih (ddW acc e)
    have h2 : (ddW acc e).length ≤ acc.length + 1 := by unfold ddW; split <;> simp
    rw [List.length_cons]; omega

theorem rowsE_len (d : List (Int × Int)) (q : Int) : (rowsE d q).length ≤ d.length := List.length_filter_le _ _

theorem rowsE_more (d : List (Int × Int)) (e : Int × Int) (q : Int) : rowsE (d ++ [e]) q = if e.1 = q then rowsE d q ++ [e] else rowsE d q := by
  unfold rowsE
  rw [List.filter_append]
  by_cases h : e.1 = q
  · rw [if_pos h]; simp [h]
  · rw [if_neg h]; simp [h]

/-- one step back along a shortest way -/
theorem cyc_find (fr : Int) (ws : List (Int × Int)) (nd : (ws.map Prod.fst).Nodup) (i : Nat) (z t : Int) (hi : ws[i]? = some (z, t)) : ∀ (k : Nat) (acc : List Int), i < k → k ≤ ws.length → cycW fr (ws.take k).reverse z acc = if t = fr then t :: acc else cycW fr (ws.take i).reverse t (t :: acc) := by
  intro k
  induction k with
  | zero => intro acc h; omega
  | succ k ih =>
    intro acc h hk
    obtain ⟨⟨s, b⟩, hs⟩ : ∃ s, ws[k]? = some s := ⟨_, List.getElem?_eq_getElem (by omega)⟩
    rw [rev_take ws k _ hs, cycW]
    by_cases e : i = k
    · subst e
      rw [hi] at hs
      cases hs
      rw [if_pos rfl]
    · rw [if_neg (fun hz : s = z => by subst hz; exact e (nd_at nd hi hs))]
      exact ih acc (by omega) (by omega)

end Go.Proofs.YtbnojmaknlfphaaDoor
