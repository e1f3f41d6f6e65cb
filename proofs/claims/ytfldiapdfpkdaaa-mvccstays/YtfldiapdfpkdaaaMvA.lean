/- Keys with their versions, as plain lists: keys rise; intents dropped and turned, key by key. -/
import Derived.Test.YtfldiapdfpkdaaaMv9
namespace Go.Proofs.Ytfldiapdfpkdaaa
set_option linter.unusedVariables false

/-- keys rise -/
def SortC (st : List Cel) : Prop := st.Pairwise (fun a b => lessL a.key b.key = true)

theorem lessL_trans : ∀ (a b c : List Int), lessL a b = true → lessL b c = true → lessL a c = true := by
  intro a
  induction a with
  | nil =>
    intro b c h1 h2
    cases c with
    | nil => cases b <;> simp [lessL] at h2
    | cons z r => rfl
  | cons x xs ih =>
    intro b c h1 h2
    cases b with
    | nil => simp [lessL] at h1
    | cons y ys =>
      cases c with
      | nil => simp [lessL] at h2
      | cons z zs =>
        simp only [lessL, Bool.or_eq_true, Bool.and_eq_true, decide_eq_true_eq] at h1 h2 ⊢
        rcases h1 with h1 | ⟨h1, h1'⟩
        · rcases h2 with h2 | ⟨h2, h2'⟩
          · exact .inl (by omega)
          · exact .inl (by omega)
        · rcases h2 with h2 | ⟨h2, h2'⟩
          · exact .inl (by omega)
          · exact .inr ⟨by omega, ih ys zs h1' h2'⟩

theorem plc_mem : ∀ (st : List Cel), SortC st → ∀ (j : Nat) (c : Cel), st[j]? = some c → plc st c.key = j := by
  intro st
  induction st with
  | nil => intro _ j c h; simp at h
  | cons d r ih =>
    intro hs j c h
    have hs' := List.pairwise_cons.1 hs
    unfold plc
    rw [List.takeWhile_cons]
    cases j with
    | zero =>
      simp at h
      subst h
      rw [lessL_self]
      simp
    | succ j =>
      have h' : r[j]? = some c := by simpa using h
      rw [hs'.1 c (List.mem_of_getElem? h'), if_pos rfl, List.length_cons]
      have := ih hs'.2 j c h'
      unfold plc at this
      omega

theorem isAt_mem {st : List Cel} (hs : SortC st) {j : Nat} {c : Cel} (h : st[j]? = some c) : isAt st c.key = true := by
  unfold isAt
  rw [plc_mem st hs j c h, h]
  simp

theorem insC_mem {st : List Cel} (hs : SortC st) {c : Cel} (h : c ∈ st) : insC st c.key = st := by
  obtain ⟨j, hj⟩ := List.getElem?_of_mem h
  unfold insC
  rw [isAt_mem hs hj, if_pos rfl]

def keysC (st : List Cel) : List (List Int) := st.map Cel.key

theorem sort_keys {st st' : List Cel} (h : keysC st' = keysC st) (hs : SortC st) : SortC st' := by
  have e : ∀ l : List Cel, SortC l ↔ (keysC l).Pairwise (fun a b => lessL a b = true) := by
    intro l
    unfold SortC keysC
    rw [List.pairwise_map]
  rw [e, h, ← e]
  exact hs

theorem insC_sort {st : List Cel} (hs : SortC st) (key : List Int) : SortC (insC st key) := by
  unfold insC
  split
  · exact hs
  · rename_i hz
    have hp := plc_le st key
    unfold SortC
    rw [List.pairwise_append]
    have hs' : SortC (st.take (plc st key) ++ st.drop (plc st key)) := by rw [List.take_append_drop]; exact hs
    unfold SortC at hs'
    rw [List.pairwise_append] at hs'
    have hlow : ∀ c ∈ st.take (plc st key), lessL c.key key = true := by
      intro c hc
      obtain ⟨j, hj⟩ := List.getElem?_of_mem hc
      rw [List.getElem?_take] at hj
      split at hj
      · rename_i hlt
        obtain ⟨d, hd, hl⟩ := plc_below st key j hlt
        rw [hd] at hj
        cases hj
        exact hl
      · cases hj
    have hhigh : ∀ c ∈ st.drop (plc st key), lessL key c.key = true := by
      intro c hc
      obtain ⟨j, hj⟩ := List.getElem?_of_mem hc
      rw [List.getElem?_drop] at hj
      have hlt := (List.getElem?_eq_some_iff.1 hj).1
      obtain ⟨d, hd⟩ : ∃ d, st[plc st key]? = some d := ⟨_, List.getElem?_eq_getElem (by omega)⟩
      have h1 := plc_at st key d hd
      have h2 : d.key ≠ key := fun e => by
        unfold isAt at hz
        rw [hd] at hz
        simp [e] at hz
      have h3 : lessL key d.key = true := by
        cases e : lessL key d.key with
        | true => rfl
        | false => exact absurd (lessL_total _ _ h1 e) h2
      cases j with
      | zero => rw [Nat.add_zero, hd] at hj; cases hj; exact h3
      | succ j =>
        have := List.pairwise_iff_getElem.1 hs (plc st key) (plc st key + (j + 1)) (by omega) hlt (by omega)
        rw [(List.getElem?_eq_some_iff.1 hd).2, (List.getElem?_eq_some_iff.1 hj).2] at this
        exact lessL_trans _ _ _ h3 this
    refine ⟨hs'.1, List.pairwise_cons.2 ⟨hhigh, hs'.2.1⟩, fun a ha b hb => ?_⟩
    rcases List.mem_cons.1 hb with rfl | hb
    · exact hlow a ha
    · exact lessL_trans _ _ _ (hlow a ha) (hhigh b hb)

theorem keys_modify (f : Cel → Cel) (hf : ∀ c, (f c).key = c.key) : ∀ (st : List Cel) (i : Nat), keysC (st.modify i f) = keysC st := by
  intro st
  induction st with
  | nil => intro i; simp [keysC]
  | cons c r ih =>
    intro i
    cases i with
    | zero => simp [keysC, hf]
    | succ j => have := ih j; unfold keysC at this ⊢; simp [this]

/-- an intent dropped, by its key -/
def dropF (st : List Cel) (k : List Int) : List Cel := (insC st k).modify (plc st k) (setIt ver0)

def isItC (txn : Int) (c : Cel) : Bool := decide (txn ≠ 0 ∧ c.it.tx = txn)

def intentsC (st : List Cel) (txn : Int) : List (List Int) := (st.filter (isItC txn)).map Cel.key

/-- a transaction's intents dropped -/
def dropK (st : List Cel) (txn : Int) : List Cel := (intentsC st txn).foldl dropF st

theorem mem_keys {st : List Cel} {k : List Int} (h : k ∈ keysC st) : ∃ c ∈ st, c.key = k := List.mem_map.1 h

theorem dropF_keys {st : List Cel} (hs : SortC st) {k : List Int} (h : k ∈ keysC st) : keysC (dropF st k) = keysC st := by
  obtain ⟨c, hc, rfl⟩ := mem_keys h
  unfold dropF
  rw [insC_mem hs hc]
  exact keys_modify (setIt ver0) (fun _ => rfl) _ _

theorem dropFs_keys : ∀ (ks : List (List Int)) (st : List Cel), SortC st → (∀ k ∈ ks, k ∈ keysC st) → keysC (ks.foldl dropF st) = keysC st := by
  intro ks
  induction ks with
  | nil => intro st _ _; rfl
  | cons k r ih =>
    intro st hs h
    have h1 := dropF_keys hs (h k (List.mem_cons_self ..))
    rw [List.foldl_cons, ih _ (sort_keys h1 hs) (fun x hx => by rw [h1]; exact h x (List.mem_cons_of_mem _ hx)), h1]

theorem intents_keys (st : List Cel) (txn : Int) : ∀ k ∈ intentsC st txn, k ∈ keysC st := by
  intro k hk
  obtain ⟨c, hc, rfl⟩ := List.mem_map.1 hk
  exact List.mem_map.2 ⟨c, (List.mem_filter.1 hc).1, rfl⟩

theorem keys_len {st st' : List Cel} (h : keysC st' = keysC st) : st'.length = st.length := by
  have := congrArg List.length h
  simpa [keysC] using this

end Go.Proofs.Ytfldiapdfpkdaaa
