/- Keys with their versions, as plain lists: intents dropped and turned, all at once; what is read behind a turn. -/
import Derived.Test.YtfldiapdfpkdaaaMvP
namespace Go.Proofs.Ytfldiapdfpkdaaa
set_option linter.unusedVariables false

/-- the cell of one key changed -/
def modK (f : Cel → Cel) (k : List Int) (st : List Cel) : List Cel := st.map (fun c => if c.key = k then f c else c)

theorem sort_inj {st : List Cel} (hs : SortC st) {i j : Nat} {c d : Cel} (h1 : st[i]? = some c) (h2 : st[j]? = some d) (e : c.key = d.key) : i = j := by
  have a := plc_mem st hs i c h1
  have b := plc_mem st hs j d h2
  rw [e] at a
  omega

theorem modify_modK (g : Cel → Cel) {st : List Cel} (hs : SortC st) {j : Nat} {c : Cel} (h : st[j]? = some c) : st.modify j g = modK g c.key st := by
  rw [modify_at g st j c h]
  apply List.ext_getElem?
  intro i
  unfold modK
  rw [List.getElem?_map, List.getElem?_set]
  by_cases e : j = i
  · subst e
    rw [if_pos rfl, if_pos (List.getElem?_eq_some_iff.1 h).1, h]
    simp
  · rw [if_neg e]
    cases hi : st[i]? with
    | none => rfl
    | some d =>
      have : ¬ d.key = c.key := fun ek => e (sort_inj hs h hi ek.symm)
      simp [this]

theorem dropF_modK {st : List Cel} (hs : SortC st) {c : Cel} (h : c ∈ st) : dropF st c.key = modK (setIt ver0) c.key st := by
  obtain ⟨j, hj⟩ := List.getElem?_of_mem h
  unfold dropF
  rw [insC_mem hs h, plc_mem st hs j c hj]
  exact modify_modK _ hs hj

/-- an intent turned -/
def turnC1 (ts : Int) (c : Cel) : Cel := ⟨c.key, putP Ver.ts { c.it with ts := ts } c.vs, ver0⟩

theorem turnF_modK (ts : Int) {st : List Cel} (hs : SortC st) {c : Cel} (h : c ∈ st) : turnF ts st c.key = modK (turnC1 ts) c.key st := by
  obtain ⟨j, hj⟩ := List.getElem?_of_mem h
  have h1 := keys_modify (setIt ver0) (fun _ => rfl) st j
  have hs1 := sort_keys h1 hs
  have hj1 : (st.modify j (setIt ver0))[j]? = some (setIt ver0 c) := by
    rw [modify_at _ st j c hj, List.getElem?_set_self (List.getElem?_eq_some_iff.1 hj).1]
  unfold turnF
  rw [insC_mem hs h, plc_mem st hs j c hj, hj]
  dsimp only
  unfold putC
  have hk : (setIt ver0 c).key = c.key := rfl
  have h2 := insC_mem hs1 (List.mem_of_getElem? hj1)
  have h3 := plc_mem _ hs1 j _ hj1
  rw [hk] at h2 h3
  rw [h2, h3, modify_at _ _ j _ hj1, modify_at _ st j c hj, List.set_set, ← modify_modK (turnC1 ts) hs hj, modify_at _ st j c hj]
  rfl

theorem modKs (f : Cel → Cel) (hf : ∀ c, (f c).key = c.key) : ∀ (ks : List (List Int)), ks.Nodup → ∀ (st : List Cel), ks.foldl (fun st k => modK f k st) st = st.map (fun c => if c.key ∈ ks then f c else c) := by
  intro ks
  induction ks with
  | nil => intro _ st; simp
  | cons k r ih =>
    intro hn st
    rw [List.nodup_cons] at hn
    rw [List.foldl_cons, ih hn.2]
    unfold modK
    rw [List.map_map]
    refine List.map_congr_left (fun c hc => ?_)
    simp only [Function.comp]
    by_cases e : c.key = k
    · rw [if_pos e, if_neg (by rw [hf, e]; exact hn.1), if_pos (by rw [e]; exact List.mem_cons_self ..)]
    · rw [if_neg e]
      by_cases m : c.key ∈ r
      · rw [if_pos m, if_pos (List.mem_cons_of_mem _ m)]
      · rw [if_neg m, if_neg (by intro h; rcases List.mem_cons.1 h with h | h; (exact e h); (exact m h))]

theorem keys_nodup {st : List Cel} (hs : SortC st) : (keysC st).Nodup := by
  unfold keysC List.Nodup
  rw [List.pairwise_map]
  exact hs.imp (fun {a b} h e => by rw [e, lessL_self] at h; cases h)

theorem intents_nodup {st : List Cel} (hs : SortC st) (txn : Int) : (intentsC st txn).Nodup := by
  have h := keys_nodup hs
  unfold keysC List.Nodup at h
  rw [List.pairwise_map] at h
  unfold intentsC List.Nodup
  rw [List.pairwise_map]
  exact h.filter _

theorem intents_mem {st : List Cel} (hs : SortC st) (txn : Int) {c : Cel} (hc : c ∈ st) : c.key ∈ intentsC st txn ↔ isItC txn c = true := by
  unfold intentsC
  rw [List.mem_map]
  constructor
  · rintro ⟨d, hd, e⟩
    have hd' := List.mem_filter.1 hd
    obtain ⟨i, hi⟩ := List.getElem?_of_mem hd'.1
    obtain ⟨j, hj⟩ := List.getElem?_of_mem hc
    have := sort_inj hs hi hj e
    subst this
    rw [hi] at hj
    cases hj
    exact hd'.2
  · intro h
    exact ⟨c, List.mem_filter.2 ⟨hc, h⟩, rfl⟩

theorem fold_same (F G : List Cel → List Int → List Cel) (hk : ∀ st k, SortC st → k ∈ keysC st → F st k = G st k ∧ keysC (F st k) = keysC st) : ∀ (ks : List (List Int)) (st : List Cel), SortC st → (∀ k ∈ ks, k ∈ keysC st) → ks.foldl F st = ks.foldl G st := by
  intro ks
  induction ks with
  | nil => intro st _ _; rfl
  | cons k r ih =>
    intro st hs h
    obtain ⟨h1, h2⟩ := hk st k hs (h k (List.mem_cons_self ..))
    rw [List.foldl_cons, List.foldl_cons, ← h1]
    exact ih _ (sort_keys h2 hs) (fun x hx => by rw [h2]; exact h x (List.mem_cons_of_mem _ hx))

theorem map_if {st : List Cel} (hs : SortC st) (txn : Int) (f : Cel → Cel) : st.map (fun c => if c.key ∈ intentsC st txn then f c else c) = st.map (fun c => if isItC txn c = true then f c else c) := by
  refine List.map_congr_left (fun c hc => ?_)
  by_cases h : isItC txn c = true
  · rw [if_pos h, if_pos ((intents_mem hs txn hc).2 h)]
  · rw [if_neg h, if_neg (fun e => h ((intents_mem hs txn hc).1 e))]

/-- a transaction's intents dropped, all at once -/
theorem dropK_eq {st : List Cel} (hs : SortC st) (txn : Int) : dropK st txn = st.map (fun c => if isItC txn c = true then setIt ver0 c else c) := by
  unfold dropK
  rw [fold_same dropF (fun st k => modK (setIt ver0) k st) (fun st k hs hk => by
    obtain ⟨c, hc, rfl⟩ := mem_keys hk
    exact ⟨dropF_modK hs hc, dropF_keys hs hk⟩) _ st hs (intents_keys st txn), modKs (setIt ver0) (fun _ => rfl) _ (intents_nodup hs txn)]
  exact map_if hs txn _

/-- .. turned, all at once -/
theorem turnK_eq {st : List Cel} (hs : SortC st) (txn ts : Int) : turnK st txn ts = st.map (fun c => if isItC txn c = true then turnC1 ts c else c) := by
  unfold turnK
  rw [fold_same (turnF ts) (fun st k => modK (turnC1 ts) k st) (fun st k hs hk => by
    obtain ⟨c, hc, rfl⟩ := mem_keys hk
    exact ⟨turnF_modK ts hs hc, turnF_keys ts hs hk⟩) _ st hs (intents_keys st txn), modKs (turnC1 ts) (fun _ => rfl) _ (intents_nodup hs txn)]
  exact map_if hs txn _

/-- a key's cell, in a rising store -/
theorem atC_mem {st : List Cel} (hs : SortC st) {c : Cel} (hc : c ∈ st) (t : Int) : atC st c.key t = atV Ver.ts t c.vs := by
  obtain ⟨j, hj⟩ := List.getElem?_of_mem hc
  unfold atC
  rw [isAt_mem hs hj, if_pos rfl, plc_mem st hs j c hj, hj]

theorem turn_keys {st : List Cel} (txn ts : Int) : keysC (st.map (fun c => if isItC txn c = true then turnC1 ts c else c)) = keysC st := by
  unfold keysC
  rw [List.map_map]
  refine List.map_congr_left (fun c _ => ?_)
  simp only [Function.comp]
  split <;> rfl

/-- behind a turn each of its intents is read at that time, and none is left -/
theorem turn_at {st : List Cel} (hs : SortC st) (txn ts : Int) {c : Cel} (hc : c ∈ st) (h : isItC txn c = true) : atC (turnK st txn ts) c.key ts = some { c.it with ts := ts } := by
  rw [turnK_eq hs]
  have hs' := sort_keys (turn_keys (st := st) txn ts) hs
  have hm : turnC1 ts c ∈ st.map (fun c => if isItC txn c = true then turnC1 ts c else c) := List.mem_map.2 ⟨c, hc, by rw [if_pos h]⟩
  have := atC_mem hs' hm ts
  rw [show (turnC1 ts c).key = c.key from rfl] at this
  rw [this]
  exact put_at Ver.ts { c.it with ts := ts } c.vs

theorem turn_none {st : List Cel} (hs : SortC st) (txn ts : Int) : intentsC (turnK st txn ts) txn = [] := by
  rw [turnK_eq hs]
  unfold intentsC
  rw [List.map_eq_nil_iff, List.filter_eq_nil_iff]
  intro d hd
  obtain ⟨c, hc, rfl⟩ := List.mem_map.1 hd
  split
  · unfold isItC turnC1 ver0
    simp
    intro h e
    exact h e.symm
  · rename_i h
    exact h

end Go.Proofs.Ytfldiapdfpkdaaa
