/- What is due when, as plain lists: what the program keeps sorted and what the reference keeps as it was sent. -/
import Derived.Test.YtodmieehdleohaaMsD
import Derived.Test.YtodmieehdleohaaMsA
import Derived.Test.YtodmieehdleohaaMx6
namespace Go.Proofs.Ytodmieehdleohaa
open Go.RowKit NumMath
set_option linter.unusedVariables false

def atT (t : Int) (L : List (PMsg × Int)) : List PMsg := (L.filter (fun x => x.2 == t)).map (·.1)
def dueT (now : Nat) (L : List (PMsg × Int)) : List PMsg := (List.range (now + 1)).flatMap (fun t : Nat => atT (t : Int) L)

structure Rel (Q : Nat → List PMsg) (now : Nat) (L : List (PMsg × Int)) : Prop where
  rng : ∀ x ∈ L, 0 ≤ x.2 ∧ x.2 ≤ (now : Int) + 100
  due : Q 2 = dueT now L
  lat : ∀ i : Nat, i < 100 → Q (3 + i) = atT ((now : Int) + 1 + i) L

theorem flat_congr {α β : Type} {f g : α → List β} : ∀ {l : List α}, (∀ t ∈ l, f t = g t) → l.flatMap f = l.flatMap g
  | [], _ => rfl
  | x :: r, h => by rw [List.flatMap_cons, List.flatMap_cons, h x (by simp), flat_congr (fun t ht => h t (by simp [ht]))]

theorem atT_append (t : Int) (A B : List (PMsg × Int)) : atT t (A ++ B) = atT t A ++ atT t B := by simp [atT]

theorem atT_rep (t : Int) (p : PMsg) (s : Int) (n : Nat) : atT t (List.replicate n (p, s)) = if s = t then List.replicate n p else [] := by
  unfold atT
  by_cases h : s = t
  · rw [if_pos h, List.filter_replicate_of_pos (by simpa using h)]
    simp
  · rw [if_neg h, List.filter_replicate_of_neg (by simpa using h)]
    rfl

theorem atT_none (t : Int) (L : List (PMsg × Int)) (h : ∀ x ∈ L, x.2 ≠ t) : atT t L = [] := by
  unfold atT
  rw [List.filter_eq_nil_iff.2 (fun x hx => by simpa using h x hx)]
  rfl

theorem dueT_succ (now : Nat) (L : List (PMsg × Int)) : dueT (now + 1) L = dueT now L ++ atT ((now : Int) + 1) L := by
  unfold dueT
  rw [List.range_succ, List.flatMap_append]
  simp

theorem rel_new : Rel (fun _ => []) 0 [] := ⟨by simp, by simp [dueT, atT], by simp [atT]⟩

theorem dueT_send (L : List (PMsg × Int)) (p : PMsg) (n d : Nat) : ∀ now : Nat, dueT now (L ++ List.replicate n (p, (now : Int) + d)) = dueT now L ++ (if d = 0 then List.replicate n p else []) := by
  intro now
  have key : ∀ (j : Nat) (s : Int), (j : Int) < s → dueT j (L ++ List.replicate n (p, s)) = dueT j L := by
    intro j s hs
    unfold dueT
    apply flat_congr
    intro t ht
    rw [List.mem_range] at ht
    rw [atT_append, atT_rep, if_neg (by omega), List.append_nil]
  cases now with
  | zero =>
    unfold dueT
    simp [atT_append, atT_rep]
  | succ j =>
    rw [dueT_succ, dueT_succ, key j _ (by push_cast; omega), atT_append, atT_rep, List.append_assoc]
    congr 2
    by_cases h : d = 0
    · rw [if_pos h, if_pos (by subst h; push_cast; omega)]
    · rw [if_neg h, if_neg (by push_cast; omega)]

theorem rel_send {Q : Nat → List PMsg} {now : Nat} {L : List (PMsg × Int)} (h : Rel Q now L) (p : PMsg) (n d : Nat) (hd : d ≤ 100) : Rel (pushN Q (2 + d) n p) now (L ++ List.replicate n (p, (now : Int) + d)) := by
  refine ⟨fun x hx => ?_, ?_, fun i hi => ?_⟩
  · rcases List.mem_append.1 hx with h1 | h1
    · exact h.rng x h1
    · rw [List.mem_replicate] at h1
      rw [h1.2]
      exact ⟨by show 0 ≤ (now : Int) + d; omega, by show (now : Int) + d ≤ now + 100; omega⟩
  · rw [dueT_send]
    unfold pushN
    by_cases h0 : d = 0
    · subst h0; rw [upd_at, h.due, if_pos rfl]
    · rw [upd_ne _ _ _ (by omega), h.due, if_neg h0, List.append_nil]
  · rw [atT_append, atT_rep]
    unfold pushN
    by_cases h0 : d = i + 1
    · subst h0
      have e : 2 + (i + 1) = 3 + i := by omega
      rw [e, upd_at, h.lat i hi, if_pos (by push_cast; omega)]
    · rw [upd_ne _ _ _ (by omega), h.lat i hi, if_neg (by omega), List.append_nil]

theorem rel_tick {Q : Nat → List PMsg} {now : Nat} {L : List (PMsg × Int)} (h : Rel Q now L) : Rel (shiftQ Q) (now + 1) L := by
  refine ⟨fun x hx => ⟨(h.rng x hx).1, by have := (h.rng x hx).2; push_cast; omega⟩, ?_, fun i hi => ?_⟩
  · rw [dueT_succ, ← h.due]
    have := h.lat 0 (by decide)
    simp at this
    unfold shiftQ
    rw [if_pos (by decide), upd_at, this]
  · unfold shiftQ
    rw [if_neg (by omega)]
    by_cases h1 : i < 99
    · rw [if_pos (by omega), upd_ne _ _ _ (by omega)]
      have e : 3 + i + 1 = 3 + (i + 1) := by omega
      rw [e, h.lat (i + 1) (by omega)]
      congr 1
      push_cast
      omega
    · rw [if_neg (by omega)]
      exact (atT_none _ _ (fun x hx e => by have := (h.rng x hx).2; push_cast at e; omega)).symm

theorem pq_shift (Q : Nat → List MMsg) : pq (shiftQ Q) = shiftQ (pq Q) := by
  funext i
  unfold pq shiftQ upd
  dsimp only
  split
  · split <;> simp
  · split
    · split <;> simp
    · rfl

/-- the reference's list without places -/
def pl (L : List (MMsg × Int)) : List (PMsg × Int) := L.map (fun x => (x.1.pure, x.2))

theorem pl_append (A B : List (MMsg × Int)) : pl (A ++ B) = pl A ++ pl B := by simp [pl]
theorem pl_rep (m : MMsg) (s : Int) (n : Nat) : pl (List.replicate n (m, s)) = List.replicate n (m.pure, s) := by simp [pl]

theorem due_split {α : Type} (f : Nat → List α) (now dn : Nat) (hd : dn ≤ now) (h0 : ∀ t, t < dn → f t = []) : (List.range (now + 1)).flatMap f = f dn ++ ((List.range (now - dn)).map (fun i => dn + 1 + i)).flatMap f := by
  have e : now + 1 = dn + (now - dn + 1) := by omega
  rw [e, List.range_add, List.flatMap_append, List.range_succ_eq_map]
  have h1 : (List.range dn).flatMap f = [] := List.flatMap_eq_nil_iff.2 (fun t ht => h0 t (List.mem_range.1 ht))
  rw [h1, List.nil_append, List.map_cons, List.flatMap_cons, Nat.add_zero, List.map_map]
  congr 3
  funext i
  simp
  omega

theorem best_none {L : List (MMsg × Int)} {Q : Nat → List PMsg} {now : Nat} (h : Rel Q now (pl L)) (hb : Best L now L.length (-1)) : Q 2 = [] := by
  rw [h.due]
  unfold dueT
  rw [List.flatMap_eq_nil_iff]
  intro t ht
  rw [List.mem_range] at ht
  apply atT_none
  intro x hx e
  rcases hb with ⟨_, h2⟩ | ⟨k, hk, _⟩
  · obtain ⟨y, hy, rfl⟩ := List.mem_map.1 hx
    obtain ⟨j, hj, rfl⟩ := List.getElem_of_mem hy
    have := h2 j hj
    simp [List.getD, List.getElem?_eq_getElem hj] at this
    dsimp only at e
    omega
  · omega

theorem best_some {L : List (MMsg × Int)} {Q : Nat → List PMsg} {now : Nat} (h : Rel Q now (pl L)) (k : Nat) (hk : k < L.length) (hb : Best L now L.length (k : Int)) : ∃ r, Q 2 = (L.getD k fly0).1.pure :: r ∧ Rel (upd Q 2 r) now (pl (L.eraseIdx k)) := by
  obtain ⟨x, hx⟩ : ∃ x, L.getD k fly0 = x := ⟨_, rfl⟩
  rcases hb with ⟨h1, _⟩ | ⟨k', hk', _, h3, h4, h5⟩
  · omega
  have : k' = k := by omega
  subst this
  rw [hx] at h3 h4 h5 ⊢
  have hxm : L[k']? = some x := by rw [← hx]; simp [List.getD, List.getElem?_eq_getElem hk]
  have hsplit : L = L.take k' ++ x :: L.drop (k' + 1) := by
    have := List.take_append_drop k' L
    rw [List.drop_eq_getElem_cons hk] at this
    have e : L[k'] = x := by rw [List.getElem?_eq_getElem hk] at hxm; exact Option.some.inj hxm
    rw [e] at this
    exact this.symm
  have hr := h.rng (x.1.pure, x.2) (List.mem_map.2 ⟨x, by rw [hsplit]; simp, rfl⟩)
  obtain ⟨dn, hdn⟩ : ∃ dn : Nat, x.2 = dn := ⟨x.2.toNat, by have := hr.1; dsimp only at this; omega⟩
  have hdl : dn ≤ now := by omega
  have hP : pl L = pl (L.take k') ++ (x.1.pure, x.2) :: pl (L.drop (k' + 1)) := by
    have := congrArg pl hsplit
    rw [pl_append] at this
    exact this
  have hE : pl (L.eraseIdx k') = pl (L.take k') ++ pl (L.drop (k' + 1)) := by rw [List.eraseIdx_eq_take_drop_succ, pl_append]
  have hne : ∀ t : Int, t ≠ x.2 → atT t (pl L) = atT t (pl (L.eraseIdx k')) := by
    intro t ht
    rw [hP, hE, atT_append, atT_append]
    congr 1
    unfold atT
    rw [List.filter_cons_of_neg (by simpa using fun e => ht e.symm)]
  have hget : ∀ j, j < L.length → ∃ y, L.getD j fly0 = y ∧ L[j]? = some y := fun j hj => ⟨L[j], by simp [List.getD, List.getElem?_eq_getElem hj], List.getElem?_eq_getElem hj⟩
  have htake : atT x.2 (pl (L.take k')) = [] := by
    apply atT_none
    intro y hy e
    obtain ⟨z, hz, rfl⟩ := List.mem_map.1 hy
    obtain ⟨j, hj, rfl⟩ := List.getElem_of_mem hz
    rw [List.length_take] at hj
    have hjk : j < k' := by omega
    have := h5 j hjk
    have e2 : L.getD j fly0 = (L.take k')[j] := by simp [List.getD, List.getElem?_eq_getElem (by omega : j < L.length)]
    rw [e2] at this
    dsimp only at e
    omega
  have hsmall : ∀ t : Nat, t < dn → atT (t : Int) (pl L) = [] := by
    intro t ht
    apply atT_none
    intro y hy e
    obtain ⟨z, hz, rfl⟩ := List.mem_map.1 hy
    obtain ⟨j, hj, rfl⟩ := List.getElem_of_mem hz
    have := h4 j hj
    have e2 : L.getD j fly0 = L[j] := by simp [List.getD, List.getElem?_eq_getElem hj]
    rw [e2] at this
    dsimp only at e
    omega
  have hd1 : dueT now (pl L) = atT (dn : Int) (pl L) ++ ((List.range (now - dn)).map (fun i => dn + 1 + i)).flatMap (fun t : Nat => atT (t : Int) (pl L)) := due_split _ now dn hdl hsmall
  have hd2 : dueT now (pl (L.eraseIdx k')) = atT (dn : Int) (pl (L.eraseIdx k')) ++ ((List.range (now - dn)).map (fun i => dn + 1 + i)).flatMap (fun t : Nat => atT (t : Int) (pl (L.eraseIdx k'))) := due_split _ now dn hdl (fun t ht => by rw [← hne t (by omega)]; exact hsmall t ht)
  have hrest : ((List.range (now - dn)).map (fun i => dn + 1 + i)).flatMap (fun t : Nat => atT (t : Int) (pl L)) = ((List.range (now - dn)).map (fun i => dn + 1 + i)).flatMap (fun t : Nat => atT (t : Int) (pl (L.eraseIdx k'))) := by
    apply flat_congr
    intro t ht
    obtain ⟨i, _, rfl⟩ := List.mem_map.1 ht
    exact hne _ (by push_cast; omega)
  have ha1 : atT (dn : Int) (pl L) = x.1.pure :: atT (dn : Int) (pl (L.drop (k' + 1))) := by
    rw [← hdn, hP, atT_append, htake, List.nil_append]
    unfold atT
    rw [List.filter_cons_of_pos (by simp)]
    rfl
  have ha2 : atT (dn : Int) (pl (L.eraseIdx k')) = atT (dn : Int) (pl (L.drop (k' + 1))) := by
    rw [← hdn, hE, atT_append, htake, List.nil_append]
  refine ⟨dueT now (pl (L.eraseIdx k')), ?_, fun y hy => h.rng y ?_, upd_at _ _ _, fun i hi => ?_⟩
  · rw [h.due, hd1, hd2, hrest, ha1, ha2, List.cons_append]
  · rw [hE] at hy
    rw [hP]
    rcases List.mem_append.1 hy with h1 | h1
    · exact List.mem_append_left _ h1
    · exact List.mem_append_right _ (List.mem_cons_of_mem _ h1)
  · rw [upd_ne _ _ _ (by omega), h.lat i hi]
    exact hne _ (by omega)

theorem filter_le_succ (L : List (PMsg × Int)) (a : Int) : (L.filter (fun x => decide (x.2 ≤ a + 1))).length = (L.filter (fun x => decide (x.2 ≤ a))).length + (atT (a + 1) L).length := by
  induction L with
  | nil => rfl
  | cons x r ih =>
    unfold atT at *
    rw [List.length_map] at *
    by_cases h1 : x.2 ≤ a
    · rw [List.filter_cons_of_pos (by simp; omega), List.filter_cons_of_pos (by simpa using h1), List.filter_cons_of_neg (by simp; omega), List.length_cons, List.length_cons]
      omega
    · by_cases h2 : x.2 = a + 1
      · rw [List.filter_cons_of_pos (by simp; omega), List.filter_cons_of_neg (by simpa using h1), List.filter_cons_of_pos (by simpa using h2), List.length_cons, List.length_cons]
        omega
      · rw [List.filter_cons_of_neg (by simp; omega), List.filter_cons_of_neg (by simpa using h1), List.filter_cons_of_neg (by simpa using h2)]
        exact ih

theorem dueT_len (L : List (PMsg × Int)) (h0 : ∀ x ∈ L, 0 ≤ x.2) : ∀ now : Nat, (dueT now L).length = (L.filter (fun x => decide (x.2 ≤ (now : Int)))).length := by
  intro now
  induction now with
  | zero =>
    unfold dueT atT
    simp
    congr 1
    apply List.filter_congr
    intro x hx
    have := h0 x hx
    by_cases h1 : x.2 = 0
    · simp [h1]
    · have h2 : ¬ x.2 ≤ 0 := by omega
      simp [h1, h2]
  | succ n ih =>
    rw [dueT_succ, List.length_append, ih]
    have := filter_le_succ L n
    push_cast
    omega

theorem waitN_len {Q : Nat → List MMsg} {now : Nat} {L : List (PMsg × Int)} (h : Rel (pq Q) now L) : ∀ k : Nat, k ≤ 100 → waitN Q k = (L.filter (fun x => decide (x.2 ≤ (now : Int) + k))).length := by
  intro k
  induction k with
  | zero =>
    intro _
    have h1 := congrArg List.length h.due
    rw [dueT_len L (fun x hx => (h.rng x hx).1)] at h1
    unfold pq at h1
    rw [List.length_map] at h1
    simpa [waitN] using h1
  | succ k ih =>
    intro hk
    have h1 := congrArg List.length (h.lat k (by omega))
    unfold pq at h1
    rw [List.length_map] at h1
    have h2 := filter_le_succ L ((now : Int) + k)
    have e : (now : Int) + 1 + k = now + k + 1 := by omega
    rw [e] at h1
    have e2 : (now : Int) + ((k + 1 : Nat) : Int) = now + k + 1 := by push_cast; omega
    rw [e2, h2, ← ih (by omega), ← h1]
    rfl

theorem waitN_all {Q : Nat → List MMsg} {now : Nat} {L : List (PMsg × Int)} (h : Rel (pq Q) now L) : waitN Q 100 = L.length := by
  rw [waitN_len h 100 (Nat.le_refl _)]
  congr 1
  rw [List.filter_eq_self]
  intro x hx
  have := (h.rng x hx).2
  simpa using this

theorem waitN_le {Q : Nat → List MMsg} {now : Nat} {L : List (PMsg × Int)} (h : Rel (pq Q) now L) (k : Nat) (hk : k ≤ 100) : waitN Q k ≤ L.length := by
  rw [waitN_len h k hk]
  exact List.length_filter_le _ _

theorem atT_le (t : Int) (L : List (PMsg × Int)) : (atT t L).length ≤ L.length := by
  unfold atT
  rw [List.length_map]
  exact List.length_filter_le _ _

end Go.Proofs.Ytodmieehdleohaa
