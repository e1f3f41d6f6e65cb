/- What LockHolds and LockComes ask of a table, as plain values. -/
import Derived.Test.YtbnojmaknlfphaaDoorLk1
namespace Go.Proofs.YtbnojmaknlfphaaDoor
set_option linter.unusedVariables false

/-- what LockHolds asks of an answer -/
def HoldsOk (x : Lck) (r : Tab × Bool × Int) : Prop :=
  (r.2.2 = 1 ∧ r.2.1 = false) ∨ ((r.2.2 = 131 ∨ r.2.2 = 132) ∧ r.2.1 = false ∧ x ∉ r.1.wait) ∨
  (r.2.2 = 0 ∧ ((r.2.1 = true ∧ r.1.held.any (fun h => coversL h x) = true ∧ x ∉ r.1.wait) ∨ (r.2.1 = false ∧ r.1.held.any (fun h => coversL h x) = false ∧ x ∈ r.1.wait)))

theorem any_false {α : Type} {l : List α} {p : α → Bool} (h : ¬ l.any p = true) : l.any p = false := by simpa using h

theorem ask_holds {t : Tab} (h : TabI t) (x : Lck) : HoldsOk x (askL t x) := by
  unfold askL HoldsOk
  by_cases hb : badL x = true
  · rw [if_pos hb]; exact .inl ⟨rfl, rfl⟩
  rw [if_neg hb]
  have hb' : badL x = false := by simpa using hb
  have hokw : ∀ w ∈ leaveL t.wait x.tx x, badL w = false := fun w hw => h.ok w (mem_leave.1 hw).1
  by_cases hc : t.held.any (fun h => coversL h x) = true
  · rw [if_pos hc]
    refine .inr (.inr ⟨rfl, .inl ⟨rfl, hc, fun hx => ?_⟩⟩)
    obtain ⟨k, hk, e⟩ := List.any_eq_true.1 hc
    have := h.cov x hx k hk
    rw [e] at this
    cases this
  rw [if_neg hc]
  dsimp only
  by_cases hw : wayL t.held (aheadL (leaveL t.wait x.tx x) x) x = []
  · rw [if_pos hw]
    by_cases h4 : 400 ≤ t.held.length
    · rw [if_pos h4]
      exact .inr (.inl ⟨.inr rfl, rfl, fun hx => (leave_all hokw hx).2 rfl⟩)
    · rw [if_neg h4]
      refine .inr (.inr ⟨rfl, .inl ⟨rfl, ?_, fun hx => (leave_all hokw hx).2 rfl⟩⟩)
      rw [List.any_append]
      simp [coversL_self]
  · rw [if_neg hw]
    have hok3 : ∀ w ∈ queuedL (leaveL t.wait x.tx x) x, badL w = false := fun w hw => by
      unfold queuedL at hw
      split at hw
      · exact hokw w hw
      · rcases List.mem_append.1 hw with hw | hw
        · exact hokw w hw
        · rw [List.mem_singleton.1 hw]; exact hb'
    by_cases hcy : cycleW (edgesL t.held (queuedL (leaveL t.wait x.tx x) x)) x.tx = []
    · rw [if_pos hcy]
      refine .inr (.inr ⟨rfl, .inr ⟨rfl, any_false hc, ?_⟩⟩)
      show x ∈ queuedL (leaveL t.wait x.tx x) x
      unfold queuedL
      split
      · assumption
      · exact List.mem_append_right _ (List.mem_singleton.2 rfl)
    · rw [if_neg hcy]
      exact .inr (.inl ⟨.inl rfl, rfl, fun hx => (leave_all hok3 hx).2 rfl⟩)

/-- whose locks there are, and how many -/
structure TabD (t : Tab) (D : Int → Prop) (n : Nat) : Prop where
  h : ∀ k ∈ t.held, D k.tx
  w : ∀ k ∈ t.wait, D k.tx
  n : t.held.length ≤ n

theorem TabD.free {t : Tab} {D : Int → Prop} {n : Nat} (h : TabD t D n) (tx : Int) : TabD (freeL t tx).1 D n :=
  ⟨fun k hk => h.h k (List.mem_filter.1 hk).1, fun k hk => h.w k (mem_leave.1 hk).1, Nat.le_trans (List.length_filter_le _ _) h.n⟩

/-- nobody else's of those whose locks were freed -/
theorem TabD.freed {t : Tab} {D : Int → Prop} {n : Nat} (hi : TabI t) (h : TabD t D n) (tx : Int) : TabD (freeL t tx).1 (fun y => D y ∧ y ≠ tx) n :=
  ⟨fun k hk => ⟨h.h k (List.mem_filter.1 hk).1, by simpa using (List.mem_filter.1 hk).2⟩, fun k hk => ⟨h.w k (mem_leave.1 hk).1, (leave_all hi.ok hk).2⟩, Nat.le_trans (List.length_filter_le _ _) h.n⟩

theorem TabD.ask {t : Tab} {D : Int → Prop} {n : Nat} (h : TabD t D n) (x : Lck) (hx : D x.tx) : TabD (askL t x).1 D (n + 1) := by
  have h1 : TabD t D (n + 1) := ⟨h.h, h.w, Nat.le_succ_of_le h.n⟩
  have hq : ∀ k ∈ queuedL (leaveL t.wait x.tx x) x, D k.tx := fun k hk => by
    unfold queuedL at hk
    split at hk
    · exact h.w k (mem_leave.1 hk).1
    · rcases List.mem_append.1 hk with hk | hk
      · exact h.w k (mem_leave.1 hk).1
      · rw [List.mem_singleton.1 hk]; exact hx
  unfold askL
  split
  · exact h1
  · split
    · exact h1
    · dsimp only
      split
      · split
        · exact ⟨h.h, fun k hk => h.w k (mem_leave.1 (mem_leave.1 hk).1).1, h1.n⟩
        · refine ⟨fun k hk => ?_, fun k hk => h.w k (mem_leave.1 (mem_leave.1 hk).1).1, by rw [List.length_append]; simpa using h.n⟩
          rcases List.mem_append.1 hk with hk | hk
          · exact h.h k hk
          · rw [List.mem_singleton.1 hk]; exact hx
      · split
        · exact ⟨h.h, hq, h1.n⟩
        · exact ⟨h.h, fun k hk => hq k (mem_leave.1 hk).1, h1.n⟩

/-- x waits on where it stood while others free theirs -/
theorem free_waits {t : Tab} {x : Lck} (hx : x ∈ t.wait) {tx : Int} (hne : x.tx ≠ tx) : x ∈ (freeL t tx).1.wait := mem_leave.2 ⟨hx, .inl hne⟩

/-- who waits is granted it once nobody else has any -/
theorem comes_ok {t : Tab} (h : TabI t) {n : Nat} (hd : TabD t (fun _ => True) n) (hn : n < 400) (x : Lck) (hx : x ∈ t.wait) (hh : ∀ k ∈ t.held, k.tx = x.tx) (hw : ∀ k ∈ t.wait, k.tx = x.tx) : (askL t x).2 = (true, 0) := by
  have hb := h.ok x hx
  have hwx : ∀ k ∈ t.wait, k = x := fun k hk => tx_unique h.one hk hx (hw k hk)
  unfold askL
  rw [if_neg (by simp [hb])]
  by_cases hc : t.held.any (fun h => coversL h x) = true
  · rw [if_pos hc]
  · rw [if_neg hc]
    dsimp only
    have ha : aheadL (leaveL t.wait x.tx x) x = [] := by
      unfold aheadL
      cases e : leaveL t.wait x.tx x with
      | nil => rfl
      | cons y r =>
        have hy : y ∈ leaveL t.wait x.tx x := by rw [e]; simp
        have := hwx y (mem_leave.1 hy).1
        subst this
        simp
    have hway : wayL t.held (aheadL (leaveL t.wait x.tx x) x) x = [] := by
      rw [ha]
      unfold wayL
      have h1 : againstL t.held x = [] := by
        unfold againstL
        rw [List.filter_eq_nil_iff]
        intro k hk
        unfold standsL apartL
        simp [hh k hk]
      rw [h1]
      split <;> simp [againstL]
    rw [if_pos hway, if_neg (by have := hd.n; omega)]

end Go.Proofs.YtbnojmaknlfphaaDoor
