/- Locks as plain values: modes, keys in common, what stands in the way, a table that is asked and freed; what holds of it all along. What LockHolds and LockComes ask of a table, as plain values. Locks in memory; the reference's Fits, below, meets, Apart, Covers, same: what they answer. The reference's Apart, Covers, same: what they answer. The reference's Covers: what it answers. The reference's against and way: what they answer. -/
import Derived.Test.YtcgiicmmfleinaaGreatDoorWtL
import Derived.Test.YtcgiicmmfleinaaGreatDoorByC
import Derived.Test.YtcgiicmmfleinaaGreatDoorGnA
import Derived.BigQuiet
import Derived.Deep.DeepCutAuto
import Derived.Deep.CutBlock
import Derived.Deep.LoopGhost
namespace Go.Proofs.YtcgiicmmfleinaaGreatDoor
set_option linter.unusedVariables false

structure Lck where
  tx : Int
  lv : Int
  md : Int
  lo : List Int
  hi : List Int
deriving DecidableEq

def lck0 : Lck := ⟨0, 0, 0, [], []⟩

def fits2 (a b : Int) : Bool := if a < 1 ∨ 4 < b then false else if a = 1 then b != 4 else if a = 2 then b == 2 else (a == 3 && b == 3)

def fitsL (a b : Int) : Bool := if b < a then fits2 b a else fits2 a b

theorem fitsL_symm (a b : Int) : fitsL a b = fitsL b a := by
  unfold fitsL
  by_cases h : b < a
  · rw [if_pos h, if_neg (by omega)]
  · rw [if_neg h]
    by_cases h2 : a < b
    · rw [if_pos h2]
    · rw [if_neg h2]
      have : a = b := by omega
      rw [this]

/-- whether a bound is at or below a key -/
def belowL (hi key : List Int) : Bool := !hi.isEmpty && !lessL key hi

def meetsL (a b : Lck) : Bool := a.lv == b.lv && !belowL a.hi b.lo && !belowL b.hi a.lo

def apartL (a b : Lck) : Bool := a.tx == b.tx || !meetsL a b

def coversL (a b : Lck) : Bool := a.tx == b.tx && a.lv == b.lv && !lessL b.lo a.lo && (a.hi.isEmpty || (!b.hi.isEmpty && !lessL a.hi b.hi)) && (a.md == b.md || a.md == 4 || (b.md == 1 && (a.md == 3 || a.md == 2)))

theorem beq_symmI (a b : Int) : (a == b) = (b == a) := by
  by_cases h : a = b
  · rw [h]
  · rw [beq_eq_false_iff_ne.2 h, beq_eq_false_iff_ne.2 (Ne.symm h)]

theorem meetsL_symm (a b : Lck) : meetsL a b = meetsL b a := by
  unfold meetsL
  rw [beq_symmI a.lv b.lv]
  cases b.lv == a.lv <;> cases belowL a.hi b.lo <;> cases belowL b.hi a.lo <;> rfl

theorem apartL_symm (a b : Lck) : apartL a b = apartL b a := by
  unfold apartL
  rw [beq_symmI a.tx b.tx, meetsL_symm]

theorem coversL_self (a : Lck) : coversL a a = true := by
  unfold coversL
  rw [lessL_self, lessL_self]
  cases h : a.hi.isEmpty <;> simp

theorem coversL_tx {a b : Lck} (h : coversL a b = true) : a.tx = b.tx := by
  unfold coversL at h
  simp only [Bool.and_eq_true] at h
  simpa using h.1.1.1.1

/-- whether h stands in the way of x -/
def standsL (x h : Lck) : Bool := !apartL h x && !fitsL h.md x.md

def againstL (l : List Lck) (x : Lck) : List Lck := l.filter (standsL x)

def holdsL (held : List Lck) (x : Lck) : Bool := held.any (fun h => h.tx == x.tx && meetsL h x)

def wayL (held ahead : List Lck) (x : Lck) : List Lck := againstL held x ++ (if holdsL held x = true then [] else againstL ahead x)

def rawE (held : List Lck) : List Lck → List Lck → List (Int × Int)
  | _, [] => []
  | ahead, x :: r => (wayL held ahead x).map (fun h => (x.tx, h.tx)) ++ rawE held (ahead ++ [x]) r

def edgesL (held wait : List Lck) : List (Int × Int) := ddL (rawE held [] wait)

theorem rawE_snoc (held : List Lck) (x : Lck) : ∀ (r a : List Lck), rawE held a (r ++ [x]) = rawE held a r ++ (wayL held (a ++ r) x).map (fun h => (x.tx, h.tx)) := by
  intro r
  induction r with
  | nil => intro a; simp [rawE]
  | cons y r ih => intro a; rw [List.cons_append, rawE, rawE, ih, List.append_assoc, List.append_assoc]; simp

theorem mem_rawE (held : List Lck) (e : Int × Int) : ∀ (wait a : List Lck), e ∈ rawE held a wait ↔ ∃ b x c h, wait = b ++ x :: c ∧ h ∈ wayL held (a ++ b) x ∧ e = (x.tx, h.tx) := by
  intro wait
  induction wait with
  | nil => intro a; simp [rawE]
  | cons y r ih =>
    intro a
    rw [rawE, List.mem_append, ih]
    constructor
    · rintro (h | ⟨b, x, c, h, h1, h2, h3⟩)
      · obtain ⟨h, h1, h2⟩ := List.mem_map.1 h
        exact ⟨[], y, r, h, rfl, by simpa using h1, h2.symm⟩
      · exact ⟨y :: b, x, c, h, by rw [h1]; rfl, by simpa using h2, h3⟩
    · rintro ⟨b, x, c, h, h1, h2, h3⟩
      cases b with
      | nil =>
        cases h1
        exact .inl (List.mem_map.2 ⟨h, by simpa using h2, h3.symm⟩)
      | cons z b =>
        cases h1
        exact .inr ⟨b, x, c, h, rfl, by simpa using h2, h3⟩

theorem mem_edgesL {held wait : List Lck} {e : Int × Int} : e ∈ edgesL held wait ↔ ∃ b x c h, wait = b ++ x :: c ∧ h ∈ wayL held b x ∧ e = (x.tx, h.tx) := by
  unfold edgesL
  rw [mem_ddL, mem_rawE]
  simp

/-- a transaction waits for nothing but one lock -/
def leaveL (wait : List Lck) (tx : Int) (but : Lck) : List Lck := wait.filter (fun w => w.tx != tx || w == but)

structure Tab where
  held : List Lck
  wait : List Lck

def badL (x : Lck) : Bool := x.tx == 0 || (x.lv != 0 && x.lv != 1) || decide (x.md < 1) || decide (4 < x.md) || belowL x.hi x.lo

def queuedL (wt : List Lck) (x : Lck) : List Lck := if x ∈ wt then wt else wt ++ [x]

/-- what stands ahead of x among those that wait: all, if it is not there -/
def aheadL (wt : List Lck) (x : Lck) : List Lck := wt.takeWhile (fun w => w != x)

def askL (t : Tab) (x : Lck) : Tab × Bool × Int :=
  if badL x = true then (t, false, 1)
  else if t.held.any (fun h => coversL h x) = true then (t, true, 0)
  else
    let wt := leaveL t.wait x.tx x
    if wayL t.held (aheadL wt x) x = [] then
      let w2 := leaveL wt x.tx lck0
      if 400 ≤ t.held.length then (⟨t.held, w2⟩, false, 132) else (⟨t.held ++ [x], w2⟩, true, 0)
    else
      let w3 := queuedL wt x
      if cycleW (edgesL t.held w3) x.tx = [] then (⟨t.held, w3⟩, false, 0) else (⟨t.held, leaveL w3 x.tx lck0⟩, false, 131)

def freeL (t : Tab) (tx : Int) : Tab × Nat := (⟨t.held.filter (fun h => h.tx != tx), leaveL t.wait tx lck0⟩, t.held.length - (t.held.filter (fun h => h.tx != tx)).length)

/-- what holds of a table all along -/
structure TabI (t : Tab) : Prop where
  ok : ∀ w ∈ t.wait, badL w = false
  one : (t.wait.map Lck.tx).Nodup
  tog : t.held.Pairwise (fun k i => apartL i k = true ∨ fitsL i.md k.md = true)
  ring : NoRing (edgesL t.held t.wait)
  cov : ∀ w ∈ t.wait, ∀ h ∈ t.held, coversL h w = false

theorem bad_tx {x : Lck} (h : badL x = false) : x.tx ≠ 0 := by
  intro e
  unfold badL at h
  rw [e] at h
  simp at h

theorem mem_leave {wait : List Lck} {tx : Int} {but w : Lck} : w ∈ leaveL wait tx but ↔ w ∈ wait ∧ (w.tx ≠ tx ∨ w = but) := by
  unfold leaveL
  rw [List.mem_filter, Bool.or_eq_true]
  simp

theorem mem_against {l : List Lck} {x h : Lck} : h ∈ againstL l x ↔ h ∈ l ∧ standsL x h = true := List.mem_filter

theorem mem_way {held ahead : List Lck} {x h : Lck} : h ∈ wayL held ahead x ↔ h ∈ againstL held x ∨ (holdsL held x = false ∧ h ∈ againstL ahead x) := by
  unfold wayL
  rw [List.mem_append]
  cases holdsL held x <;> simp

/-- fewer that wait, in the same order: fewer edges -/
theorem edges_sub {held wait : List Lck} (p : Lck → Bool) : ∀ e ∈ edgesL held (wait.filter p), e ∈ edgesL held wait := by
  intro e he
  obtain ⟨b, x, c, h, h1, h2, h3⟩ := mem_edgesL.1 he
  obtain ⟨l1, l2, h4, h5, h6⟩ := List.filter_eq_append_iff.1 h1
  obtain ⟨m1, m2, h7, h8, h9, h10⟩ := List.filter_eq_cons_iff.1 h6
  refine mem_edgesL.2 ⟨l1 ++ m1, x, m2, h, by rw [h4, h7, List.append_assoc], ?_, h3⟩
  rcases mem_way.1 h2 with h11 | ⟨h11, h12⟩
  · exact mem_way.2 (.inl h11)
  · refine mem_way.2 (.inr ⟨h11, mem_against.2 ⟨?_, (mem_against.1 h12).2⟩⟩)
    have := (mem_against.1 h12).1
    rw [← h5] at this
    exact List.mem_append_left _ ((List.mem_filter.1 this).1)

theorem leave_txs {wait : List Lck} {tx : Int} {but : Lck} (h : (wait.map Lck.tx).Nodup) : ((leaveL wait tx but).map Lck.tx).Nodup := by
  unfold leaveL
  exact h.sublist (List.filter_sublist.map _)

/-- nobody of tx waits any more -/
theorem leave_all {wait : List Lck} {tx : Int} (hok : ∀ w ∈ wait, badL w = false) {w : Lck} (h : w ∈ leaveL wait tx lck0) : w ∈ wait ∧ w.tx ≠ tx := by
  obtain ⟨h1, h2⟩ := mem_leave.1 h
  refine ⟨h1, ?_⟩
  rcases h2 with h2 | h2
  · exact h2
  · subst h2
    have := bad_tx (hok _ h1)
    exact absurd rfl this

theorem TabI.free {t : Tab} (h : TabI t) (tx : Int) : TabI (freeL t tx).1 := by
  refine ⟨fun w hw => h.ok w (leave_all h.ok hw).1, leave_txs h.one, h.tog.filter _, ?_, fun w hw k hk => h.cov w (leave_all h.ok hw).1 k ((List.mem_filter.1 hk).1)⟩
  refine h.ring.sub (fun e he => ?_)
  obtain ⟨b, x, c, k, h1, h2, h3⟩ := mem_edgesL.1 he
  have hx : x ∈ leaveL t.wait tx lck0 := by
    have : x ∈ (freeL t tx).1.wait := by rw [h1]; simp
    exact this
  have hxt := (leave_all h.ok hx).2
  have hho : holdsL (t.held.filter (fun h => h.tx != tx)) x = holdsL t.held x := by
    unfold holdsL
    rw [List.any_filter]
    congr 1
    funext k
    by_cases e : k.tx = x.tx
    · have : k.tx ≠ tx := by rw [e]; exact hxt
      simp [this]
    · simp [e]
  have h4 : e ∈ edgesL t.held (leaveL t.wait tx lck0) := by
    refine mem_edgesL.2 ⟨b, x, c, k, h1, ?_, h3⟩
    rcases mem_way.1 h2 with h5 | ⟨h5, h6⟩
    · exact mem_way.2 (.inl (mem_against.2 ⟨(List.mem_filter.1 (mem_against.1 h5).1).1, (mem_against.1 h5).2⟩))
    · exact mem_way.2 (.inr ⟨by rw [← hho]; exact h5, h6⟩)
  exact edges_sub _ e h4

theorem tx_unique {wait : List Lck} (h : (wait.map Lck.tx).Nodup) {a b : Lck} (ha : a ∈ wait) (hb : b ∈ wait) (e : a.tx = b.tx) : a = b := by
  induction wait with
  | nil => cases ha
  | cons y r ih =>
    rw [List.map_cons, List.nodup_cons] at h
    rcases List.mem_cons.1 ha with ha1 | ha1 <;> rcases List.mem_cons.1 hb with hb1 | hb1
    · rw [ha1, hb1]
    · exact absurd (List.mem_map.2 ⟨b, hb1, by rw [← e, ha1]⟩) h.1
    · exact absurd (List.mem_map.2 ⟨a, ha1, by rw [e, hb1]⟩) h.1
    · exact ih h.2 ha1 hb1

theorem TabI.ask {t : Tab} (h : TabI t) (x : Lck) : TabI (askL t x).1 := by
  unfold askL
  by_cases hb : badL x = true
  · rw [if_pos hb]; exact h
  rw [if_neg hb]
  have hb' : badL x = false := by simpa using hb
  by_cases hc : t.held.any (fun h => coversL h x) = true
  · rw [if_pos hc]; exact h
  rw [if_neg hc]
  have hcov : ∀ k ∈ t.held, coversL k x = false := fun k hk => by
    cases e : coversL k x
    · rfl
    · exact absurd (List.any_eq_true.2 ⟨k, hk, e⟩) hc
  have hokw : ∀ w ∈ leaveL t.wait x.tx x, badL w = false := fun w hw => h.ok w (mem_leave.1 hw).1
  dsimp only
  by_cases hw : wayL t.held (aheadL (leaveL t.wait x.tx x) x) x = []
  · rw [if_pos hw]
    have hst : ∀ k ∈ t.held, standsL x k = false := fun k hk => by
      cases e : standsL x k
      · rfl
      · have : k ∈ wayL t.held (aheadL (leaveL t.wait x.tx x) x) x := mem_way.2 (.inl (mem_against.2 ⟨hk, e⟩))
        rw [hw] at this
        cases this
    have hbase : TabI ⟨t.held, leaveL (leaveL t.wait x.tx x) x.tx lck0⟩ := by
      refine ⟨fun w hw => hokw w (leave_all hokw hw).1, leave_txs (leave_txs h.one), h.tog, ?_, fun w hw k hk => h.cov w (mem_leave.1 (leave_all hokw hw).1).1 k hk⟩
      exact (h.ring.sub (edges_sub _)).sub (edges_sub _)
    by_cases h4 : 400 ≤ t.held.length
    · rw [if_pos h4]; exact hbase
    · rw [if_neg h4]
      refine ⟨hbase.ok, hbase.one, ?_, ?_, fun w hw k hk => ?_⟩
      · rw [List.pairwise_append]
        refine ⟨h.tog, List.pairwise_singleton _ _, fun k hk i hi => ?_⟩
        rw [List.mem_singleton.1 hi, apartL_symm, fitsL_symm]
        have := hst k hk
        unfold standsL at this
        cases e1 : apartL k x
        · cases e2 : fitsL k.md x.md
          · rw [e1, e2] at this; cases this
          · exact .inr rfl
        · exact .inl rfl
      · refine hbase.ring.into x.tx (fun e he hne => ?_) (fun e he => ?_)
        · obtain ⟨b, y, c, k, h1, h2, h3⟩ := mem_edgesL.1 he
          have hy : y ∈ leaveL (leaveL t.wait x.tx x) x.tx lck0 := by rw [show leaveL (leaveL t.wait x.tx x) x.tx lck0 = b ++ y :: c from h1]; simp
          have hyt := (leave_all hokw hy).2
          have hho : holdsL (t.held ++ [x]) y = holdsL t.held y := by
            unfold holdsL
            rw [List.any_append]
            have : ¬ x.tx = y.tx := fun e => hyt e.symm
            simp [this]
          refine mem_edgesL.2 ⟨b, y, c, k, h1, ?_, h3⟩
          rcases mem_way.1 h2 with h5 | ⟨h5, h6⟩
          · rcases List.mem_append.1 (mem_against.1 h5).1 with h7 | h7
            · exact mem_way.2 (.inl (mem_against.2 ⟨h7, (mem_against.1 h5).2⟩))
            · rw [List.mem_singleton.1 h7] at h3
              rw [h3] at hne
              exact absurd rfl hne
          · exact mem_way.2 (.inr ⟨by rw [← hho]; exact h5, h6⟩)
        · obtain ⟨b, y, c, k, h1, h2, h3⟩ := mem_edgesL.1 he
          have hy : y ∈ leaveL (leaveL t.wait x.tx x) x.tx lck0 := by rw [show leaveL (leaveL t.wait x.tx x) x.tx lck0 = b ++ y :: c from h1]; simp
          rw [h3]
          exact (leave_all hokw hy).2
      · rcases List.mem_append.1 hk with hk | hk
        · exact hbase.cov w hw k hk
        · rw [List.mem_singleton.1 hk]
          cases e : coversL x w
          · rfl
          · exact absurd (coversL_tx e).symm (leave_all hokw hw).2
  · rw [if_neg hw]
    have hok3 : ∀ w ∈ queuedL (leaveL t.wait x.tx x) x, badL w = false := fun w hw => by
      unfold queuedL at hw
      split at hw
      · exact hokw w hw
      · rcases List.mem_append.1 hw with hw | hw
        · exact hokw w hw
        · rw [List.mem_singleton.1 hw]; exact hb'
    have hone : ((queuedL (leaveL t.wait x.tx x) x).map Lck.tx).Nodup := by
      unfold queuedL
      split
      · exact leave_txs h.one
      · rename_i hx
        rw [List.map_append, List.nodup_append]
        refine ⟨leave_txs h.one, by simp, fun a ha b hb => ?_⟩
        simp at hb
        subst hb
        obtain ⟨w, hw, rfl⟩ := List.mem_map.1 ha
        intro e
        rcases (mem_leave.1 hw).2 with h2 | h2
        · exact h2 e
        · exact hx (h2 ▸ hw)
    have hcov3 : ∀ w ∈ queuedL (leaveL t.wait x.tx x) x, ∀ k ∈ t.held, coversL k w = false := fun w hw k hk => by
      unfold queuedL at hw
      split at hw
      · exact h.cov w (mem_leave.1 hw).1 k hk
      · rcases List.mem_append.1 hw with hw | hw
        · exact h.cov w (mem_leave.1 hw).1 k hk
        · rw [List.mem_singleton.1 hw]; exact hcov k hk
    have hedge : ∀ e ∈ edgesL t.held (queuedL (leaveL t.wait x.tx x) x), e.1 ≠ x.tx → e ∈ edgesL t.held t.wait := fun e he hne => by
      have h1 : e ∈ edgesL t.held (leaveL t.wait x.tx x) := by
        unfold queuedL at he
        split at he
        · exact he
        · unfold edgesL at he ⊢
          rw [mem_ddL, rawE_snoc, List.mem_append] at he
          rw [mem_ddL]
          rcases he with he | he
          · exact he
          · obtain ⟨k, _, h2⟩ := List.mem_map.1 he
            rw [← h2] at hne
            exact absurd rfl hne
      exact edges_sub _ e h1
    by_cases hcy : cycleW (edgesL t.held (queuedL (leaveL t.wait x.tx x) x)) x.tx = []
    · rw [if_pos hcy]
      exact ⟨hok3, hone, h.tog, h.ring.from x.tx hedge ((cycle_none_iff _ _).1 hcy), hcov3⟩
    · rw [if_neg hcy]
      refine ⟨fun w hw => hok3 w (leave_all hok3 hw).1, leave_txs hone, h.tog, ?_, fun w hw k hk => hcov3 w (leave_all hok3 hw).1 k hk⟩
      refine h.ring.sub (fun e he => ?_)
      refine hedge e (edges_sub _ e he) ?_
      obtain ⟨b, y, c, k, h1, h2, h3⟩ := mem_edgesL.1 he
      have hy : y ∈ leaveL (queuedL (leaveL t.wait x.tx x) x) x.tx lck0 := by rw [show leaveL (queuedL (leaveL t.wait x.tx x) x) x.tx lck0 = b ++ y :: c from h1]; simp
      rw [h3]
      exact (leave_all hok3 hy).2

theorem noring_nil : NoRing [] := fun x hx => by
  cases hx with
  | one e => cases e
  | more e _ => cases e

theorem tabI_new : TabI ⟨[], []⟩ := ⟨by simp, by simp, List.Pairwise.nil, noring_nil, by simp⟩

end Go.Proofs.YtcgiicmmfleinaaGreatDoor

namespace Go.Proofs.YtcgiicmmfleinaaGreatDoor
set_option linter.unusedVariables false

/-- what LockHolds asks of an answer -/
def HoldsOk (x : Lck) (r : Tab × Bool × Int) : Prop :=
  (r.2.2 = 1 ∧ r.2.1 = false) ∨ ((r.2.2 = 131 ∨ r.2.2 = 132) ∧ r.2.1 = false ∧ x ∉ r.1.wait) ∨
  (r.2.2 = 0 ∧ ((r.2.1 = true ∧ r.1.held.any (fun h => coversL h x) = true ∧ x ∉ r.1.wait) ∨ (r.2.1 = false ∧ r.1.held.any (fun h => coversL h x) = false ∧ x ∈ r.1.wait)))

theorem any_false {α : Type} {l : List α} {p : α → Bool} (h : ¬ l.any p = true) : l.any p = false := by simpa using h

theorem ask_holds {t : Tab} (h : TabI t) (x : Lck) : HoldsOk x (askL t x) := by
  unfold askL HoldsOk
  by_cases hb : badL x = true
  · rw [if_pos hb]; exact .inl ⟨rfl, rfl⟩
  rw [if_neg hb]
  have hb' : badL x = false := by simpa using hb
  have hokw : ∀ w ∈ leaveL t.wait x.tx x, badL w = false := fun w hw => h.ok w (mem_leave.1 hw).1
  by_cases hc : t.held.any (fun h => coversL h x) = true
  · rw [if_pos hc]
    refine .inr (.inr ⟨rfl, .inl ⟨rfl, hc, fun hx => ?_⟩⟩)
    obtain ⟨k, hk, e⟩ := List.any_eq_true.1 hc
    have := h.cov x hx k hk
    rw [e] at this
    cases this
  rw [if_neg hc]
  dsimp only
  by_cases hw : wayL t.held (aheadL (leaveL t.wait x.tx x) x) x = []
  · rw [if_pos hw]
    by_cases h4 : 400 ≤ t.held.length
    · rw [if_pos h4]
      exact .inr (.inl ⟨.inr rfl, rfl, fun hx => (leave_all hokw hx).2 rfl⟩)
    · rw [if_neg h4]
      refine .inr (.inr ⟨rfl, .inl ⟨rfl, ?_, fun hx => (leave_all hokw hx).2 rfl⟩⟩)
      rw [List.any_append]
      simp [coversL_self]
  · rw [if_neg hw]
    have hok3 : ∀ w ∈ queuedL (leaveL t.wait x.tx x) x, badL w = false := fun w hw => by
      unfold queuedL at hw
      split at hw
      · exact hokw w hw
      · rcases List.mem_append.1 hw with hw | hw
        · exact hokw w hw
        · rw [List.mem_singleton.1 hw]; exact hb'
    by_cases hcy : cycleW (edgesL t.held (queuedL (leaveL t.wait x.tx x) x)) x.tx = []
    · rw [if_pos hcy]
      refine .inr (.inr ⟨rfl, .inr ⟨rfl, any_false hc, ?_⟩⟩)
      show x ∈ queuedL (leaveL t.wait x.tx x) x
      unfold queuedL
      split
      · assumption
      · exact List.mem_append_right _ (List.mem_singleton.2 rfl)
    · rw [if_neg hcy]
      exact .inr (.inl ⟨.inl rfl, rfl, fun hx => (leave_all hok3 hx).2 rfl⟩)

/-- whose locks there are, and how many -/
structure TabD (t : Tab) (D : Int → Prop) (n : Nat) : Prop where
  h : ∀ k ∈ t.held, D k.tx
  w : ∀ k ∈ t.wait, D k.tx
  n : t.held.length ≤ n

theorem TabD.free {t : Tab} {D : Int → Prop} {n : Nat} (h : TabD t D n) (tx : Int) : TabD (freeL t tx).1 D n :=
  ⟨fun k hk => h.h k (List.mem_filter.1 hk).1, fun k hk => h.w k (mem_leave.1 hk).1, Nat.le_trans (List.length_filter_le _ _) h.n⟩

/-- nobody else's of those whose locks were freed -/
theorem TabD.freed {t : Tab} {D : Int → Prop} {n : Nat} (hi : TabI t) (h : TabD t D n) (tx : Int) : TabD (freeL t tx).1 (fun y => D y ∧ y ≠ tx) n :=
  ⟨fun k hk => ⟨h.h k (List.mem_filter.1 hk).1, by simpa using (List.mem_filter.1 hk).2⟩, fun k hk => ⟨h.w k (mem_leave.1 hk).1, (leave_all hi.ok hk).2⟩, Nat.le_trans (List.length_filter_le _ _) h.n⟩

theorem TabD.ask {t : Tab} {D : Int → Prop} {n : Nat} (h : TabD t D n) (x : Lck) (hx : D x.tx) : TabD (askL t x).1 D (n + 1) := by
  have h1 : TabD t D (n + 1) := ⟨h.h, h.w, Nat.le_succ_of_le h.n⟩
  have hq : ∀ k ∈ queuedL (leaveL t.wait x.tx x) x, D k.tx := fun k hk => by
    unfold queuedL at hk
    split at hk
    · exact h.w k (mem_leave.1 hk).1
    · rcases List.mem_append.1 hk with hk | hk
      · exact h.w k (mem_leave.1 hk).1
      · rw [List.mem_singleton.1 hk]; exact hx
  unfold askL
  split
  · exact h1
  · split
    · exact h1
    · dsimp only
      split
      · split
        · exact ⟨h.h, fun k hk => h.w k (mem_leave.1 (mem_leave.1 hk).1).1, h1.n⟩
        · refine ⟨fun k hk => ?_, fun k hk => h.w k (mem_leave.1 (mem_leave.1 hk).1).1, by rw [List.length_append]; simpa using h.n⟩
          rcases List.mem_append.1 hk with hk | hk
          · exact h.h k hk
          · rw [List.mem_singleton.1 hk]; exact hx
      · split
        · exact ⟨h.h, hq, h1.n⟩
        · exact ⟨h.h, fun k hk => hq k (mem_leave.1 hk).1, h1.n⟩

/-- x waits on where it stood while others free theirs -/
theorem free_waits {t : Tab} {x : Lck} (hx : x ∈ t.wait) {tx : Int} (hne : x.tx ≠ tx) : x ∈ (freeL t tx).1.wait := mem_leave.2 ⟨hx, .inl hne⟩

/-- who waits is granted it once nobody else has any -/
theorem comes_ok {t : Tab} (h : TabI t) {n : Nat} (hd : TabD t (fun _ => True) n) (hn : n < 400) (x : Lck) (hx : x ∈ t.wait) (hh : ∀ k ∈ t.held, k.tx = x.tx) (hw : ∀ k ∈ t.wait, k.tx = x.tx) : (askL t x).2 = (true, 0) := by
  have hb := h.ok x hx
  have hwx : ∀ k ∈ t.wait, k = x := fun k hk => tx_unique h.one hk hx (hw k hk)
  unfold askL
  rw [if_neg (by simp [hb])]
  by_cases hc : t.held.any (fun h => coversL h x) = true
  · rw [if_pos hc]
  · rw [if_neg hc]
    dsimp only
    have ha : aheadL (leaveL t.wait x.tx x) x = [] := by
      unfold aheadL
      cases e : leaveL t.wait x.tx x with
      | nil => rfl
      | cons y r =>
        have hy : y ∈ leaveL t.wait x.tx x := by rw [e]; simp
        have := hwx y (mem_leave.1 hy).1
        subst this
        simp
    have hway : wayL t.held (aheadL (leaveL t.wait x.tx x) x) x = [] := by
      rw [ha]
      unfold wayL
      have h1 : againstL t.held x = [] := by
        unfold againstL
        rw [List.filter_eq_nil_iff]
        intro k hk
        unfold standsL apartL
        simp [hh k hk]
      rw [h1]
      split <;> simp [againstL]
    rw [if_pos hway, if_neg (by have := hd.n; omega)]

end Go.Proofs.YtcgiicmmfleinaaGreatDoor

namespace Go.Proofs.YtcgiicmmfleinaaGreatDoor
open Go.RowKit NumMath Go.ChangeShapes Go.WideShapes Go.Deep
set_option linter.unusedVariables false
set_option maxRecDepth 100000

/-- a lock, and where its keys lie -/
structure ML where
  l : Lck
  la : Option Addr
  ln : Nat
  lc : Nat
  ha : Option Addr
  hn : Nat
  hc : Nat

def ML.cells (m : ML) : List Value := [.int .u64 m.l.tx, .int .i64 m.l.lv, .int .i64 m.l.md, .slice m.la m.ln m.lc, .slice m.ha m.hn m.hc]

def layK : Lay ML where
  e := 41
  t := 33
  k := 5
  bys := 72
  z := .agg #[.int .u64 0, .int .i64 0, .int .i64 0, .slice none 0 0, .slice none 0 0]
  cells := fun m => [.int .u64 m.l.tx, .int .i64 m.l.lv, .int .i64 m.l.md, .slice m.la m.ln m.lc, .slice m.ha m.hn m.hc]
  len := fun _ => rfl
  one := by intro x u hu; simp at hu; rcases hu with rfl | rfl | rfl | rfl | rfl <;> rfl
  pos := by decide
  few := by decide
  und := Tryz.underlying33
  info := by kernel_rfl
  zs := rfl

/-- its keys lie there -/
structure ML.ok (w : World) (m : ML) : Prop where
  lo : IsBytes w m.la m.ln m.lc m.l.lo
  hi : IsBytes w m.ha m.hn m.hc m.l.hi

theorem ML.ok.keep {w w' : World} {m : ML} (h : m.ok w) (hb : Below w.heap.size w w') : m.ok w' := ⟨h.lo.keep hb, h.hi.keep hb⟩

set_option maxHeartbeats 2000000 in
theorem fits_any (a b : Int) (w : World) : Calls Tryz.prog 180 #[.int .i64 a, .int .i64 b] w fun e w' => e = .returned (.bool (fitsL a b)) ∧ w' = w := by
  obtain ⟨z, hz⟩ : ∃ z, fitsL a b = z := ⟨_, rfl⟩
  rw [hz]
  unfold fitsL at hz
  by_cases hab : b < a
  · rw [if_pos hab] at hz
    unfold fits2 at hz
    by_cases h1 : b < 1
    · rw [if_pos (.inl h1)] at hz
      subst hz
      go_enter Tryz.func180, Tryz.ntmps180
      go_wp2
      go_ret
      exact ⟨rfl, rfl⟩
    by_cases h2 : 4 < a
    · rw [if_pos (.inr h2)] at hz
      subst hz
      go_enter Tryz.func180, Tryz.ntmps180
      go_wp2
      go_ret
      exact ⟨rfl, rfl⟩
    rw [if_neg (by omega)] at hz
    have hb : b = 1 ∨ b = 2 ∨ b = 3 := by omega
    rcases hb with rfl | rfl | rfl
    all_goals
      have ha : a = 2 ∨ a = 3 ∨ a = 4 := by omega
      rcases ha with rfl | rfl | rfl
      all_goals first
        | (exfalso; omega)
        | (simp at hz; subst hz; go_enter Tryz.func180, Tryz.ntmps180; go_wp2; go_ret; exact ⟨rfl, rfl⟩)
  · rw [if_neg hab] at hz
    unfold fits2 at hz
    by_cases h1 : a < 1
    · rw [if_pos (.inl h1)] at hz
      subst hz
      go_enter Tryz.func180, Tryz.ntmps180
      go_wp2
      go_ret
      exact ⟨rfl, rfl⟩
    by_cases h2 : 4 < b
    · rw [if_pos (.inr h2)] at hz
      subst hz
      go_enter Tryz.func180, Tryz.ntmps180
      go_wp2
      go_ret
      exact ⟨rfl, rfl⟩
    rw [if_neg (by omega)] at hz
    have ha : a = 1 ∨ a = 2 ∨ a = 3 ∨ a = 4 := by omega
    rcases ha with rfl | rfl | rfl | rfl
    all_goals
      have hb : b = 1 ∨ b = 2 ∨ b = 3 ∨ b = 4 := by omega
      rcases hb with rfl | rfl | rfl | rfl
      all_goals first
        | (exfalso; omega)
        | (simp at hz; subst hz; go_enter Tryz.func180, Tryz.ntmps180; go_wp2; go_ret; exact ⟨rfl, rfl⟩)

theorem le_strB (x y : List Int) (hx : ∀ c ∈ x, isB c) (hy : ∀ c ∈ y, isB c) : (Op.bytesLess (strB x).toList (strB y).toList || (strB x).toList == (strB y).toList) = !lessL y x := by
  rw [bytesLess_strB x y hx hy, strB_eq x y hx hy]
  cases h1 : lessL x y
  · cases h2 : lessL y x
    · simp [lessL_total x y h1 h2]
    · have : ¬ x = y := fun e => by rw [e, lessL_self] at h2; cases h2
      simp [this]
  · simp [lessL_anti x y h1]

theorem below_any (ha : Option Addr) (hn hc : Nat) (hi : List Int) (ka : Option Addr) (kn kc : Nat) (key : List Int) (w : World) (h1 : IsBytes w ha hn hc hi) (h2 : IsBytes w ka kn kc key) :
    Calls Tryz.prog 124 #[.slice ha hn hc, .slice ka kn kc] w fun e w' => e = .returned (.bool (belowL hi key)) ∧ w' = w := by
  have q1 := h1.conv
  have q2 := h2.conv
  have hl := h1.1
  have HR := hide (And.intro h1.2.2.2.1 h2.2.2.2.1)
  have hm : (hn : Int) ≤ 9223372036854775807 := by have := h1.2.1; have := h1.2.2.1; unfold maxLen at this; omega
  clear h1 h2
  by_cases h0 : hn = 0
  · subst h0
    have he : hi = [] := List.length_eq_zero_iff.1 hl
    go_enter Tryz.func124, Tryz.ntmps124
    go_wp2
    go_ret
    exact ⟨by rw [he]; rfl, rfl⟩
  · have h0' : (0 : Int) < (hn : Int) := by omega
    have h0N : 0 < hn := by omega
    have he : hi.isEmpty = false := by cases hi with | nil => simp at hl; omega | cons _ _ => rfl
    go_enter Tryz.func124, Tryz.ntmps124
    go_wp2
    go_ret
    refine ⟨?_, rfl⟩
    show Ending.returned (.bool (Op.bytesLess (strB hi).toList (strB key).toList || (strB hi).toList == (strB key).toList)) = _
    rw [le_strB hi key HR.out.1 HR.out.2]
    unfold belowL
    rw [he]
    rfl

set_option maxHeartbeats 2000000 in
theorem meets_any (a b : ML) (w : World) (h1 : a.ok w) (h2 : b.ok w) :
    Calls Tryz.prog 158 #[.agg #[.int .u64 a.l.tx, .int .i64 a.l.lv, .int .i64 a.l.md, .slice a.la a.ln a.lc, .slice a.ha a.hn a.hc], .agg #[.int .u64 b.l.tx, .int .i64 b.l.lv, .int .i64 b.l.md, .slice b.la b.ln b.lc, .slice b.ha b.hn b.hc]] w fun e w' => e = .returned (.bool (meetsL a.l b.l)) ∧ Below w.heap.size w w' := by
  have HB := fun W (hW : Below w.heap.size w W) => hide (below_any a.ha a.hn a.hc a.l.hi b.la b.ln b.lc b.l.lo W (h1.hi.keep hW) (h2.lo.keep hW))
  have HB2 := fun W (hW : Below w.heap.size w W) => hide (below_any b.ha b.hn b.hc b.l.hi a.la a.ln a.lc a.l.lo W (h2.hi.keep hW) (h1.lo.keep hW))
  obtain ⟨z1, hz1⟩ : ∃ z, belowL a.l.hi b.l.lo = z := ⟨_, rfl⟩
  obtain ⟨z2, hz2⟩ : ∃ z, belowL b.l.hi a.l.lo = z := ⟨_, rfl⟩
  obtain ⟨zm, hzm⟩ : ∃ z, meetsL a.l b.l = z := ⟨_, rfl⟩
  rw [hzm]
  unfold meetsL at hzm
  rw [hz1, hz2] at hzm
  rw [hz1] at HB
  rw [hz2] at HB2
  have hn := ((Below.refl _ w).alloc (Nat.le_refl _) (.cells #[.int .u64 a.l.tx, .int .i64 a.l.lv, .int .i64 a.l.md, .slice a.la a.ln a.lc, .slice a.ha a.hn a.hc] 41)).alloc (by simp) (.cells #[.int .u64 b.l.tx, .int .i64 b.l.lv, .int .i64 b.l.md, .slice b.la b.ln b.lc, .slice b.ha b.hn b.hc] 41)
  have HC1 := HB _ hn
  have HC2 := HB2 _ hn
  have HN := hide hn
  have HZ := hide hzm
  clear HB HB2 h1 h2 hz1 hz2 hn hzm
  by_cases hlv : a.l.lv = b.l.lv
  · have hlv' : (a.l.lv == b.l.lv) = true := by simp [hlv]
    rw [hlv'] at HZ
    clear hlv
    cases z1 with
    | true =>
      have HZ2 : Hid (zm = false) := by rw [← HZ.out]; rfl
      go_enter Tryz.func158, Tryz.ntmps158
      go_wp2_with (first
        | (go_at_call 124; go_must (refine HC1.out.mono ?_); rintro e w1 ⟨rfl, hw⟩; have hw := hw.symm; subst hw))
      go_ret
      exact ⟨by rw [HZ2.out]; rfl, HN.out⟩
    | false =>
      have HZ2 : Hid (zm = !z2) := by rw [← HZ.out]; rfl
      go_enter Tryz.func158, Tryz.ntmps158
      go_wp2_with (first
        | (go_at_call_of 124 b.hn; go_must (refine HC2.out.mono ?_); rintro e w2 ⟨rfl, hw⟩; have hw := hw.symm; subst hw)
        | (go_at_call 124; go_must (refine HC1.out.mono ?_); rintro e w1 ⟨rfl, hw⟩; have hw := hw.symm; subst hw))
      go_ret
      exact ⟨by rw [HZ2.out]; rfl, HN.out⟩
  · have hlv' : (a.l.lv == b.l.lv) = false := by simp [hlv]
    rw [hlv'] at HZ
    have HZ2 : Hid (zm = false) := by rw [← HZ.out]; rfl
    clear hlv
    go_enter Tryz.func158, Tryz.ntmps158
    go_wp2
    go_ret
    exact ⟨by rw [HZ2.out]; rfl, HN.out⟩

end Go.Proofs.YtcgiicmmfleinaaGreatDoor

namespace Go.Proofs.YtcgiicmmfleinaaGreatDoor
open Go.RowKit NumMath Go.ChangeShapes Go.WideShapes Go.Deep
set_option linter.unusedVariables false
set_option maxRecDepth 100000

set_option maxHeartbeats 2000000 in
theorem apart_any (a b : ML) (w : World) (h1 : a.ok w) (h2 : b.ok w) :
    Calls Tryz.prog 179 #[.agg #[.int .u64 a.l.tx, .int .i64 a.l.lv, .int .i64 a.l.md, .slice a.la a.ln a.lc, .slice a.ha a.hn a.hc], .agg #[.int .u64 b.l.tx, .int .i64 b.l.lv, .int .i64 b.l.md, .slice b.la b.ln b.lc, .slice b.ha b.hn b.hc]] w fun e w' => e = .returned (.bool (apartL a.l b.l)) ∧ Below w.heap.size w w' := by
  have hn := ((Below.refl _ w).alloc (Nat.le_refl _) (.cells #[.int .u64 a.l.tx, .int .i64 a.l.lv, .int .i64 a.l.md, .slice a.la a.ln a.lc, .slice a.ha a.hn a.hc] 41)).alloc (by simp) (.cells #[.int .u64 b.l.tx, .int .i64 b.l.lv, .int .i64 b.l.md, .slice b.la b.ln b.lc, .slice b.ha b.hn b.hc] 41)
  have HC := hide (meets_any a b _ (h1.keep hn) (h2.keep hn))
  have HN := hide hn
  obtain ⟨z, hz⟩ : ∃ z, meetsL a.l b.l = z := ⟨_, rfl⟩
  rw [hz] at HC
  clear h1 h2 hn
  by_cases ht : a.l.tx = b.l.tx
  · have ht' : (a.l.tx == b.l.tx) = true := by simp [ht]
    have HA : Hid (apartL a.l b.l = true) := by show _ = _; unfold apartL; rw [ht']; rfl
    clear ht
    go_enter Tryz.func179, Tryz.ntmps179
    go_wp2
    go_ret
    exact ⟨by rw [HA.out]; rfl, HN.out⟩
  · have ht' : (a.l.tx == b.l.tx) = false := by simp [ht]
    have HA : Hid (apartL a.l b.l = !z) := by show _ = _; unfold apartL; rw [ht', hz]; rfl
    clear ht hz
    go_enter Tryz.func179, Tryz.ntmps179
    go_wp2_with (first
      | (go_at_call 158; go_must (refine HC.out.mono ?_); rintro e w1 ⟨rfl, hb⟩; have HB1 := hide hb; clear hb))
    go_ret
    exact ⟨by rw [HA.out]; rfl, HN.out.trans (HB1.out.mono HN.out.size)⟩

theorem eq_strB (x y : List Int) (hx : ∀ c ∈ x, isB c) (hy : ∀ c ∈ y, isB c) : ((strB x).toList == (strB y).toList) = decide (x = y) := strB_eq x y hx hy

theorem lck_eq (a b : Lck) : decide (a = b) = (a.tx == b.tx && a.lv == b.lv && a.md == b.md && decide (a.lo = b.lo) && decide (a.hi = b.hi)) := by
  cases a with | mk t1 l1 m1 o1 h1 => cases b with | mk t2 l2 m2 o2 h2 =>
  by_cases e1 : t1 = t2 <;> by_cases e2 : l1 = l2 <;> by_cases e3 : m1 = m2 <;> by_cases e4 : o1 = o2 <;> by_cases e5 : h1 = h2 <;> simp [e1, e2, e3, e4, e5]

set_option maxHeartbeats 4000000 in
theorem same_any (a b : ML) (w : World) (h1 : a.ok w) (h2 : b.ok w) :
    Calls Tryz.prog 32 #[.agg #[.int .u64 a.l.tx, .int .i64 a.l.lv, .int .i64 a.l.md, .slice a.la a.ln a.lc, .slice a.ha a.hn a.hc], .agg #[.int .u64 b.l.tx, .int .i64 b.l.lv, .int .i64 b.l.md, .slice b.la b.ln b.lc, .slice b.ha b.hn b.hc]] w fun e w' => e = .returned (.bool (decide (a.l = b.l))) ∧ Below w.heap.size w w' := by
  have hn := ((Below.refl _ w).alloc (Nat.le_refl _) (.cells #[.int .u64 a.l.tx, .int .i64 a.l.lv, .int .i64 a.l.md, .slice a.la a.ln a.lc, .slice a.ha a.hn a.hc] 41)).alloc (by simp) (.cells #[.int .u64 b.l.tx, .int .i64 b.l.lv, .int .i64 b.l.md, .slice b.la b.ln b.lc, .slice b.ha b.hn b.hc] 41)
  have HN := hide hn
  have q1 := (h1.lo.keep hn).conv
  have q2 := (h2.lo.keep hn).conv
  have q3 := (h1.hi.keep hn).conv
  have q4 := (h2.hi.keep hn).conv
  have HE1 := hide (eq_strB a.l.lo b.l.lo h1.lo.2.2.2.1 h2.lo.2.2.2.1)
  have HE2 := hide (eq_strB a.l.hi b.l.hi h1.hi.2.2.2.1 h2.hi.2.2.2.1)
  obtain ⟨z, hz⟩ : ∃ z, decide (a.l = b.l) = z := ⟨_, rfl⟩
  rw [hz]
  rw [lck_eq] at hz
  obtain ⟨y1, hy1⟩ : ∃ y, decide (a.l.lo = b.l.lo) = y := ⟨_, rfl⟩
  obtain ⟨y2, hy2⟩ : ∃ y, decide (a.l.hi = b.l.hi) = y := ⟨_, rfl⟩
  rw [hy1] at HE1 hz
  rw [hy2] at HE2 hz
  have HZ := hide hz
  clear h1 h2 hn hz hy1 hy2
  by_cases ht : a.l.tx = b.l.tx
  · have ht' : (a.l.tx == b.l.tx) = true := by simp [ht]
    by_cases hl : a.l.lv = b.l.lv
    · have hl' : (a.l.lv == b.l.lv) = true := by simp [hl]
      by_cases hm : a.l.md = b.l.md
      · have hm' : (a.l.md == b.l.md) = true := by simp [hm]
        rw [ht', hl', hm'] at HZ
        have e1 := HE1.out
        have e2 := HE2.out
        clear ht hl hm
        cases y1 with
        | true =>
          have HZ2 : Hid (z = y2) := by rw [← HZ.out]; rfl
          go_enter Tryz.func32, Tryz.ntmps32
          go_wp2
          go_ret
          refine ⟨?_, HN.out⟩
          rw [HZ2.out, ← HE2.out]; rfl
        | false =>
          have HZ2 : Hid (z = false) := by rw [← HZ.out]; rfl
          go_enter Tryz.func32, Tryz.ntmps32
          go_wp2
          go_ret
          exact ⟨by rw [HZ2.out]; rfl, HN.out⟩
      · have hm' : (a.l.md == b.l.md) = false := by simp [hm]
        rw [ht', hl', hm'] at HZ
        have HZ2 : Hid (z = false) := by rw [← HZ.out]; rfl
        clear ht hl hm
        go_enter Tryz.func32, Tryz.ntmps32
        go_wp2
        go_ret
        exact ⟨by rw [HZ2.out]; rfl, HN.out⟩
    · have hl' : (a.l.lv == b.l.lv) = false := by simp [hl]
      rw [ht', hl'] at HZ
      have HZ2 : Hid (z = false) := by rw [← HZ.out]; rfl
      clear ht hl
      go_enter Tryz.func32, Tryz.ntmps32
      go_wp2
      go_ret
      exact ⟨by rw [HZ2.out]; rfl, HN.out⟩
  · have ht' : (a.l.tx == b.l.tx) = false := by simp [ht]
    rw [ht'] at HZ
    have HZ2 : Hid (z = false) := by rw [← HZ.out]; rfl
    clear ht
    go_enter Tryz.func32, Tryz.ntmps32
    go_wp2
    go_ret
    exact ⟨by rw [HZ2.out]; rfl, HN.out⟩

end Go.Proofs.YtcgiicmmfleinaaGreatDoor

namespace Go.Proofs.YtcgiicmmfleinaaGreatDoor
open Go.RowKit NumMath Go.ChangeShapes Go.WideShapes Go.Deep
set_option linter.unusedVariables false
set_option maxRecDepth 100000

def covHi (a b : Lck) : Bool := a.hi.isEmpty || (!b.hi.isEmpty && !lessL a.hi b.hi)

def covMd (a b : Lck) : Bool := a.md == b.md || a.md == 4 || (b.md == 1 && (a.md == 3 || a.md == 2))

theorem coversL_eq (a b : Lck) : coversL a b = (a.tx == b.tx && a.lv == b.lv && !lessL b.lo a.lo && covHi a b && covMd a b) := rfl

theorem empty_len {xs : List Int} {n : Nat} (h : xs.length = n) : xs.isEmpty = decide (n = 0) := by
  subst h
  cases xs <;> simp

set_option maxHeartbeats 4000000 in
theorem covers_any (a b : ML) (w : World) (h1 : a.ok w) (h2 : b.ok w) :
    Calls Tryz.prog 125 #[.agg #[.int .u64 a.l.tx, .int .i64 a.l.lv, .int .i64 a.l.md, .slice a.la a.ln a.lc, .slice a.ha a.hn a.hc], .agg #[.int .u64 b.l.tx, .int .i64 b.l.lv, .int .i64 b.l.md, .slice b.la b.ln b.lc, .slice b.ha b.hn b.hc]] w fun e w' => e = .returned (.bool (coversL a.l b.l)) ∧ Below w.heap.size w w' := by
  have hn := ((Below.refl _ w).alloc (Nat.le_refl _) (.cells #[.int .u64 a.l.tx, .int .i64 a.l.lv, .int .i64 a.l.md, .slice a.la a.ln a.lc, .slice a.ha a.hn a.hc] 41)).alloc (by simp) (.cells #[.int .u64 b.l.tx, .int .i64 b.l.lv, .int .i64 b.l.md, .slice b.la b.ln b.lc, .slice b.ha b.hn b.hc] 41)
  obtain ⟨W2, hW2⟩ : ∃ W, W = (w.alloc (.cells #[.int .u64 a.l.tx, .int .i64 a.l.lv, .int .i64 a.l.md, .slice a.la a.ln a.lc, .slice a.ha a.hn a.hc] 41)).alloc (.cells #[.int .u64 b.l.tx, .int .i64 b.l.lv, .int .i64 b.l.md, .slice b.la b.ln b.lc, .slice b.ha b.hn b.hc] 41) := ⟨_, rfl⟩
  rw [← hW2] at hn
  have HN := hide hn
  have q1 := (h1.lo.keep hn).conv
  have q2 := (h2.lo.keep hn).conv
  have q3 := (h1.hi.keep hn).conv
  have q4 := (h2.hi.keep hn).conv
  have hs2 : W2.heap.size = w.heap.size + 2 := by rw [hW2]; simp
  have ra : W2.rangeAt w.heap.size 0 #[.int .u64 a.l.tx, .int .i64 a.l.lv, .int .i64 a.l.md, .slice a.la a.ln a.lc, .slice a.ha a.hn a.hc].toList := by rw [hW2]; exact rangeY_same (rangeY_new w w.heap.size #[.int .u64 a.l.tx, .int .i64 a.l.lv, .int .i64 a.l.md, .slice a.la a.ln a.lc, .slice a.ha a.hn a.hc] 41 rfl) ((new_below _ _).block _ (by simp))
  have rb : W2.rangeAt (w.heap.size + 1) 0 #[.int .u64 b.l.tx, .int .i64 b.l.lv, .int .i64 b.l.md, .slice b.la b.ln b.lc, .slice b.ha b.hn b.hc].toList := by rw [hW2]; exact rangeY_new _ _ _ _ (by simp)
  have a0 : W2.cell? ⟨w.heap.size, 0, none⟩ = some (.int .u64 a.l.tx) := ra 0 _ rfl
  have a1 : W2.cell? ⟨w.heap.size, 1, none⟩ = some (.int .i64 a.l.lv) := ra 1 _ rfl
  have a2 : W2.cell? ⟨w.heap.size, 2, none⟩ = some (.int .i64 a.l.md) := ra 2 _ rfl
  have a3 : W2.cell? ⟨w.heap.size, 3, none⟩ = some (.slice a.la a.ln a.lc) := ra 3 _ rfl
  have a4 : W2.cell? ⟨w.heap.size, 4, none⟩ = some (.slice a.ha a.hn a.hc) := ra 4 _ rfl
  have b0 : W2.cell? ⟨w.heap.size + 1, 0, none⟩ = some (.int .u64 b.l.tx) := rb 0 _ rfl
  have b1 : W2.cell? ⟨w.heap.size + 1, 1, none⟩ = some (.int .i64 b.l.lv) := rb 1 _ rfl
  have b2 : W2.cell? ⟨w.heap.size + 1, 2, none⟩ = some (.int .i64 b.l.md) := rb 2 _ rfl
  have b3 : W2.cell? ⟨w.heap.size + 1, 3, none⟩ = some (.slice b.la b.ln b.lc) := rb 3 _ rfl
  have b4 : W2.cell? ⟨w.heap.size + 1, 4, none⟩ = some (.slice b.ha b.hn b.hc) := rb 4 _ rfl
  have HL1 := hide (le_strB a.l.lo b.l.lo h1.lo.2.2.2.1 h2.lo.2.2.2.1)
  have HL2 := hide (le_strB b.l.hi a.l.hi h2.hi.2.2.2.1 h1.hi.2.2.2.1)
  have hah := empty_len h1.hi.1
  have hbh := empty_len h2.hi.1
  have hma : (a.hn : Int) ≤ 9223372036854775807 := by have := h1.hi.2.1; have := h1.hi.2.2.1; unfold maxLen at this; omega
  have hmb : (b.hn : Int) ≤ 9223372036854775807 := by have := h2.hi.2.1; have := h2.hi.2.2.1; unfold maxLen at this; omega
  obtain ⟨z, hz⟩ : ∃ z, coversL a.l b.l = z := ⟨_, rfl⟩
  rw [hz]
  rw [coversL_eq] at hz
  obtain ⟨zh, hzh⟩ : ∃ z, covHi a.l b.l = z := ⟨_, rfl⟩
  obtain ⟨zm, hzm⟩ : ∃ z, covMd a.l b.l = z := ⟨_, rfl⟩
  obtain ⟨y1, hy1⟩ : ∃ y, lessL b.l.lo a.l.lo = y := ⟨_, rfl⟩
  obtain ⟨y2, hy2⟩ : ∃ y, lessL a.l.hi b.l.hi = y := ⟨_, rfl⟩
  rw [hzh, hzm, hy1] at hz
  rw [hy1] at HL1
  rw [hy2] at HL2
  unfold covHi at hzh
  rw [hah, hbh, hy2] at hzh
  unfold covMd at hzm
  have HZ := hide hz
  have HZh := hide hzh
  have HZm := hide hzm
  clear h1 h2 hn hz hzh hzm hy1 hy2 hah hbh ra rb hs2
  go_enter Tryz.func125, Tryz.ntmps125
  go_upto_region 1 with fail
  rw [← hW2]
  clear hW2
  go_cut [5] (fun s wx => s = .bool zh ∧ Hid (wx = W2))
  case first =>
    by_cases ca : a.hn = 0
    · have HZ2 := hide (show zh = true by rw [← HZh.out]; simp [ca])
      have ca' : (a.hn : Int) = 0 := by omega
      have cab : ((a.hn : Int) == 0) = true := by simp [ca]
      clear ca'
      go_wp2
      go_meet
      exact ⟨by rw [HZ2.out], hide rfl⟩
    · have cab : ((a.hn : Int) == 0) = false := by simp [ca]
      have caN : (a.hn == 0) = false := by simp [ca]
      by_cases cb : b.hn = 0
      · have HZ2 := hide (show zh = false by rw [← HZh.out]; simp [ca, cb])
        have cbb : ¬ (0 : Int) < (b.hn : Int) := by omega
        have cbN : ¬ 0 < b.hn := by omega
        clear cb
        go_wp2
        go_meet
        exact ⟨by rw [HZ2.out], hide rfl⟩
      · have HZ2 := hide (show zh = !y2 by rw [← HZh.out]; simp [ca, cb])
        have cbb : (0 : Int) < (b.hn : Int) := by omega
        have cbN : 0 < b.hn := by omega
        have e2 := HL2.out
        clear cb
        go_wp2
        go_meet
        exact ⟨by rw [HZ2.out], hide rfl⟩
  case rest =>
    obtain ⟨rfl, hwc⟩ := hcut
    have hwc := hwc.out
    subst hwc
    go_upto_region 2 with fail
    go_cut [6] (fun s wx => s = .bool zm ∧ Hid (wx = wc))
    case first =>
      by_cases m1 : a.l.md = b.l.md
      · have HZ2 := hide (show zm = true by rw [← HZm.out]; simp [m1])
        have m1' : (a.l.md == b.l.md) = true := by simp [m1]
        clear m1
        go_wp2
        go_meet
        exact ⟨by rw [HZ2.out], hide rfl⟩
      · have m1' : (a.l.md == b.l.md) = false := by simp [m1]
        by_cases m2 : a.l.md = 4
        · have HZ2 := hide (show zm = true by rw [← HZm.out]; simp [m2])
          have m2' : (a.l.md == 4) = true := by simp [m2]
          clear m1 m2
          go_wp2
          go_meet
          exact ⟨by rw [HZ2.out], hide rfl⟩
        · have m2' : (a.l.md == 4) = false := by simp [m2]
          by_cases m3 : b.l.md = 1
          · have m3' : (b.l.md == 1) = true := by simp [m3]
            by_cases m4 : a.l.md = 3
            · have HZ2 := hide (show zm = true by rw [← HZm.out, m3', show (a.l.md == 3) = true by simp [m4]]; simp)
              have m4' : (a.l.md == 3) = true := by simp [m4]
              clear m1 m2 m3 m4
              go_wp2
              go_meet
              exact ⟨by rw [HZ2.out], hide rfl⟩
            · have m4' : (a.l.md == 3) = false := by simp [m4]
              obtain ⟨y5, hy5⟩ : ∃ y, (a.l.md == 2) = y := ⟨_, rfl⟩
              have HZ2 := hide (show zm = y5 by rw [← HZm.out, m1', m2', m3', m4', hy5]; simp)
              clear m1 m2 m3 m4
              go_wp2
              go_meet
              exact ⟨by rw [HZ2.out], hide rfl⟩
          · have m3' : (b.l.md == 1) = false := by simp [m3]
            have HZ2 := hide (show zm = false by rw [← HZm.out, m1', m2', m3']; simp)
            clear m1 m2 m3
            go_wp2
            go_meet
            exact ⟨by rw [HZ2.out], hide rfl⟩
    case rest =>
      obtain ⟨rfl, hwc2⟩ := hcut
      have hwc2 := hwc2.out
      subst hwc2
      have e1 := HL1.out
      by_cases t1 : a.l.tx = b.l.tx
      · have t1' : (a.l.tx == b.l.tx) = true := by simp [t1]
        by_cases t2 : a.l.lv = b.l.lv
        · have t2' : (a.l.lv == b.l.lv) = true := by simp [t2]
          rw [t1', t2'] at HZ
          clear t1 t2
          cases y1 with
          | true =>
            have HZ2 : Hid (z = false) := by rw [← HZ.out]; rfl
            go_wp2
            go_ret
            exact ⟨by rw [HZ2.out]; rfl, HN.out⟩
          | false =>
            cases zh with
            | true =>
              have HZ2 : Hid (z = zm) := by rw [← HZ.out]; rfl
              go_wp2
              go_ret
              exact ⟨by rw [HZ2.out]; rfl, HN.out⟩
            | false =>
              have HZ2 : Hid (z = false) := by rw [← HZ.out]; rfl
              go_wp2
              go_ret
              exact ⟨by rw [HZ2.out]; rfl, HN.out⟩
        · have t2' : (a.l.lv == b.l.lv) = false := by simp [t2]
          rw [t1', t2'] at HZ
          have HZ2 : Hid (z = false) := by rw [← HZ.out]; rfl
          clear t1 t2
          go_wp2
          go_ret
          exact ⟨by rw [HZ2.out]; rfl, HN.out⟩
      · have t1' : (a.l.tx == b.l.tx) = false := by simp [t1]
        rw [t1'] at HZ
        have HZ2 : Hid (z = false) := by rw [← HZ.out]; rfl
        clear t1
        go_wp2
        go_ret
        exact ⟨by rw [HZ2.out]; rfl, HN.out⟩

end Go.Proofs.YtcgiicmmfleinaaGreatDoor

namespace Go.Proofs.YtcgiicmmfleinaaGreatDoor
open Go.RowKit NumMath Go.ChangeShapes Go.WideShapes Go.Deep
set_option linter.unusedVariables false
set_option maxRecDepth 100000

/-- the five cells of a lock that lies at o of block g -/
structure At5 (w : World) (g o : Nat) (m : ML) : Prop where
  c0 : w.cell? ⟨g, o, none⟩ = some (.int .u64 m.l.tx)
  c1 : w.cell? ⟨g, o + 1, none⟩ = some (.int .i64 m.l.lv)
  c2 : w.cell? ⟨g, o + 2, none⟩ = some (.int .i64 m.l.md)
  c3 : w.cell? ⟨g, o + 3, none⟩ = some (.slice m.la m.ln m.lc)
  c4 : w.cell? ⟨g, o + 4, none⟩ = some (.slice m.ha m.hn m.hc)

theorem at5_of {w : World} {g o : Nat} {m : ML} (h : w.rangeAt g o #[.int .u64 m.l.tx, .int .i64 m.l.lv, .int .i64 m.l.md, .slice m.la m.ln m.lc, .slice m.ha m.hn m.hc].toList) : At5 w g o m := ⟨h 0 _ rfl, h 1 _ rfl, h 2 _ rfl, h 3 _ rfl, h 4 _ rfl⟩

theorem At5.same {w w' : World} {g o : Nat} {m : ML} (h : At5 w g o m) (e : w'.heap[g]? = w.heap[g]?) : At5 w' g o m :=
  ⟨(World.cell?_of_block (a := ⟨g, o, none⟩) e).trans h.c0, (World.cell?_of_block (a := ⟨g, o + 1, none⟩) e).trans h.c1, (World.cell?_of_block (a := ⟨g, o + 2, none⟩) e).trans h.c2, (World.cell?_of_block (a := ⟨g, o + 3, none⟩) e).trans h.c3, (World.cell?_of_block (a := ⟨g, o + 4, none⟩) e).trans h.c4⟩

theorem at5_new (w : World) (m : ML) : At5 (w.alloc (.cells #[.int .u64 m.l.tx, .int .i64 m.l.lv, .int .i64 m.l.md, .slice m.la m.ln m.lc, .slice m.ha m.hn m.hc] 41)) w.heap.size 0 m := at5_of (rangeY_new w w.heap.size #[.int .u64 m.l.tx, .int .i64 m.l.lv, .int .i64 m.l.md, .slice m.la m.ln m.lc, .slice m.ha m.hn m.hc] 41 rfl)

theorem At5.zero {w : World} {g : Nat} {m : ML} (h : At5 w g 0 m) : w.cell? ⟨g, 0, none⟩ = some (.int .u64 m.l.tx) ∧ w.cell? ⟨g, 1, none⟩ = some (.int .i64 m.l.lv) ∧ w.cell? ⟨g, 2, none⟩ = some (.int .i64 m.l.md) ∧ w.cell? ⟨g, 3, none⟩ = some (.slice m.la m.ln m.lc) ∧ w.cell? ⟨g, 4, none⟩ = some (.slice m.ha m.hn m.hc) :=
  ⟨h.c0, by simpa using h.c1, by simpa using h.c2, by simpa using h.c3, by simpa using h.c4⟩

theorem filter_more {α : Type} (p : α → Bool) {l : List α} {k : Nat} {x : α} (h : l[k]? = some x) : (l.take (k + 1)).filter p = (l.take k).filter p ++ (if p x = true then [x] else []) := by
  rw [List.take_add_one, h, List.filter_append]
  cases hp : p x <;> simp [hp]

theorem ml_at {hs : List ML} {k : Nat} (h : k < hs.length) : ∃ m, hs[k]? = some m := ⟨_, List.getElem?_eq_getElem h⟩

set_option maxHeartbeats 4000000 in
theorem against_any (a : Option Addr) (n c : Nat) (hs : List ML) (x : ML) (w : World) (h : IsY layK w a n c hs) (ho : ∀ m ∈ hs, m.ok w) (hx : x.ok w) (hn : n ≤ 100000) :
    Calls Tryz.prog 157 #[.slice a n c, .agg #[.int .u64 x.l.tx, .int .i64 x.l.lv, .int .i64 x.l.md, .slice x.la x.ln x.lc, .slice x.ha x.hn x.hc]] w fun e w' => ∃ v, e = .returned v ∧ OwnY layK w' w.heap.size v (hs.filter (fun m => standsL x.l m.l)) ∧ Below w.heap.size w w' := by
  have H := hide h
  have HL := hide h.1
  have HO := hide ho
  have HX := hide hx
  have hm : (c : Int) ≤ 9223372036854775807 := by have := h.2.2.1; unfold maxLen at this; omega
  have hnc := h.2.1
  have HX0 := hide (at5_new w x)
  clear h ho hx
  go_enter Tryz.func157, Tryz.ntmps157
  go_wp2
  obtain ⟨w1, hw1⟩ : ∃ w1, w1 = w.alloc (.cells #[.int .u64 x.l.tx, .int .i64 x.l.lv, .int .i64 x.l.md, .slice x.la x.ln x.lc, .slice x.ha x.hn x.hc] 41) := ⟨_, rfl⟩
  rw [← hw1]
  have hb1 : Below w.heap.size w w1 := by rw [hw1]; exact new_below _ _
  have hs1 : w1.heap.size = w.heap.size + 1 := by rw [hw1]; simp
  have HX1 : Hid (At5 w1 w.heap.size 0 x) := by rw [hw1]; exact HX0.out
  have HB1 := hide hb1
  clear HX0 hw1 hb1
  go_loopg [5, 10] n (fun gk v i wr => ∃ k : Nat, gk = n - k ∧ i = .int .i64 k ∧ k ≤ n ∧ OwnY layK wr w1.heap.size v ((hs.take k).filter (fun m => standsL x.l m.l)) ∧ Below w1.heap.size w1 wr)
  case atStart => exact ⟨0, rfl, rfl, Nat.zero_le _, ownY_nil _ _, Below.refl _ _⟩
  case round =>
    obtain ⟨k, rfl, rfl, hk, hO, hB⟩ := hrel
    obtain ⟨va, vn, vc, rfl⟩ := hO.any3
    have hvl := hO.len.1
    have HOw := hide hO
    have HB := hide hB
    clear hO
    by_cases hlt : k < n
    · have hlt' : (k : Int) < (n : Int) := by omega
      obtain ⟨m, hmk⟩ := ml_at (hs := hs) (k := k) (by have := HL.out; omega)
      obtain ⟨g, off, rfl, hg, hC⟩ := H.out.at hlt
      have hbw := HB1.out.trans (hB.mono (by omega))
      have d := at5_of (rangeY_same (hC k m hmk) (hbw.block g hg))
      obtain ⟨d0, d1, d2, d3, d4⟩ := d
      have d0 : wr.cell? ⟨g, off + k * 5, none⟩ = some (.int .u64 m.l.tx) := d0
      have d1 : wr.cell? ⟨g, off + k * 5 + 1, none⟩ = some (.int .i64 m.l.lv) := d1
      have d2 : wr.cell? ⟨g, off + k * 5 + 2, none⟩ = some (.int .i64 m.l.md) := d2
      have d3 : wr.cell? ⟨g, off + k * 5 + 3, none⟩ = some (.slice m.la m.ln m.lc) := d3
      have d4 : wr.cell? ⟨g, off + k * 5 + 4, none⟩ = some (.slice m.ha m.hn m.hc) := d4
      have hbN := new_below wr (.cells #[.int .u64 m.l.tx, .int .i64 m.l.lv, .int .i64 m.l.md, .slice m.la m.ln m.lc, .slice m.ha m.hn m.hc] 41)
      have hsw := hB.size
      have HMok := hide ((HO.out m (List.mem_of_getElem? hmk)).keep (hbw.trans (hbN.mono (by omega))))
      have HXok := hide (HX.out.keep (hbw.trans (hbN.mono (by omega))))
      have HBx : Hid (∀ V, Below (wr.heap.size + 1) (wr.alloc (.cells #[.int .u64 m.l.tx, .int .i64 m.l.lv, .int .i64 m.l.md, .slice m.la m.ln m.lc, .slice m.ha m.hn m.hc] 41)) V → At5 V wr.heap.size 0 m ∧ At5 V w.heap.size 0 x) := fun V hV => ⟨(at5_new wr m).same (hV.block _ (by omega)), HX1.out.same ((hV.block _ (by omega)).trans ((hbN.block _ (by omega)).trans (hB.block _ (by omega))))⟩
      obtain ⟨x0, x1, x2, x3, x4⟩ := (HBx.out _ (Below.refl _ _)).2.zero
      have HFm := hide (filter_more (fun m => standsL x.l m.l) hmk)
      have HBN := hide hbN
      clear hC hmk hB hbw hbN
      have HAp := hide (apart_any m x _ HMok.out HXok.out)
      cases hap : apartL m.l x.l with
      | true =>
        rw [hap] at HAp
        have HF2 : Hid ((hs.take (k + 1)).filter (fun m => standsL x.l m.l) = (hs.take k).filter (fun m => standsL x.l m.l)) := by
          show _ = _
          rw [HFm.out]
          have : standsL x.l m.l = false := by unfold standsL; rw [hap]; rfl
          simp [this]
        clear hap
        go_wp2_with (first
          | (go_at_call 179; go_must (refine HAp.out.mono ?_); rintro e w2 ⟨rfl, hb2⟩; have HB2 := hide hb2; clear hb2))
        go_roundg (n - (k + 1))
        case measure => omega
        case rel =>
          have hbb := HBN.out.trans (HB2.out.mono (by simp))
          exact ⟨k + 1, rfl, by go_num, by omega, by rw [HF2.out]; exact HOw.out.keep hbb, HB.out.trans (hbb.mono hsw)⟩
      | false =>
        rw [hap] at HAp
        obtain ⟨zf, hzf⟩ : ∃ z, fitsL m.l.md x.l.md = z := ⟨_, rfl⟩
        have HFt := fun W => hide (fits_any m.l.md x.l.md W)
        rw [hzf] at HFt
        have HSt : Hid (standsL x.l m.l = !zf) := by show _ = _; unfold standsL; rw [hap, hzf]; rfl
        clear hap hzf
        cases zf with
        | true =>
          have HF2 : Hid ((hs.take (k + 1)).filter (fun m => standsL x.l m.l) = (hs.take k).filter (fun m => standsL x.l m.l)) := by
            show _ = _
            rw [HFm.out, HSt.out]; simp
          go_wp2_with (first
            | (go_at_call 180; go_must (refine (HFt _).out.mono ?_); rintro e w3 ⟨rfl, hw⟩; have hw := hw.symm; subst hw)
            | (go_at_call 179; go_must (refine HAp.out.mono ?_); rintro e w2 ⟨rfl, hb2⟩; have HB2 := hide hb2; obtain ⟨y0, y1, y2, y3, y4⟩ := (HBx.out w2 (hb2.mono (by simp))).1.zero; obtain ⟨z0, z1, z2, z3, z4⟩ := (HBx.out w2 (hb2.mono (by simp))).2.zero; clear hb2))
          go_roundg (n - (k + 1))
          case measure => omega
          case rel =>
            have hbb := HBN.out.trans (HB2.out.mono (by simp))
            exact ⟨k + 1, rfl, by go_num, by omega, by rw [HF2.out]; exact HOw.out.keep hbb, HB.out.trans (hbb.mono hsw)⟩
        | false =>
          have HF2 : Hid ((hs.take (k + 1)).filter (fun m => standsL x.l m.l) = (hs.take k).filter (fun m => standsL x.l m.l) ++ [m]) := by
            show _ = _
            rw [HFm.out, HSt.out]; simp
          have HBig : Hid (((hs.take k).filter (fun m => standsL x.l m.l)).length + [m].length ≤ 1000000000) := by
            show _ ≤ _
            have := List.length_filter_le (fun m : ML => standsL x.l m.l) (hs.take k)
            rw [List.length_take] at this
            simp only [List.length_singleton]; omega
          go_wp2_with (first
            | (at_builtin; go_must (refine wp_joinY layK _ rfl (.tmp 26) (.tmp 28) rfl w1.heap.size _ ((hs.take k).filter (fun m => standsL x.l m.l)) rfl HO4.out (some ⟨w2.heap.size, 0, none⟩) 1 1 [m] rfl HS4.out HBig.out (by simp; omega) ?_); intro v5 w5 hown5 hg5 hat5; have HO5 := hide hown5; have HB5 := hide (HO4.out.grown hg5 (by simp; omega)); obtain ⟨xa, xn, xc, rfl⟩ := hown5.any3; clear hown5 hg5 hat5)
            | (go_at_call 180; go_must (refine (HFt _).out.mono ?_); rintro e w3 ⟨rfl, hw⟩; have hw := hw.symm; subst hw)
            | (go_at_call 179; go_must (refine HAp.out.mono ?_); rintro e w2 ⟨rfl, hb2⟩; have HB2 := hide hb2; obtain ⟨y0, y1, y2, y3, y4⟩ := (HBx.out w2 (hb2.mono (by simp))).1.zero; obtain ⟨z0, z1, z2, z3, z4⟩ := (HBx.out w2 (hb2.mono (by simp))).2.zero; have hs2 := hb2.size; simp only [World.size_alloc] at hs2; have HO4 := hide ((HOw.out.keep (HBN.out.trans (hb2.mono (by simp)))).keep (new_below w2 (.cells #[.int .u64 m.l.tx, .int .i64 m.l.lv, .int .i64 m.l.md, .slice m.la m.ln m.lc, .slice m.ha m.hn m.hc] 41))); have HS4 := hide (ownY_one (L := layK) w2 0 #[.int .u64 m.l.tx, .int .i64 m.l.lv, .int .i64 m.l.md, .slice m.la m.ln m.lc, .slice m.ha m.hn m.hc] m (Nat.zero_le _) rfl).is.src; clear hb2))
          go_roundg (n - (k + 1))
          case measure => omega
          case rel =>
            have hbb := (HBN.out.trans (HB2.out.mono (by simp))).trans ((new_below w2 (.cells #[.int .u64 m.l.tx, .int .i64 m.l.lv, .int .i64 m.l.md, .slice m.la m.ln m.lc, .slice m.ha m.hn m.hc] 41)).mono (by omega))
            exact ⟨k + 1, rfl, by go_num, by omega, by rw [HF2.out]; exact HO5.out, (HB.out.trans (hbb.mono hsw)).trans HB5.out⟩
    · obtain rfl : k = n := by omega
      have ek : hs.take k = hs := List.take_of_length_le (by have := HL.out; omega)
      rw [ek] at HOw
      clear hB
      go_wp2
      go_ret
      exact ⟨_, rfl, HOw.out.mono (by omega), HB1.out.trans (HB.out.mono (by omega))⟩

end Go.Proofs.YtcgiicmmfleinaaGreatDoor
