/- Locks as plain values: modes, keys in common, what stands in the way, a table that is asked and freed; what holds of it all along. What LockHolds and LockComes ask of a table, as plain values. Locks in memory; the reference's Fits, below, meets, Apart, Covers, same: what they answer. The reference's Apart, Covers, same: what they answer. The reference's Covers: what it answers. The reference's against and way: what they answer. -/
import Derived.Test.YtcgiicmmfleinaaGreatDoorWtL
import Derived.Test.YtcgiicmmfleinaaGreatDoorByC
import Derived.Test.YtcgiicmmfleinaaGreatDoorGnA
import Derived.BigQuiet
import Derived.Deep.DeepCutAuto
import Derived.Deep.CutBlock
import Derived.Deep.LoopGhost
namespace Go.Proofs.YtcgiicmmfleinaaGreatDoor
set_option linter.unusedVariables false

structure Lck where
  tx : Int
  lv : Int
  md : Int
  lo : List Int
  hi : List Int
deriving DecidableEq

def lck0 : Lck := ⟨0, 0, 0, [], []⟩

def fits2 (a b : Int) : Bool := if a < 1 ∨ 4 < b then false else if a = 1 then b != 4 else if a = 2 then b == 2 else (a == 3 && b == 3)

def fitsL (a b : Int) : Bool := if b < a then fits2 b a else fits2 a b

theorem fitsL_symm (a b : Int) : fitsL a b = fitsL b a := by
  unfold fitsL
  by_cases h : b < a
  · rw [if_pos h, if_neg (by omega)]
  · rw [if_neg h]
    by_cases h2 : a < b
    · rw [if_pos h2]
    · rw [if_neg h2]
      have : a = b := by omega
      rw [this]

/-- whether a bound is at or below a key -/
def belowL (hi key : List Int) : Bool := !hi.isEmpty && !lessL key hi

def meetsL (a b : Lck) : Bool := a.lv == b.lv && !belowL a.hi b.lo && !belowL b.hi a.lo

def apartL (a b : Lck) : Bool := a.tx == b.tx || !meetsL a b

def coversL (a b : Lck) : Bool := a.tx == b.tx && a.lv == b.lv && !lessL b.lo a.lo && (a.hi.isEmpty || (!b.hi.isEmpty && !lessL a.hi b.hi)) && (a.md == b.md || a.md == 4 || (b.md == 1 && (a.md == 3 || a.md == 2)))

theorem beq_symmI (a b : Int) : (a == b) = (b == a) := by
  by_cases h : a = b
  · rw [h]
  · rw [beq_eq_false_iff_ne.2 h, beq_eq_false_iff_ne.2 (Ne.symm h)]

theorem meetsL_symm (a b : Lck) : meetsL a b = meetsL b a := by
  unfold meetsL
  rw [beq_symmI a.lv b.lv]
  cases b.lv == a.lv <;> cases belowL a.hi b.lo <;> cases belowL b.hi a.lo <;> rfl

theorem apartL_symm (a b : Lck) : apartL a b = apartL b a := by
  unfold apartL
  rw [beq_symmI a.tx b.tx, meetsL_symm]

theorem coversL_tx {a b : Lck} (h : coversL a b = true) : a.tx = b.tx := by
  unfold coversL at h
  simp only [Bool.and_eq_true] at h
  simpa using h.1.1.1.1

/-- whether h stands in the way of x -/
def standsL (x h : Lck) : Bool := !apartL h x && !fitsL h.md x.md

def againstL (l : List Lck) (x : Lck) : List Lck := l.filter (standsL x)

def holdsL (held : List Lck) (x : Lck) : Bool := held.any (fun h => h.tx == x.tx && meetsL h x)

def wayL (held ahead : List Lck) (x : Lck) : List Lck := againstL held x ++ (if holdsL held x = true then [] else againstL ahead x)

def rawE (held : List Lck) : List Lck → List Lck → List (Int × Int)
  | _, [] => []
  | ahead, x :: r => (wayL held ahead x).map (fun h => (x.tx, h.tx)) ++ rawE held (ahead ++ [x]) r

def edgesL (held wait : List Lck) : List (Int × Int) := ddL (rawE held [] wait)

theorem rawE_snoc (held : List Lck) (x : Lck) : ∀ (r a : List Lck), rawE held a (r ++ [x]) = rawE held a r ++ (wayL held (a ++ r) x).map (fun h => (x.tx, h.tx)) := by
  intro r
  induction r with
  | nil => intro a; simp [rawE]
  | cons y r ih => intro a; rw [List.cons_append, rawE, rawE, ih, List.append_assoc, List.append_assoc]; simp

theorem mem_rawE (held : List Lck) (e : Int × Int) : ∀ (wait a : List Lck), e ∈ rawE held a wait ↔ ∃ b x c h, wait = b ++ x :: c ∧ h ∈ wayL held (a ++ b) x ∧ e = (x.tx, h.tx) := by
  intro wait
  induction wait with
  | nil => intro a; simp [rawE]
  | cons y r ih =>
    intro a
    rw [rawE, List.mem_append, ih]
    constructor
    · rintro (h | ⟨b, x, c, h, h1, h2, h3⟩)
      · obtain ⟨h, h1, h2⟩ := List.mem_map.1 h
        exact ⟨[], y, r, h, rfl, by simpa using h1, h2.symm⟩
      · exact ⟨y :: b, x, c, h, by rw [h1]; rfl, by simpa using h2, h3⟩
    · rintro ⟨b, x, c, h, h1, h2, h3⟩
      cases b with
      | nil =>
        cases h1
        exact .inl (List.mem_map.2 ⟨h, by simpa using h2, h3.symm⟩)
      | cons z b =>
        cases h1
        exact .inr ⟨b, x, c, h, rfl, by simpa using h2, h3⟩

theorem mem_edgesL {held wait : List Lck} {e : Int × Int} : e ∈ edgesL held wait ↔ ∃ b x c h, wait = b ++ x :: c ∧ h ∈ wayL held b x ∧ e = (x.tx, h.tx) := by
  unfold edgesL
  rw [mem_ddL, mem_rawE]
  simp

/-- a transaction waits for nothing but one lock -/
def leaveL (wait : List Lck) (tx : Int) (but : Lck) : List Lck := wait.filter (fun w => w.tx != tx || w == but)

structure Tab where
  held : List Lck
  wait : List Lck

def badL (x : Lck) : Bool := x.tx == 0 || (x.lv != 0 && x.lv != 1) || decide (x.md < 1) || decide (4 < x.md) || belowL x.hi x.lo

def queuedL (wt : List Lck) (x : Lck) : List Lck := if x ∈ wt then wt else wt ++ [x]

/-- what stands ahead of x among those that wait: all, if it is not there -/
def aheadL (wt : List Lck) (x : Lck) : List Lck := wt.takeWhile (fun w => w != x)

def askL (t : Tab) (x : Lck) : Tab × Bool × Int :=
  if badL x = true then (t, false, 1)
  else if t.held.any (fun h => coversL h x) = true then (t, true, 0)
  else
    let wt := leaveL t.wait x.tx x
    if wayL t.held (aheadL wt x) x = [] then
      let w2 := leaveL wt x.tx lck0
      if 400 ≤ t.held.length then (⟨t.held, w2⟩, false, 132) else (⟨t.held ++ [x], w2⟩, true, 0)
    else
      let w3 := queuedL wt x
      if cycleW (edgesL t.held w3) x.tx = [] then (⟨t.held, w3⟩, false, 0) else (⟨t.held, leaveL w3 x.tx lck0⟩, false, 131)

def freeL (t : Tab) (tx : Int) : Tab × Nat := (⟨t.held.filter (fun h => h.tx != tx), leaveL t.wait tx lck0⟩, t.held.length - (t.held.filter (fun h => h.tx != tx)).length)

/-- what holds of a table all along -/
structure TabI (t : Tab) : Prop where
  ok : ∀ w ∈ t.wait, badL w = false
  one : (t.wait.map Lck.tx).Nodup
  tog : t.held.Pairwise (fun k i => apartL i k = true ∨ fitsL i.md k.md = true)
  ring : NoRing (edgesL t.held t.wait)
  cov : ∀ w ∈ t.wait, ∀ h ∈ t.held, coversL h w = false

theorem bad_tx {x : Lck} (h : badL x = false) : x.tx ≠ 0 := by
  intro e
  unfold badL at h
  rw [e] at h
  simp at h

theorem mem_leave {wait : List Lck} {tx : Int} {but w : Lck} : w ∈ leaveL wait tx but ↔ w ∈ wait ∧ (w.tx ≠ tx ∨ w = but) := by
  unfold leaveL
  rw [List.mem_filter, Bool.or_eq_true]
  simp

theorem mem_against {l : List Lck} {x h : Lck} : h ∈ againstL l x ↔ h ∈ l ∧ standsL x h = true := List.mem_filter

theorem mem_way {held ahead : List Lck} {x h : Lck} : h ∈ wayL held ahead x ↔ h ∈ againstL held x ∨ (holdsL held x = false ∧ h ∈ againstL ahead x) := by
  unfold wayL
  rw [List.mem_append]
  cases holdsL held x <;> simp

/-- fewer that wait, in the same order: fewer edges -/
theorem edges_sub {held wait : List Lck} (p : Lck → Bool) : ∀ e ∈ edgesL held (wait.filter p), e ∈ edgesL held wait := by
  intro e he
  obtain ⟨b, x, c, h, h1, h2, h3⟩ := mem_edgesL.1 he
  obtain ⟨l1, l2, h4, h5, h6⟩ := List.filter_eq_append_iff.1 h1
  obtain ⟨m1, m2, h7, h8, h9, h10⟩ := List.filter_eq_cons_iff.1 h6
  refine mem_edgesL.2 ⟨l1 ++ m1, x, m2, h, by rw [h4, h7, List.append_assoc], ?_, h3⟩
  rcases mem_way.1 h2 with h11 | ⟨h11, h12⟩
  · exact mem_way.2 (.inl h11)
  · refine mem_way.2 (.inr ⟨h11, mem_against.2 ⟨?_, (mem_against.1 h12).2⟩⟩)
    have := (mem_against.1 h12).1
    rw [← h5] at this
    exact List.mem_append_left _ ((List.mem_filter.1 this).1)

theorem leave_txs {wait : List Lck} {tx : Int} {but : Lck} (h : (wait.map Lck.tx).Nodup) : ((leaveL wait tx but).map Lck.tx).Nodup := by
  unfold leaveL
  exact h.sublist (List.filter_sublist.map _)

/-- nobody of tx waits any more -/
theorem leave_all {wait : List Lck} {tx : Int} (hok : ∀ w ∈ wait, badL w = false) {w : Lck} (h : w ∈ leaveL wait tx lck0) : w ∈ wait ∧ w.tx ≠ tx := by
  obtain ⟨h1, h2⟩ := mem_leave.1 h
  refine ⟨h1, ?_⟩
  rcases h2 with h2 | h2
  · exact h2
  · subst h2
    have := bad_tx (hok _ h1)
    exact absurd rfl this

theorem TabI.free {t : Tab} (h : TabI t) (tx : Int) : TabI (freeL t tx).1 := by
  refine ⟨fun w hw => h.ok w (leave_all h.ok hw).1, leave_txs h.one, h.tog.filter _, ?_, fun w hw k hk => h.cov w (leave_all h.ok hw).1 k ((List.mem_filter.1 hk).1)⟩
  refine h.ring.sub (fun e he => ?_)
  obtain ⟨b, x, c, k, h1, h2, h3⟩ := mem_edgesL.1 he
  have hx : x ∈ leaveL t.wait tx lck0 := by
    have : x ∈ (freeL t tx).1.wait := by rw [h1]; simp
    exact this
  have hxt := (leave_all h.ok hx).2
  have hho : holdsL (t.held.filter (fun h => h.tx != tx)) x = holdsL t.held x := by
    unfold holdsL
    rw [List.any_filter]
    congr 1
    funext k
    by_cases e : k.tx = x.tx
    · have : k.tx ≠ tx := by rw [e]; exact hxt
      simp [this]
    · simp [e]
  have h4 : e ∈ edgesL t.held (leaveL t.wait tx lck0) := by
    refine mem_edgesL.2 ⟨b, x, c, k, h1, ?_, h3⟩
    rcases mem_way.1 h2 with h5 | ⟨h5, h6⟩
    · exact mem_way.2 (.inl (mem_against.2 ⟨(List.mem_filter.1 (mem_against.1 h5).1).1, (mem_against.1 h5).2⟩))
    · exact mem_way.2 (.inr ⟨by rw [← hho]; exact h5, h6⟩)
  exact edges_sub _ e h4

theorem tx_unique {wait : List Lck} (h : (wait.map Lck.tx).Nodup) {a b : Lck} (ha : a ∈ wait) (hb : b ∈ wait) (e : a.tx = b.tx) : a = b := by
  induction wait with
  | nil => cases ha
  | cons y r ih =>
    rw [List.map_cons, List.nodup_cons] at h
    rcases List.mem_cons.1 ha with ha1 | ha1 <;> rcases List.mem_cons.1 hb with hb1 | hb1
    · rw [ha1, hb1]
    · exact absurd (List.mem_map.2 ⟨b, hb1, by rw [← e, ha1]⟩) h.1
    · exact absurd (List.mem_map.2 ⟨a, ha1, by rw [e, hb1]⟩) h.1
    · exact ih h.2 ha1 hb1

theorem TabI.ask {t : Tab} (h : TabI t) (x : Lck) : TabI (askL t x).1 := by
  unfold askL
  by_cases hb : badL x = true
  · rw [if_pos hb]; exact h
  rw [if_neg hb]
  have hb' : badL x = false := by simpa using hb
  by_cases hc : t.held.any (fun h => coversL h x) = true
  · rw [if_pos hc]; exact h
  rw [if_neg hc]
  have hcov : ∀ k ∈ t.held, coversL k x = false := fun k hk => by
    cases e : coversL k x
    · rfl
    · exact absurd (List.any_eq_true.2 ⟨k, hk, e⟩) hc
  have hokw : ∀ w ∈ leaveL t.wait x.tx x, badL w = false := fun w hw => h.ok w (mem_leave.1 hw).1
  dsimp only
  by_cases hw : wayL t.held (aheadL (leaveL t.wait x.tx x) x) x = []
  · rw [if_pos hw]
    have hst : ∀ k ∈ t.held, standsL x k = false := fun k hk => by
      cases e : standsL x k
      · rfl
      · have : k ∈ wayL t.held (aheadL (leaveL t.wait x.tx x) x) x := mem_way.2 (.inl (mem_against.2 ⟨hk, e⟩))
        rw [hw] at this
        cases this
    have hbase : TabI ⟨t.held, leaveL (leaveL t.wait x.tx x) x.tx lck0⟩ := by
      refine ⟨fun w hw => hokw w (leave_all hokw hw).1, leave_txs (leave_txs h.one), h.tog, ?_, fun w hw k hk => h.cov w (mem_leave.1 (leave_all hokw hw).1).1 k hk⟩
      exact (h.ring.sub (edges_sub _)).sub (edges_sub _)
    by_cases h4 : 400 ≤ t.held.length
    · rw [if_pos h4]; exact hbase
    · rw [if_neg h4]
      refine ⟨hbase.ok, hbase.one, ?_, ?_, fun w hw k hk => ?_⟩
      · rw [List.pairwise_append]
        refine ⟨h.tog, List.pairwise_singleton _ _, fun k hk i hi => ?_⟩
        rw [List.mem_singleton.1 hi, apartL_symm, fitsL_symm]
        have := hst k hk
        unfold standsL at this
        cases e1 : apartL k x
        · cases e2 : fitsL k.md x.md
          · rw [e1, e2] at this; cases this
          · exact .inr rfl
        · exact .inl rfl
      · refine hbase.ring.into x.tx (fun e he hne => ?_) (fun e he => ?_)
        · obtain ⟨b, y, c, k, h1, h2, h3⟩ := mem_edgesL.1 he
          have hy : y ∈ leaveL (leaveL t.wait x.tx x) x.tx lck0 := by rw [show leaveL (leaveL t.wait x.tx x) x.tx lck0 = b ++ y :: c from h1]; simp
          have hyt := (leave_all hokw hy).2
          have hho : holdsL (t.held ++ [x]) y = holdsL t.held y := by
            unfold holdsL
            rw [List.any_append]
            have : ¬ x.tx = y.tx := fun e => hyt e.symm
            simp [this]
          refine mem_edgesL.2 ⟨b, y, c, k, h1, ?_, h3⟩
          rcases mem_way.1 h2 with h5 | ⟨h5, h6⟩
          · rcases List.mem_append.1 (mem_against.1 h5).1 with h7 | h7
            · exact mem_way.2 (.inl (mem_against.2 ⟨h7, (mem_against.1 h5).2⟩))
            · rw [List.mem_singleton.1 h7] at h3
              rw [h3] at hne
              exact absurd rfl hne
          · exact mem_way.2 (.inr ⟨by rw [← hho]; exact h5, h6⟩)
        · obtain ⟨b, y, c, k, h1, h2, h3⟩ := mem_edgesL.1 he
          have hy : y ∈ leaveL (leaveL t.wait x.tx x) x.tx lck0 := by rw [show leaveL (leaveL t.wait x.tx x) x.tx lck0 = b ++ y :: c from h1]; simp
          rw [h3]
          exact (leave_all hokw hy).2
      · rcases List.mem_append.1 hk with hk | hk
        · exact hbase.cov w hw k hk
        · rw [List.mem_singleton.1 hk]
          cases e : coversL x w
          · rfl
          · exact absurd (coversL_tx e).symm (leave_all hokw hw).2
  · rw [if_neg hw]
    have hok3 : ∀ w ∈ queuedL (leaveL t.wait x.tx x) x, badL w = false := fun w hw => by
      unfold queuedL at hw
      split at hw
      · exact hokw w hw
      · rcases List.mem_append.1 hw with hw | hw
        · exact hokw w hw
        · rw [List.mem_singleton.1 hw]; exact hb'
    have hone : ((queuedL (leaveL t.wait x.tx x) x).map Lck.tx).Nodup := by
      unfold queuedL
      split
      · exact leave_txs h.one
      · rename_i hx
        rw [List.map_append, List.nodup_append]
        refine ⟨leave_txs h.one, by simp, fun a ha b hb => ?_⟩
        simp at hb
        subst hb
        obtain ⟨w, hw, rfl⟩ := List.mem_map.1 ha
        intro e
        rcases (mem_leave.1 hw).2 with h2 | h2
        · exact h2 e
        · exact hx (h2 ▸ hw)
    have hcov3 : ∀ w ∈ queuedL (leaveL t.wait x.tx x) x, ∀ k ∈ t.held, coversL k w = false := fun w hw k hk => by
      unfold queuedL at hw
      split at hw
      · exact h.cov w (mem_leave.1 hw).1 k hk
      · rcases List.mem_append.1 hw with hw | hw
        · exact h.cov w (mem_leave.1 hw).1 k hk
        · rw [List.mem_singleton.1 hw]; exact hcov k hk
    have hedge : ∀ e ∈ edgesL t.held (queuedL (leaveL t.wait x.tx x) x), e.1 ≠ x.tx → e ∈ edgesL t.held t.wait := fun e he hne => by
      have h1 : e ∈ edgesL t.held (leaveL t.wait x.tx x) := by
        unfold queuedL at he
        split at he
        · exact he
        · unfold edgesL at he ⊢
          rw [mem_ddL, rawE_snoc, List.mem_append] at he
          rw [mem_ddL]
          rcases he with he | he
          · exact he
          · obtain ⟨k, _, h2⟩ := List.mem_map.1 he
            rw [← h2] at hne
            exact absurd rfl hne
      exact edges_sub _ e h1
    by_cases hcy : cycleW (edgesL t.held (queuedL (leaveL t.wait x.tx x) x)) x.tx = []
    · rw [if_pos hcy]
      exact ⟨hok3, hone, h.tog, h.ring.from x.tx hedge ((cycle_none_iff _ _).1 hcy), hcov3⟩
    · rw [if_neg hcy]
      refine ⟨fun w hw => hok3 w (leave_all hok3 hw).1, leave_txs hone, h.tog, ?_, fun w hw k hk => hcov3 w (leave_all hok3 hw).1 k hk⟩
      refine h.ring.sub (fun e he => ?_)
      refine hedge e (edges_sub _ e he) ?_
      obtain ⟨b, y, c, k, h1, h2, h3⟩ := mem_edgesL.1 he
      have hy : y ∈ leaveL (queuedL (leaveL t.wait x.tx x) x) x.tx lck0 := by rw [show leaveL (queuedL (leaveL t.wait x.tx x) x) x.tx lck0 = b ++ y :: c from h1]; simp
      rw [h3]
      exact (leave_all hok3 hy).2

theorem noring_nil : NoRing [] := fun x hx => by
  cases hx with
  | one e => cases e
  | more e _ => cases e

theorem tabI_new : TabI ⟨[], []⟩ := ⟨by simp, by simp, List.Pairwise.nil, noring_nil, by simp⟩

end Go.Proofs.YtcgiicmmfleinaaGreatDoor

namespace Go.Proofs.YtcgiicmmfleinaaGreatDoor
set_option linter.unusedVariables false

/-- whose locks there are, and how many -/
structure TabD (t : Tab) (D : Int → Prop) (n : Nat) : Prop where
  h : ∀ k ∈ t.held, D k.tx
  w : ∀ k ∈ t.wait, D k.tx
  n : t.held.length ≤ n

theorem TabD.free {t : Tab} {D : Int → Prop} {n : Nat} (h : TabD t D n) (tx : Int) : TabD (freeL t tx).1 D n :=
  ⟨fun k hk => h.h k (List.mem_filter.1 hk).1, fun k hk => h.w k (mem_leave.1 hk).1, Nat.le_trans (List.length_filter_le _ _) h.n⟩

/-- nobody else's of those whose locks were freed -/
theorem TabD.freed {t : Tab} {D : Int → Prop} {n : Nat} (hi : TabI t) (h : TabD t D n) (tx : Int) : TabD (freeL t tx).1 (fun y => D y ∧ y ≠ tx) n :=
  ⟨fun k hk => ⟨h.h k (List.mem_filter.1 hk).1, by simpa using (List.mem_filter.1 hk).2⟩, fun k hk => ⟨h.w k (mem_leave.1 hk).1, (leave_all hi.ok hk).2⟩, Nat.le_trans (List.length_filter_le _ _) h.n⟩

theorem TabD.ask {t : Tab} {D : Int → Prop} {n : Nat} (h : TabD t D n) (x : Lck) (hx : D x.tx) : TabD (askL t x).1 D (n + 1) := by
  have h1 : TabD t D (n + 1) := ⟨h.h, h.w, Nat.le_succ_of_le h.n⟩
  have hq : ∀ k ∈ queuedL (leaveL t.wait x.tx x) x, D k.tx := fun k hk => by
    unfold queuedL at hk
    split at hk
    · exact h.w k (mem_leave.1 hk).1
    · rcases List.mem_append.1 hk with hk | hk
      · exact h.w k (mem_leave.1 hk).1
      · rw [List.mem_singleton.1 hk]; exact hx
  unfold askL
  split
  · exact h1
  · split
    · exact h1
    · dsimp only
      split
      · split
        · exact ⟨h.h, fun k hk => h.w k (mem_leave.1 (mem_leave.1 hk).1).1, h1.n⟩
        · refine ⟨fun k hk => ?_, fun k hk => h.w k (mem_leave.1 (mem_leave.1 hk).1).1, by rw [List.length_append]; simpa using h.n⟩
          rcases List.mem_append.1 hk with hk | hk
          · exact h.h k hk
          · rw [List.mem_singleton.1 hk]; exact hx
      · split
        · exact ⟨h.h, hq, h1.n⟩
        · exact ⟨h.h, fun k hk => hq k (mem_leave.1 hk).1, h1.n⟩

end Go.Proofs.YtcgiicmmfleinaaGreatDoor

namespace Go.Proofs.YtcgiicmmfleinaaGreatDoor
open Go.RowKit NumMath Go.ChangeShapes Go.WideShapes Go.Deep
set_option linter.unusedVariables false
set_option maxRecDepth 100000

/-- a lock, and where its keys lie -/
structure ML where
  l : Lck
  la : Option Addr
  ln : Nat
  lc : Nat
  ha : Option Addr
  hn : Nat
  hc : Nat

def ML.cells (m : ML) : List Value := [.int .u64 m.l.tx, .int .i64 m.l.lv, .int .i64 m.l.md, .slice m.la m.ln m.lc, .slice m.ha m.hn m.hc]

def layK : Lay ML where
  e := 41
  t := 33
  k := 5
  bys := 72
  z := .agg #[.int .u64 0, .int .i64 0, .int .i64 0, .slice none 0 0, .slice none 0 0]
  cells := fun m => [.int .u64 m.l.tx, .int .i64 m.l.lv, .int .i64 m.l.md, .slice m.la m.ln m.lc, .slice m.ha m.hn m.hc]
  len := fun _ => rfl
  one := by intro x u hu; simp at hu; rcases hu with rfl | rfl | rfl | rfl | rfl <;> rfl
  pos := by decide
  few := by decide
  und := Tryz.underlying33
  info := by kernel_rfl
  zs := rfl

/-- its keys lie there -/
structure ML.ok (w : World) (m : ML) : Prop where
  lo : IsBytes w m.la m.ln m.lc m.l.lo
  hi : IsBytes w m.ha m.hn m.hc m.l.hi

theorem ML.ok.keep {w w' : World} {m : ML} (h : m.ok w) (hb : Below w.heap.size w w') : m.ok w' := ⟨h.lo.keep hb, h.hi.keep hb⟩

end Go.Proofs.YtcgiicmmfleinaaGreatDoor

namespace Go.Proofs.YtcgiicmmfleinaaGreatDoor
open Go.RowKit NumMath Go.ChangeShapes Go.WideShapes Go.Deep
set_option linter.unusedVariables false
set_option maxRecDepth 100000

theorem lck_eq (a b : Lck) : decide (a = b) = (a.tx == b.tx && a.lv == b.lv && a.md == b.md && decide (a.lo = b.lo) && decide (a.hi = b.hi)) := by
  cases a with | mk t1 l1 m1 o1 h1 => cases b with | mk t2 l2 m2 o2 h2 =>
  by_cases e1 : t1 = t2 <;> by_cases e2 : l1 = l2 <;> by_cases e3 : m1 = m2 <;> by_cases e4 : o1 = o2 <;> by_cases e5 : h1 = h2 <;> simp [e1, e2, e3, e4, e5]

end Go.Proofs.YtcgiicmmfleinaaGreatDoor

namespace Go.Proofs.YtcgiicmmfleinaaGreatDoor
open Go.RowKit NumMath Go.ChangeShapes Go.WideShapes Go.Deep
set_option linter.unusedVariables false
set_option maxRecDepth 100000

def covHi (a b : Lck) : Bool := a.hi.isEmpty || (!b.hi.isEmpty && !lessL a.hi b.hi)

def covMd (a b : Lck) : Bool := a.md == b.md || a.md == 4 || (b.md == 1 && (a.md == 3 || a.md == 2))

theorem coversL_eq (a b : Lck) : coversL a b = (a.tx == b.tx && a.lv == b.lv && !lessL b.lo a.lo && covHi a b && covMd a b) := rfl

theorem empty_len {xs : List Int} {n : Nat} (h : xs.length = n) : xs.isEmpty = decide (n = 0) := by
  subst h
  cases xs <;> simp

end Go.Proofs.YtcgiicmmfleinaaGreatDoor

namespace Go.Proofs.YtcgiicmmfleinaaGreatDoor
open Go.RowKit NumMath Go.ChangeShapes Go.WideShapes Go.Deep
set_option linter.unusedVariables false
set_option maxRecDepth 100000

/-- the five cells of a lock that lies at o of block g -/
structure At5 (w : World) (g o : Nat) (m : ML) : Prop where
  c0 : w.cell? ⟨g, o, none⟩ = some (.int .u64 m.l.tx)
  c1 : w.cell? ⟨g, o + 1, none⟩ = some (.int .i64 m.l.lv)
  c2 : w.cell? ⟨g, o + 2, none⟩ = some (.int .i64 m.l.md)
  c3 : w.cell? ⟨g, o + 3, none⟩ = some (.slice m.la m.ln m.lc)
  c4 : w.cell? ⟨g, o + 4, none⟩ = some (.slice m.ha m.hn m.hc)

theorem at5_of {w : World} {g o : Nat} {m : ML} (h : w.rangeAt g o #[.int .u64 m.l.tx, .int .i64 m.l.lv, .int .i64 m.l.md, .slice m.la m.ln m.lc, .slice m.ha m.hn m.hc].toList) : At5 w g o m := ⟨h 0 _ rfl, h 1 _ rfl, h 2 _ rfl, h 3 _ rfl, h 4 _ rfl⟩

theorem At5.same {w w' : World} {g o : Nat} {m : ML} (h : At5 w g o m) (e : w'.heap[g]? = w.heap[g]?) : At5 w' g o m :=
  ⟨(World.cell?_of_block (a := ⟨g, o, none⟩) e).trans h.c0, (World.cell?_of_block (a := ⟨g, o + 1, none⟩) e).trans h.c1, (World.cell?_of_block (a := ⟨g, o + 2, none⟩) e).trans h.c2, (World.cell?_of_block (a := ⟨g, o + 3, none⟩) e).trans h.c3, (World.cell?_of_block (a := ⟨g, o + 4, none⟩) e).trans h.c4⟩

theorem at5_new (w : World) (m : ML) : At5 (w.alloc (.cells #[.int .u64 m.l.tx, .int .i64 m.l.lv, .int .i64 m.l.md, .slice m.la m.ln m.lc, .slice m.ha m.hn m.hc] 41)) w.heap.size 0 m := at5_of (rangeY_new w w.heap.size #[.int .u64 m.l.tx, .int .i64 m.l.lv, .int .i64 m.l.md, .slice m.la m.ln m.lc, .slice m.ha m.hn m.hc] 41 rfl)

theorem At5.zero {w : World} {g : Nat} {m : ML} (h : At5 w g 0 m) : w.cell? ⟨g, 0, none⟩ = some (.int .u64 m.l.tx) ∧ w.cell? ⟨g, 1, none⟩ = some (.int .i64 m.l.lv) ∧ w.cell? ⟨g, 2, none⟩ = some (.int .i64 m.l.md) ∧ w.cell? ⟨g, 3, none⟩ = some (.slice m.la m.ln m.lc) ∧ w.cell? ⟨g, 4, none⟩ = some (.slice m.ha m.hn m.hc) :=
  ⟨h.c0, by simpa using h.c1, by simpa using h.c2, by simpa using h.c3, by simpa using h.c4⟩

theorem filter_more {α : Type} (p : α → Bool) {l : List α} {k : Nat} {x : α} (h : l[k]? = some x) : (l.take (k + 1)).filter p = (l.take k).filter p ++ (if p x = true then [x] else []) := by
  rw [List.take_add_one, h, List.filter_append]
  cases hp : p x <;> simp [hp]

theorem ml_at {hs : List ML} {k : Nat} (h : k < hs.length) : ∃ m, hs[k]? = some m := ⟨_, List.getElem?_eq_getElem h⟩

end Go.Proofs.YtcgiicmmfleinaaGreatDoor
