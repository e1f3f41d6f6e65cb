/- The program's store is the reference's with what nothing is left of struck: pure. The laws' own: SmallVersion. What is read behind a Put: pure. -/
import Derived.Test.YtfldiapdfpkdaaaPsO
import Derived.Test.YtfldiapdfpkdaaaMvQ
import Derived.Test.YtfldiapdfpkdaaaMvD
import Derived.Test.YtfldiapdfpkdaaaMvP
namespace Go.Proofs.Ytfldiapdfpkdaaa
open Go.RowKit NumMath
set_option linter.unusedVariables false
set_option maxRecDepth 100000

/-- the cell of a key, made where there is none, changed -/
def upC (g : Cel → Cel) (k : List Int) : List Cel → List Cel
  | [] => [g ⟨k, [], ver0⟩]
  | c :: r => if lessL c.key k = true then c :: upC g k r else if c.key = k then g c :: r else g ⟨k, [], ver0⟩ :: c :: r

theorem plc_cons (c : Cel) (r : List Cel) (k : List Int) : plc (c :: r) k = if lessL c.key k = true then plc r k + 1 else 0 := by
  unfold plc
  rw [List.takeWhile_cons]
  split <;> simp

theorem isAt_cons {c : Cel} {k : List Int} (h : lessL c.key k = true) (r : List Cel) : isAt (c :: r) k = isAt r k := by
  unfold isAt
  rw [plc_cons, if_pos h, List.getElem?_cons_succ]

theorem isAt_here {c : Cel} {k : List Int} (h : ¬ lessL c.key k = true) (r : List Cel) : isAt (c :: r) k = decide (c.key = k) := by
  unfold isAt
  rw [plc_cons, if_neg h]
  rfl

theorem up_eq (g : Cel → Cel) (k : List Int) : ∀ st : List Cel, (insC st k).modify (plc st k) g = upC g k st := by
  intro st
  induction st with
  | nil => rfl
  | cons c r ih =>
    unfold upC
    unfold insC
    unfold insC at ih
    rw [plc_cons]
    by_cases h : lessL c.key k = true
    · rw [if_pos h, if_pos h, isAt_cons h, ← ih]
      cases isAt r k
      · rw [if_neg (by simp), if_neg (by simp), List.take_succ_cons, List.drop_succ_cons, List.cons_append, List.modify_succ_cons]
      · rw [if_pos rfl, if_pos rfl, List.modify_succ_cons]
    · rw [if_neg h, if_neg h, isAt_here h]
      by_cases h2 : c.key = k
      · rw [if_pos h2, if_pos (by simpa using h2)]
        rfl
      · rw [if_neg h2, if_neg (by simpa using h2)]
        rfl

/-- where there is no intent, nothing of one is left -/
def CleanC (st : List Cel) : Prop := ∀ c ∈ st, c.it.tx = 0 → c.it = ver0

theorem up_gt (g : Cel → Cel) (k : List Int) : ∀ l : List Cel, (∀ c ∈ l, lessL c.key k = false ∧ c.key ≠ k) → upC g k l = g ⟨k, [], ver0⟩ :: l
  | [], _ => rfl
  | c :: r, h => by
    have h1 := h c (by simp)
    unfold upC
    rw [if_neg (by rw [h1.1]; simp), if_neg h1.2]

theorem dead_eq {c : Cel} (h : liveC c = false) : c.vs = [] ∧ c.it.tx = 0 := by
  unfold liveC at h
  rw [Bool.or_eq_false_iff] at h
  exact ⟨by have := of_decide_eq_false h.1; simpa using this, by simpa using h.2⟩

theorem live_up (g : Cel → Cel) (k : List Int) (hg : ∀ c, c.key = k → liveC (g c) = true) : ∀ st : List Cel, SortC st → CleanC st → (upC g k st).filter liveC = upC g k (st.filter liveC) := by
  intro st
  induction st with
  | nil =>
    intro _ _
    unfold upC
    rw [List.filter_cons, if_pos (hg _ rfl)]
    rfl
  | cons c r ih =>
    intro hs hc
    have hs2 := List.pairwise_cons.1 hs
    have ih' := ih hs2.2 (fun x hx => hc x (by simp [hx]))
    by_cases h : lessL c.key k = true
    · have e1 : upC g k (c :: r) = c :: upC g k r := by rw [upC, if_pos h]
      rw [e1, List.filter_cons, List.filter_cons]
      split
      · rw [ih', upC, if_pos h]
      · exact ih'
    · have h' : lessL c.key k = false := by simpa using h
      have hgt : ∀ x ∈ r, lessL x.key k = false ∧ x.key ≠ k := fun x hx => by
        have h3 := hs2.1 x hx
        constructor
        · cases h4 : lessL x.key k with
          | false => rfl
          | true => exact absurd (lessL_trans _ _ _ h3 h4) h
        · intro e
          rw [e] at h3
          exact h h3
      have hgf : ∀ x ∈ r.filter liveC, lessL x.key k = false ∧ x.key ≠ k := fun x hx => hgt x (List.mem_filter.1 hx).1
      by_cases h2 : c.key = k
      · have e1 : upC g k (c :: r) = g c :: r := by rw [upC, if_neg h, if_pos h2]
        rw [e1, List.filter_cons, if_pos (hg c h2), List.filter_cons]
        split
        · rw [upC, if_neg h, if_pos h2]
        · rename_i hd
          have hd' := dead_eq (by simpa using hd)
          rw [up_gt g k _ hgf]
          have e2 : c = ⟨k, [], ver0⟩ := by
            have h5 := hc c (by simp) hd'.2
            obtain ⟨ck, cv, ci⟩ := c
            simp only at h2 hd' h5
            rw [h2, hd'.1, h5]
          rw [← e2]
      · have e1 : upC g k (c :: r) = g ⟨k, [], ver0⟩ :: c :: r := by rw [upC, if_neg h, if_neg h2]
        rw [e1, List.filter_cons, if_pos (hg _ rfl), up_gt g k ((c :: r).filter liveC)]
        intro x hx
        rcases List.mem_cons.1 (List.mem_filter.1 hx).1 with rfl | h3
        · exact ⟨h', h2⟩
        · exact hgt x h3

/-- a deed that goes over all cells -/
theorem live_map (f : Cel → Cel) (hf : ∀ c, liveC c = false → liveC (f c) = false) : ∀ st : List Cel, ((st.filter liveC).map f).filter liveC = (st.map f).filter liveC := by
  intro st
  induction st with
  | nil => rfl
  | cons c r ih =>
    rw [List.filter_cons, List.map_cons, List.filter_cons]
    by_cases h : liveC c = true
    · rw [if_pos h, List.map_cons, List.filter_cons, ih]
    · have h' := hf c (by simpa using h)
      rw [if_neg h, if_neg (by rw [h']; simp), ih]

theorem live_put {st : List Cel} (hs : SortC st) (hc : CleanC st) (k : List Int) (v : Ver) : (putC st k v).filter liveC = putC (st.filter liveC) k v := by
  unfold putC
  rw [up_eq, up_eq]
  refine live_up _ k (fun c _ => ?_) st hs hc
  unfold liveC setVs
  rw [putP_eq]
  simp

theorem live_sort {st : List Cel} (hs : SortC st) : SortC (st.filter liveC) := List.Pairwise.filter _ hs

theorem live_intents (st : List Cel) (txn : Int) : intentsC (st.filter liveC) txn = intentsC st txn := by
  unfold intentsC
  rw [List.filter_filter]
  congr 1
  apply List.filter_congr
  intro c _
  cases h : isItC txn c with
  | false => rfl
  | true => rw [it_live h]; rfl

theorem step_all (g : Cel → Cel) (ks : List (List Int)) (st : List Cel) : stepL g ks ks.length st = st.map (fun c => if c.key ∈ ks then g c else c) := by
  unfold stepL
  rw [List.take_length]

theorem it_dead {txn : Int} {c : Cel} (h : liveC c = false) : isItC txn c = false := by
  cases h2 : isItC txn c with
  | false => rfl
  | true => rw [it_live h2] at h; cases h

/-- Drop, of both -/
theorem live_drop {st : List Cel} (hs : SortC st) (txn : Int) : (stepL (setIt ver0) (intentsC (st.filter liveC) txn) (intentsC (st.filter liveC) txn).length (st.filter liveC)).filter liveC = (dropK st txn).filter liveC := by
  rw [step_all, map_if (live_sort hs), dropK_eq hs]
  exact live_map _ (fun c h => by rw [it_dead h]; exact h) st

/-- Turn, of both -/
theorem live_turn {st : List Cel} (hs : SortC st) (txn ts : Int) : (stepL (turnC1 ts) (intentsC (st.filter liveC) txn) (intentsC (st.filter liveC) txn).length (st.filter liveC)).filter liveC = (turnK st txn ts).filter liveC := by
  rw [step_all, map_if (live_sort hs), turnK_eq hs]
  exact live_map _ (fun c h => by rw [it_dead h]; exact h) st

/-- Gc, of both -/
theorem live_gc {st : List Cel} (ts : Int) : (stepL (setVs (gcV ts)) (keysC (st.filter liveC)) (keysC (st.filter liveC)).length (st.filter liveC)).filter liveC = (gcC ts st).filter liveC := by
  rw [step_all]
  have e : (st.filter liveC).map (fun c => if c.key ∈ keysC (st.filter liveC) then setVs (gcV ts) c else c) = (st.filter liveC).map (setVs (gcV ts)) := by
    apply List.map_congr_left
    intro c hc
    rw [if_pos (show c.key ∈ keysC (st.filter liveC) from List.mem_map.2 ⟨c, hc, rfl⟩)]
  rw [e]
  refine live_map _ (fun c h => ?_) st
  obtain ⟨h1, h2⟩ := dead_eq h
  unfold liveC setVs
  dsimp only
  rw [h1, h2]
  rfl

theorem live_gcn (ts : Int) (st : List Cel) : gcCn ts (st.filter liveC) = gcCn ts st := by
  unfold gcCn
  have : ∀ (l : List Cel) (a : Nat), ((l.filter liveC).map (fun c => gcN ts c.vs)).foldl (· + ·) a = (l.map (fun c => gcN ts c.vs)).foldl (· + ·) a := by
    intro l
    induction l with
    | nil => intro a; rfl
    | cons c r ih =>
      intro a
      rw [List.filter_cons, List.map_cons, List.foldl_cons]
      by_cases h : liveC c = true
      · rw [if_pos h, List.map_cons, List.foldl_cons, ih]
      · rw [if_neg h, ih, (dead_eq (by simpa using h)).1]
        rfl
  exact this st 0

/-- the cell of a key, if there is one -/
def lkC (st : List Cel) (k : List Int) : Option Cel := if isAt st k = true then st[plc st k]? else none

theorem lk_find (k : List Int) : ∀ st : List Cel, SortC st → lkC st k = st.find? (fun c => decide (c.key = k)) := by
  intro st
  induction st with
  | nil => intro _; rfl
  | cons c r ih =>
    intro hs
    have hs2 := List.pairwise_cons.1 hs
    have ih' := ih hs2.2
    unfold lkC at ih' ⊢
    rw [plc_cons]
    by_cases h : lessL c.key k = true
    · have hne : ¬ c.key = k := fun e => by rw [e, lessL_self] at h; cases h
      rw [if_pos h, isAt_cons h, List.getElem?_cons_succ, ih', List.find?_cons_of_neg (by simpa using hne)]
    · rw [if_neg h, isAt_here h]
      by_cases h2 : c.key = k
      · rw [if_pos (by simpa using h2), List.getElem?_cons_zero, List.find?_cons_of_pos (by simpa using h2)]
      · rw [if_neg (by simpa using h2), List.find?_cons_of_neg (by simpa using h2)]
        refine (List.find?_eq_none.2 (fun x hx => ?_)).symm
        have h3 := hs2.1 x hx
        intro e
        rw [of_decide_eq_true e] at h3
        exact h h3

theorem live_find {st : List Cel} (hs : SortC st) (k : List Int) : (st.filter liveC).find? (fun c => decide (c.key = k)) = (st.find? (fun c => decide (c.key = k))).bind (fun c => if liveC c = true then some c else none) := by
  induction st with
  | nil => rfl
  | cons c r ih =>
    have hs2 := List.pairwise_cons.1 hs
    rw [List.filter_cons]
    by_cases h : c.key = k
    · rw [List.find?_cons_of_pos (p := fun c : Cel => decide (c.key = k)) (by simpa using h)]
      by_cases hl : liveC c = true
      · rw [if_pos hl, List.find?_cons_of_pos (by simpa using h), Option.bind_some, if_pos hl]
      · rw [if_neg hl, Option.bind_some, if_neg hl]
        refine List.find?_eq_none.2 (fun x hx => ?_)
        have h3 := hs2.1 x (List.mem_filter.1 hx).1
        intro e
        rw [of_decide_eq_true e, h, lessL_self] at h3
        cases h3
    · rw [List.find?_cons_of_neg (p := fun c : Cel => decide (c.key = k)) (by simpa using h), ← ih hs2.2]
      by_cases hl : liveC c = true
      · rw [if_pos hl, List.find?_cons_of_neg (by simpa using h)]
      · rw [if_neg hl]

theorem live_lk {st : List Cel} (hs : SortC st) (k : List Int) : lkC (st.filter liveC) k = (lkC st k).bind (fun c => if liveC c = true then some c else none) := by
  rw [lk_find k _ (live_sort hs), lk_find k _ hs]
  exact live_find hs k

theorem at_lk (st : List Cel) (k : List Int) (ts : Int) : atC st k ts = (lkC st k).bind (fun c => atV Ver.ts ts c.vs) := by
  unfold atC lkC
  split
  · cases st[plc st k]? <;> rfl
  · rfl

theorem live_at {st : List Cel} (hs : SortC st) (k : List Int) (ts : Int) : atC (st.filter liveC) k ts = atC st k ts := by
  rw [at_lk, at_lk, live_lk hs]
  cases lkC st k with
  | none => rfl
  | some c =>
    rw [Option.bind_some, Option.bind_some]
    by_cases hl : liveC c = true
    · rw [if_pos hl]; rfl
    · rw [if_neg hl, (dead_eq (by simpa using hl)).1]
      rfl

theorem busy_lk (st : List Cel) (k : List Int) (tx : Int) : busyC st k tx = (match lkC st k with | some c => decide (c.it.tx ≠ 0 ∧ c.it.tx ≠ tx) | none => false) := by
  unfold busyC lkC
  cases isAt st k <;> rfl

theorem live_busy {st : List Cel} (hs : SortC st) (k : List Int) (tx : Int) : busyC (st.filter liveC) k tx = busyC st k tx := by
  rw [busy_lk, busy_lk, live_lk hs]
  cases lkC st k with
  | none => rfl
  | some c =>
    rw [Option.bind_some]
    by_cases hl : liveC c = true
    · rw [if_pos hl]
    · rw [if_neg hl]
      have := (dead_eq (by simpa using hl)).2
      simp [this]

/-- Intend, of both -/
theorem live_intend {st : List Cel} (hs : SortC st) (hc : CleanC st) (k : List Int) (v : Ver) : (intendC (st.filter liveC) k v).1 = (intendC st k v).1.filter liveC ∧ (intendC (st.filter liveC) k v).2 = (intendC st k v).2 := by
  unfold intendC
  rw [live_busy hs]
  split
  · exact ⟨rfl, rfl⟩
  · rename_i h0
    split
    · exact ⟨rfl, rfl⟩
    · refine ⟨?_, rfl⟩
      dsimp only
      rw [up_eq, up_eq]
      refine (live_up _ k (fun c _ => ?_) st hs hc).symm
      unfold liveC setIt
      have : (v.tx != 0) = true := by simpa using h0
      dsimp only
      rw [this, Bool.or_true]

theorem up_mem (g : Cel → Cel) (k : List Int) : ∀ (st : List Cel) (y : Cel), y ∈ upC g k st → y ∈ st ∨ ∃ c, (c ∈ st ∨ c = ⟨k, [], ver0⟩) ∧ y = g c := by
  intro st
  induction st with
  | nil => intro y hy; rw [upC, List.mem_singleton] at hy; exact .inr ⟨_, .inr rfl, hy⟩
  | cons c r ih =>
    intro y hy
    rw [upC] at hy
    split at hy
    · rcases List.mem_cons.1 hy with rfl | h1
      · exact .inl (by simp)
      · rcases ih y h1 with h2 | ⟨x, h2, h3⟩
        · exact .inl (by simp [h2])
        · exact .inr ⟨x, h2.imp (fun h => by simp [h]) id, h3⟩
    · split at hy
      · rcases List.mem_cons.1 hy with rfl | h1
        · exact .inr ⟨c, .inl (by simp), rfl⟩
        · exact .inl (by simp [h1])
      · rcases List.mem_cons.1 hy with rfl | h1
        · exact .inr ⟨_, .inr rfl, rfl⟩
        · exact .inl h1

theorem clean_put {st : List Cel} (hc : CleanC st) (k : List Int) (v : Ver) : CleanC (putC st k v) := by
  intro y hy
  unfold putC at hy
  rw [up_eq] at hy
  rcases up_mem _ k st y hy with h | ⟨c, h | h, rfl⟩
  · exact hc y h
  · exact hc c h
  · intro _; rw [h]; rfl

theorem clean_intend {st : List Cel} (hc : CleanC st) (k : List Int) (v : Ver) : CleanC (intendC st k v).1 := by
  unfold intendC
  split
  · exact hc
  · rename_i h0
    split
    · exact hc
    · intro y hy
      dsimp only at hy
      rw [up_eq] at hy
      rcases up_mem _ k st y hy with h | ⟨c, _, rfl⟩
      · exact hc y h
      · intro e; exact absurd e h0

theorem clean_map {st : List Cel} (hc : CleanC st) (f : Cel → Cel) (hf : ∀ c, (f c).it = c.it ∨ (f c).it = ver0) : CleanC (st.map f) := by
  intro y hy
  obtain ⟨c, h, rfl⟩ := List.mem_map.1 hy
  rcases hf c with e | e
  · rw [e]; exact hc c h
  · intro _; exact e

theorem clean_drop {st : List Cel} (hs : SortC st) (hc : CleanC st) (txn : Int) : CleanC (dropK st txn) := by
  rw [dropK_eq hs]
  exact clean_map hc _ (fun c => by split; exact .inr rfl; exact .inl rfl)

theorem clean_turn {st : List Cel} (hs : SortC st) (hc : CleanC st) (txn ts : Int) : CleanC (turnK st txn ts) := by
  rw [turnK_eq hs]
  exact clean_map hc _ (fun c => by split; exact .inr rfl; exact .inl rfl)

theorem clean_gc {st : List Cel} (hc : CleanC st) (ts : Int) : CleanC (gcC ts st) := clean_map hc _ (fun c => .inl rfl)

theorem sort_put {st : List Cel} (hs : SortC st) (k : List Int) (v : Ver) : SortC (putC st k v) := sort_keys (keys_modify (setVs (putP Ver.ts v)) (fun _ => rfl) _ _) (insC_sort hs k)

theorem sort_intend {st : List Cel} (hs : SortC st) (k : List Int) (v : Ver) : SortC (intendC st k v).1 := by
  unfold intendC
  split
  · exact hs
  · split
    · exact hs
    · exact sort_keys (keys_modify (setIt v) (fun _ => rfl) _ _) (insC_sort hs k)

theorem sort_map {st : List Cel} (hs : SortC st) (f : Cel → Cel) (hf : ∀ c, (f c).key = c.key) : SortC (st.map f) := by
  refine sort_keys ?_ hs
  unfold keysC
  rw [List.map_map]
  exact List.map_congr_left (fun c _ => hf c)

theorem sort_drop {st : List Cel} (hs : SortC st) (txn : Int) : SortC (dropK st txn) := by
  rw [dropK_eq hs]
  exact sort_map hs _ (fun c => by split <;> rfl)

theorem sort_turn {st : List Cel} (hs : SortC st) (txn ts : Int) : SortC (turnK st txn ts) := by
  rw [turnK_eq hs]
  exact sort_map hs _ (fun c => by split <;> rfl)

theorem sort_gc {st : List Cel} (hs : SortC st) (ts : Int) : SortC (gcC ts st) := sort_map hs _ (fun _ => rfl)

end Go.Proofs.Ytfldiapdfpkdaaa

namespace Go.Proofs.Ytfldiapdfpkdaaa
open Go.RowKit NumMath Go.ChangeShapes Go.WideShapes Go.Deep
set_option linter.unusedVariables false
set_option maxRecDepth 100000

set_option maxHeartbeats 1000000 in
theorem smallV_any (mv : MV) (w : World) :
    Calls Try.prog 23 #[.agg #[.int .u64 mv.v.ts, .int .u64 mv.v.tx, .bool mv.v.dd, .slice mv.va mv.vn mv.vc, .slice mv.ka mv.kn mv.kc]] w fun e w' => e = .returned (.bool (decide (mv.vn ≤ 100 ∧ mv.kn ≤ 10))) ∧ Below w.heap.size w w' := by
  have HB := hide (new_below w (.cells #[.int .u64 mv.v.ts, .int .u64 mv.v.tx, .bool mv.v.dd, .slice mv.va mv.vn mv.vc, .slice mv.ka mv.kn mv.kc] 36))
  by_cases h1 : mv.vn ≤ 100
  · have h1' : (mv.vn : Int) ≤ 100 := by omega
    by_cases h2 : mv.kn ≤ 10
    · have h2' : (mv.kn : Int) ≤ 10 := by omega
      go_enter Try.func23, Try.ntmps23
      go_wp2
      go_ret
      exact ⟨by simp [h1, h2], HB.out⟩
    · have h2' : ¬ (mv.kn : Int) ≤ 10 := by omega
      go_enter Try.func23, Try.ntmps23
      go_wp2
      go_ret
      exact ⟨by simp, HB.out⟩
  · have h1' : ¬ (mv.vn : Int) ≤ 100 := by omega
    go_enter Try.func23, Try.ntmps23
    go_wp2
    go_ret
    exact ⟨by simp, HB.out⟩

def mvT (t : Int) : MV := { mv0 with v := { ver0 with ts := t } }

theorem mvT_foot (t : Int) (X : Nat → Prop) (w : World) : Foot X w (fun w => (mvT t).at w) := foot_pure (fun w' => mv0_ok w')

set_option maxHeartbeats 4000000 in
/-- the chapter's example -/
theorem awake12_any (w : World) : Calls Try.prog 8 #[] w fun e w' => e = .returned (.bool true) ∧ Below w.heap.size w w' := by
  have kc := fun (w : World) (C : Array Value) (n c : Nat) => Lib.run_convert_bytes_const (P := Try.prog) w 23 5 C n c Try.underlying23 Try.underlying5
  have HI := hide (fun (w : World) fr => isB_marked w [107] 5 fr (by decide) (by decide))
  have HN := hide (pnew_any (fun _ => False) w.heap.size w (Nat.le_refl _) (fun _ h => h.elim))
  have HAt : Hid (atC (putC (putC [] [107] (mvT 3).v) [107] (mvT 5).v) [107] 4 = some (mvT 3).v) := rfl
  go_enter Try.func8, Try.ntmps8
  go_wp2_with (first
    | (go_at_call 13; refine (pAt_any (fun _ => False) w.heap.size _ p mb _ cs3 (HS3.out.keep (new_below w3 _)) (by omega) _ 1 1 [107] (HI.out w3 _) (by omega) 4).mono ?_; rintro e w4 ⟨m, rfl, hmv, hft, hb4⟩; have HB4 := hide hb4; rw [HE3.out, HAt.out] at hmv; have hts : m.v.ts = 3 := (by rw [hmv]; rfl); have his : (atC (cs3.map PC.c) [107] 4).isSome = true := (by rw [HE3.out, HAt.out]; rfl); rw [his]; clear hft hb4 hmv his)
    | (go_at_call 24; refine (pPut_any (fun _ => False) w.heap.size _ p mb _ cs2 (HS2.out.keep (new_below w2 _)) (by omega) _ 1 1 [107] (HI.out w2 _) (by omega) (mvT 5) (mvT_foot _ _ _) fitV0).mono ?_; rintro e w3 ⟨rfl, cs3, hS3, e3, hk3, hM3⟩; rw [HE2.out] at e3; have HE3 := hide e3; have HS3 := hide hS3; have HK3 := hide hk3; clear hS3 e3 hk3 hM3)
    | (go_at_call 24; refine (pPut_any (fun _ => False) w.heap.size _ p mb _ [] (HS1.out.keep (new_below w1 _)) (by omega) _ 1 1 [107] (HI.out w1 _) (by omega) (mvT 3) (mvT_foot _ _ _) fitV0).mono ?_; rintro e w2 ⟨rfl, cs2, hS2, e2, hk2, hM2⟩; have HE2 : Hid (cs2.map PC.c = putC [] [107] (mvT 3).v) := e2; have HS2 := hide hS2; have HK2 := hide hk2; have HM2 := hide hM2; clear hS2 e2 hk2 hM2)
    | (go_at_call 25; refine HN.out.mono ?_; rintro e w1 ⟨p, mb, rfl, hS1, hb1, hp, hm⟩; have HS1 := hide hS1; have HB1 := hide hb1; clear hS1 hb1))
  go_ret
  have k1 : Keeps (fun k => w.heap.size ≤ k) w w1 := Below.keeps HB1.out _
  have k2 : Keeps (fun k => w.heap.size ≤ k) w w2 := kpThen (kpBelow k1 (new_below _ _)) (fun k hk => .inl (by
    rcases hk with rfl | ⟨_, h, _⟩
    · exact hm
    · cases h)) HK2.out
  have k3 : Keeps (fun k => w.heap.size ≤ k) w w3 := kpThen (kpBelow k2 (new_below _ _)) (fun k hk => .inl (by
    rcases HM2.out k hk with h3 | h3
    · rcases h3 with rfl | ⟨_, h, _⟩
      · exact hm
      · cases h
    · have := k1.size
      rw [World.size_alloc] at h3
      show w.heap.size ≤ k
      omega)) HK3.out
  exact ⟨rfl, (kpBelow (kpBelow (kpBelow k3 (new_below _ _)) HB4.out) (new_below _ _)).below (Nat.le_refl _) (fun k h => h)⟩

end Go.Proofs.Ytfldiapdfpkdaaa

namespace Go.Proofs.Ytfldiapdfpkdaaa
open Go.RowKit NumMath
set_option linter.unusedVariables false
set_option maxRecDepth 100000

theorem find_up (g : Cel → Cel) (k : List Int) (hg : ∀ c, (g c).key = c.key) : ∀ st : List Cel, SortC st → (upC g k st).find? (fun c => decide (c.key = k)) = some (g ((st.find? (fun c => decide (c.key = k))).getD ⟨k, [], ver0⟩)) := by
  intro st
  induction st with
  | nil =>
    intro _
    unfold upC
    rw [List.find?_cons_of_pos (by rw [hg]; simp)]
    rfl
  | cons c r ih =>
    intro hs
    have hs2 := List.pairwise_cons.1 hs
    by_cases h : lessL c.key k = true
    · have hne : ¬ c.key = k := fun e => by rw [e, lessL_self] at h; cases h
      rw [upC, if_pos h, List.find?_cons_of_neg (by simpa using hne), List.find?_cons_of_neg (by simpa using hne)]
      exact ih hs2.2
    · by_cases h2 : c.key = k
      · rw [upC, if_neg h, if_pos h2, List.find?_cons_of_pos (by rw [hg]; simpa using h2), List.find?_cons_of_pos (by simpa using h2)]
        rfl
      · rw [upC, if_neg h, if_neg h2, List.find?_cons_of_pos (by rw [hg]; simp), List.find?_cons_of_neg (by simpa using h2)]
        have e : r.find? (fun c => decide (c.key = k)) = none := List.find?_eq_none.2 (fun x hx e => by
          have h3 := hs2.1 x hx
          rw [of_decide_eq_true e] at h3
          exact h h3)
        rw [e]
        rfl

/-- the versions of a key -/
def vsC (st : List Cel) (k : List Int) : List Ver := ((lkC st k).getD ⟨k, [], ver0⟩).vs

theorem vsC_desc {st : List Cel} (h : ∀ c ∈ st, Desc Ver.ts c.vs) (k : List Int) : Desc Ver.ts (vsC st k) := by
  unfold vsC lkC
  split
  · cases e : st[plc st k]? with
    | none => exact List.Pairwise.nil
    | some c => exact h c (List.mem_of_getElem? e)
  · exact List.Pairwise.nil

theorem at_put {st : List Cel} (hs : SortC st) (k : List Int) (v : Ver) (t : Int) : atC (putC st k v) k t = atV Ver.ts t (putP Ver.ts v (vsC st k)) := by
  rw [at_lk, lk_find k _ (sort_put hs k v)]
  unfold putC vsC
  rw [up_eq, find_up (setVs (putP Ver.ts v)) k (fun _ => rfl) st hs, lk_find k _ hs]
  rfl

theorem find_map (f : Cel → Cel) (hf : ∀ c, (f c).key = c.key) (k : List Int) : ∀ st : List Cel, (st.map f).find? (fun c => decide (c.key = k)) = (st.find? (fun c => decide (c.key = k))).map f := by
  intro st
  rw [List.find?_map]
  congr 2
  funext c
  simp only [Function.comp, hf]

theorem vs_gc {st : List Cel} (hs : SortC st) (ts : Int) (k : List Int) : vsC (gcC ts st) k = gcV ts (vsC st k) := by
  unfold vsC
  rw [lk_find k _ (sort_gc hs ts), lk_find k _ hs]
  unfold gcC
  rw [find_map (setVs (gcV ts)) (fun _ => rfl)]
  cases st.find? (fun c => decide (c.key = k)) <;> rfl

theorem at_vs (st : List Cel) (k : List Int) (t : Int) : atC st k t = atV Ver.ts t (vsC st k) := by
  rw [at_lk]
  unfold vsC
  cases lkC st k <;> rfl

/-- what is read from ts on stays behind a clearing, of the program's store -/
theorem at_gcP {st : List Cel} (hs : SortC st) (hl : ∀ c ∈ st, liveC c = true) (hd : ∀ c ∈ st, Desc Ver.ts c.vs) (ts later : Int) (hle : ts ≤ later) (k : List Int) : atC ((stepL (setVs (gcV ts)) (keysC st) (keysC st).length st).filter liveC) k later = atC st k later ∨ (atC ((stepL (setVs (gcV ts)) (keysC st) (keysC st).length st).filter liveC) k later = none ∧ ∃ v, atC st k later = some v ∧ v.dd = true) := by
  have e0 := live_gc (st := st) ts
  rw [List.filter_eq_self.2 hl] at e0
  rw [e0, live_at (sort_gc hs ts), at_vs, at_vs, vs_gc hs]
  exact gc_stays ts later hle _ (vsC_desc hd k)

/-- a version that is put is read at its time, and later until a later one -/
theorem at_putP {st : List Cel} (hs : SortC st) (k : List Int) (v : Ver) (t : Int) : atC (putC st k v) k v.ts = some v ∧ (v.ts ≤ t → ∃ x, atC (putC st k v) k t = some x ∧ v.ts ≤ x.ts ∧ x.ts ≤ t) := by
  rw [at_put hs, at_put hs]
  exact ⟨put_at Ver.ts v _, fun h => put_later Ver.ts v _ t h⟩

end Go.Proofs.Ytfldiapdfpkdaaa
