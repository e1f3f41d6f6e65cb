/- The mesh and the reference's mesh beside each other. -/
import Derived.Test.YtodmieehdleohaaMp1
import Derived.Test.YtodmieehdleohaaMsE
namespace Go.Proofs.Ytodmieehdleohaa
open Go.RowKit NumMath Go.ChangeShapes Go.WideShapes Go.Deep
set_option linter.unusedVariables false
set_option maxRecDepth 100000

structure Core (W w : World) (B p q : Nat) (fa : Option Addr) (fl fc z s now : Nat) (cs : Nat → Value) (kv wv : Value) (K : List (Int × Int)) (L : List (MMsg × Int)) (C : Int → Int → Bool) (Q : Nat → List MMsg) (F : List (Int × Int)) : Prop where
  hB : W.heap.size ≤ B
  hw : B ≤ w.heap.size
  m : IsMesh w B p z cs F C Q
  x : IsX w B q fa fl fc s now kv wv K L
  ap : ∀ j, Spine p cs j → ¬ XB q kv wv j
  dat : ∀ i m, 2 ≤ i → i < 103 → m ∈ Q i → m.okX (fun k => XB q kv wv k ∨ Spine p cs k) w
  ok : ∀ y ∈ L, y.1.okX (fun _ => False) W
  bel : Below W.heap.size W w

theorem okX_turn {X X' M : Nat → Prop} {w w' : World} {m : MMsg} (h : m.okX X w) (hk : Keeps M w w') (hM : ∀ k, M k → X k) (hX : ∀ k, X' k → X k ∨ w.heap.size ≤ k) : m.okX X' w' := by
  have h2 : m.okX (fun k => X' k ∨ M k) w := h.more (fun k hk => hk.elim (hX k) (fun h => .inl (hM k h)))
  exact (h2.lies hk (fun k hk => .inr hk)).more (fun k hk => .inl (.inl hk))

section
variable {W w w' : World} {B p q : Nat} {fa : Option Addr} {fl fc z z' s s' now now' : Nat} {cs cs' : Nat → Value} {kv wv kv' wv' : Value} {K K' : List (Int × Int)} {L L' : List (MMsg × Int)} {C C' : Int → Int → Bool} {Q Q' : Nat → List MMsg} {F F' : List (Int × Int)}

theorem Core.mesh (h : Core W w B p q fa fl fc z s now cs kv wv K L C Q F) (hm : IsMesh w' B p z' cs' F' C' Q') (kp : Keeps (Spine p cs) w w') (sp : ∀ k, Spine p cs' k → Spine p cs k ∨ w.heap.size ≤ k)
    (nw : ∀ i m, 2 ≤ i → i < 103 → m ∈ Q' i → m.okX (fun k => XB q kv wv k ∨ Spine p cs' k) w') : Core W w' B p q fa fl fc z' s now cs' kv wv K L C' Q' F' :=
  ⟨h.hB, Nat.le_trans h.hw kp.size, hm, h.x.lies kp (fun k hk => h.ap k hk), fun j hj hx => (sp j hj).elim (fun h1 => h.ap j h1 hx) (fun h1 => by have := (h.x.lt hx).2; omega), nw, h.ok, h.bel.trans (kp.below (Nat.le_trans h.hB h.hw) (fun k hk => Nat.le_trans h.hB (Spine.lt h.m hk).1))⟩

theorem Core.post (h : Core W w B p q fa fl fc z s now cs kv wv K L C Q F) (hp : MPost w B p z' cs F' C' Q' w') (hq : ∀ i m, 2 ≤ i → i < 103 → m ∈ Q' i → ∃ j, 2 ≤ j ∧ j < 103 ∧ m ∈ Q j) : ∃ cs', Core W w' B p q fa fl fc z' s now cs' kv wv K L C' Q' F' := by
  obtain ⟨cs', hm, kp, sp⟩ := hp
  refine ⟨cs', h.mesh hm kp sp (fun i m h1 h2 h3 => ?_)⟩
  obtain ⟨j, g1, g2, g3⟩ := hq i m h1 h2 h3
  exact okX_turn (h.dat j m g1 g2 g3) kp (fun k hk => .inr hk) (fun k hk => hk.elim (fun h => .inl (.inl h)) (fun h => (sp k h).imp .inr id))

theorem Core.ref (h : Core W w B p q fa fl fc z s now cs kv wv K L C Q F) (hx : IsX w' B q fa fl fc s' now' kv' wv' K' L') (kp : Keeps (XB q kv wv) w w') (sp : ∀ k, XB q kv' wv' k → XB q kv wv k ∨ w.heap.size ≤ k) (ok : ∀ y ∈ L', y.1.okX (fun _ => False) W) :
    Core W w' B p q fa fl fc z s' now' cs kv' wv' K' L' C Q F :=
  ⟨h.hB, Nat.le_trans h.hw kp.size, h.m.lies kp (fun k hk hs => h.ap k hs hk) (fun i m h1 h2 h3 => okX_turn (h.dat i m h1 h2 h3) kp (fun k hk => .inl hk) (fun k hk => .inl (.inr hk))), hx,
    fun j hj hy => (sp j hy).elim (fun h1 => h.ap j hj h1) (fun h1 => by have := (Spine.lt h.m hj).2; omega),
    fun i m h1 h2 h3 => okX_turn (h.dat i m h1 h2 h3) kp (fun k hk => .inl hk) (fun k hk => hk.elim (fun h => (sp k h).imp .inl id) (fun h => .inl (.inr h))), ok, h.bel.trans (kp.below (Nat.le_trans h.hB h.hw) (fun k hk => Nat.le_trans h.hB (h.x.lt hk).1))⟩

theorem Core.keep (h : Core W w B p q fa fl fc z s now cs kv wv K L C Q F) (hb : Below w.heap.size w w') : Core W w' B p q fa fl fc z s now cs kv wv K L C Q F :=
  h.mesh (h.m.keep hb) (Below.keeps hb _) (fun k hk => .inl hk) (fun i m h1 h2 h3 => (h.dat i m h1 h2 h3).keep hb)

end

def CutR (C : Int → Int → Bool) (K : List (Int × Int)) : Prop := ∀ a b, UU a → UU b → C (min a b) (max a b) = isCutK K a b

theorem same_pair (a b x y : Int) : (min a b = min x y ∧ max a b = max x y) ↔ ((x = a ∧ y = b) ∨ (x = b ∧ y = a)) := by omega

theorem any_out (K : List (Int × Int)) (a b x y : Int) : (K.filter (outK x y)).any (fun p => p == (a, b) || p == (b, a)) = (isCutK K a b && !(min a b == min x y && max a b == max x y)) := by
  unfold isCutK
  induction K with
  | nil => rfl
  | cons p r ih =>
    obtain ⟨u, v⟩ := p
    rw [List.any_cons]
    by_cases ho : outK x y (u, v) = true
    · rw [List.filter_cons_of_pos ho, List.any_cons, ih]
      unfold outK at ho
      simp only [Bool.and_eq_true, Bool.not_eq_true', beq_eq_false_iff_ne, ne_eq, Prod.mk.injEq] at ho
      have key : ((u, v) == (a, b) || (u, v) == (b, a)) = (((u, v) == (a, b) || (u, v) == (b, a)) && !(min a b == min x y && max a b == max x y)) := by
        rw [Bool.eq_iff_iff]
        simp only [Bool.or_eq_true, Bool.and_eq_true, Bool.not_eq_true', beq_iff_eq, Prod.mk.injEq, Bool.and_eq_false_iff, beq_eq_false_iff_ne, ne_eq]
        omega
      rw [Bool.and_or_distrib_right, ← key]
    · rw [List.filter_cons_of_neg ho, ih]
      have ho2 : (u = x ∧ v = y) ∨ (u = y ∧ v = x) := by
        unfold outK at ho
        simp only [Bool.and_eq_true, Bool.not_eq_true', beq_eq_false_iff_ne, ne_eq, Prod.mk.injEq] at ho
        omega
      have key : (((u, v) == (a, b) || (u, v) == (b, a)) && !(min a b == min x y && max a b == max x y)) = false := by
        rw [Bool.eq_false_iff]
        simp only [ne_eq, Bool.or_eq_true, Bool.and_eq_true, Bool.not_eq_true', beq_iff_eq, Prod.mk.injEq, Bool.and_eq_false_iff, beq_eq_false_iff_ne]
        omega
      rw [Bool.and_or_distrib_right, key, Bool.false_or]

theorem cutR_cut {C : Int → Int → Bool} {K : List (Int × Int)} (h : CutR C K) (x y : Int) (c : Bool) : CutR (cutC C x y c) (cutK K x y c) := by
  intro a b ha hb
  have h1 := h a b ha hb
  have h2 := any_out K a b x y
  have h3 : isCutK (cutK K x y c) a b = ((K.filter (outK x y)).any (fun p => p == (a, b) || p == (b, a)) || (if c then [(x, y)] else []).any (fun p => p == (a, b) || p == (b, a))) := by
    unfold isCutK cutK
    rw [List.any_append]
  rw [h3, h2]
  unfold cutC
  rw [h1]
  cases c with
  | false => simp
  | true =>
    simp only [if_true, List.any_cons, List.any_nil, Bool.or_false]
    have e : ((x, y) == (a, b) || (x, y) == (b, a)) = (min a b == min x y && max a b == max x y) := by
      rw [Bool.eq_iff_iff]
      simp only [Bool.or_eq_true, Bool.and_eq_true, beq_iff_eq, Prod.mk.injEq]
      omega
    rw [e]
    cases isCutK K a b <;> cases (min a b == min x y && max a b == max x y) <;> rfl

theorem cutK_len (K : List (Int × Int)) (x y : Int) (c : Bool) : (cutK K x y c).length ≤ K.length + 1 := by
  unfold cutK
  rw [List.length_append]
  have := List.length_filter_le (outK x y) K
  cases c <;> simp <;> omega

/-- both, behind k deeds -/
structure Two (W w : World) (B p q : Nat) (fa : Option Addr) (fl fc : Nat) (x0 : List (Int × Int)) (k z s now : Nat) (cs : Nat → Value) (kv wv : Value) (K : List (Int × Int)) (L : List (MMsg × Int)) (C : Int → Int → Bool) (Q : Nat → List MMsg) : Prop where
  core : Core W w B p q fa fl fc z s now cs kv wv K L C Q (x0.drop s)
  rel : Rel (pq Q) now (pl L)
  cut : CutR C K
  bz : z ≤ k
  bs : s ≤ k
  bn : now ≤ k
  bK : K.length ≤ k
  bL : L.length ≤ 3 * k

theorem Q_le {Q : Nat → List MMsg} {now : Nat} {L : List (PMsg × Int)} (h : Rel (pq Q) now L) : ∀ i, 2 ≤ i → i < 103 → (Q i).length ≤ L.length := by
  intro i h1 h2
  have hp : (pq Q i).length = (Q i).length := by simp [pq]
  by_cases e : i = 2
  · subst e
    rw [← hp, h.due, dueT_len L (fun x hx => (h.rng x hx).1)]
    exact List.length_filter_le _ _
  · obtain ⟨j, rfl⟩ : ∃ j, i = 3 + j := ⟨i - 3, by omega⟩
    rw [← hp, h.lat j (by omega)]
    exact atT_le _ _

theorem shift_mem {Q : Nat → List MMsg} (i : Nat) (m : MMsg) (h1 : 2 ≤ i) (h2 : i < 103) (h : m ∈ shiftQ Q i) : ∃ j, 2 ≤ j ∧ j < 103 ∧ m ∈ Q j := by
  unfold shiftQ upd at h
  split at h
  · have : i = 2 := by omega
    subst this
    rw [if_pos rfl] at h
    rcases List.mem_append.1 h with h | h
    · exact ⟨2, by omega, by omega, h⟩
    · exact ⟨3, by omega, by omega, h⟩
  · split at h
    · rw [if_neg (by omega)] at h
      exact ⟨i + 1, by omega, by omega, h⟩
    · cases h

end Go.Proofs.Ytodmieehdleohaa
