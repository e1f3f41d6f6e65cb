/- What hangs on some blocks alone; a version's data in memory; clones of lists of texts; copyOf. A version copied: copyOf. Versions copied: slices.Clone of versions, copies. -/
import Derived.Test.YtjclcndcknnfhaaMvG
import Derived.Test.YtjclcndcknnfhaaBigB
import Derived.Test.YtjclcndcknnfhaaGnA
import Derived.Test.YtjclcndcknnfhaaMv9
namespace Go.Proofs.Ytjclcndcknnfhaa
open Go.RowKit NumMath Go.ChangeShapes Go.WideShapes Go.Deep
set_option linter.unusedVariables false
set_option maxRecDepth 100000

/-- P holds, and hangs on blocks alone that are none of X -/
def Foot (X : Nat → Prop) (w : World) (P : World → Prop) : Prop :=
  ∃ B : Nat → Prop, (∀ k, B k → k < w.heap.size ∧ ¬ X k) ∧ ∀ w' : World, w.heap.size ≤ w'.heap.size → (∀ k, B k → w'.heap[k]? = w.heap[k]?) → P w'

theorem Foot.now {X : Nat → Prop} {w : World} {P : World → Prop} (h : Foot X w P) : P w := by
  obtain ⟨B, _, h2⟩ := h
  exact h2 w (Nat.le_refl _) (fun _ _ => rfl)

/-- behind a call that changes X alone; Y may have new blocks besides -/
theorem Foot.step {X Y : Nat → Prop} {w w' : World} {P : World → Prop} (h : Foot X w P) (hk : Keeps X w w') (hY : ∀ k, Y k → X k ∨ w.heap.size ≤ k) : Foot Y w' P := by
  obtain ⟨B, h1, h2⟩ := h
  refine ⟨B, fun k hb => ⟨Nat.lt_of_lt_of_le (h1 k hb).1 hk.size, fun hy => ?_⟩, fun w'' hs hb => h2 w'' (Nat.le_trans hk.size hs) (fun k hk2 => (hb k hk2).trans (hk.block k (h1 k hk2).1 (h1 k hk2).2))⟩
  rcases hY k hy with h3 | h3
  · exact (h1 k hb).2 h3
  · have := (h1 k hb).1; omega

theorem Foot.keep {X : Nat → Prop} {w w' : World} {P : World → Prop} (h : Foot X w P) (hb : Below w.heap.size w w') : Foot X w' P := h.step (Below.keeps hb X) (fun k hk => .inl hk)

theorem Foot.more {X Y : Nat → Prop} {w : World} {P : World → Prop} (h : Foot X w P) (hY : ∀ k, Y k → X k ∨ w.heap.size ≤ k) : Foot Y w P := h.step (Below.keeps (Below.refl _ w) X) hY

theorem Foot.and {X : Nat → Prop} {w : World} {P Q : World → Prop} (h : Foot X w P) (k : Foot X w Q) : Foot X w (fun w => P w ∧ Q w) := by
  obtain ⟨B, h1, h2⟩ := h
  obtain ⟨C, k1, k2⟩ := k
  exact ⟨fun i => B i ∨ C i, fun i hi => hi.elim (h1 i) (k1 i), fun w' hs hb => ⟨h2 w' hs (fun i hi => hb i (.inl hi)), k2 w' hs (fun i hi => hb i (.inr hi))⟩⟩

theorem Foot.imp {X : Nat → Prop} {w : World} {P Q : World → Prop} (h : Foot X w P) (hi : ∀ w', P w' → Q w') : Foot X w Q := by
  obtain ⟨B, h1, h2⟩ := h
  exact ⟨B, h1, fun w' hs hb => hi w' (h2 w' hs hb)⟩

theorem foot_pure {X : Nat → Prop} {w : World} {P : World → Prop} (h : ∀ w', P w') : Foot X w P := ⟨fun _ => False, fun _ h => h.elim, fun w' _ _ => h w'⟩

theorem foot_bytes {X : Nat → Prop} {w : World} {a : Option Addr} {n c : Nat} {xs : List Int} (h : IsBytes w a n c xs) (ho : Out X a n) : Foot X w (fun w => IsBytes w a n c xs) := by
  obtain ⟨h1, h2, h3, h4, h5⟩ := h
  rcases h5 with h5 | ⟨g, off, rfl, hg, hB⟩
  · exact foot_pure (fun w' => ⟨h1, h2, h3, h4, .inl h5⟩)
  · rcases ho with ho | ho
    · exact foot_pure (fun w' => ⟨h1, h2, h3, h4, .inl ho⟩)
    · exact ⟨fun k => k = g, fun k hk => by subst hk; exact ⟨hg, ho _ rfl⟩, fun w' hs hb => ⟨h1, h2, h3, h4, .inr ⟨g, off, rfl, Nat.lt_of_lt_of_le hg hs, fun i hi => (World.cell?_of_block (a := ⟨g, off + i, none⟩) (hb g rfl)).trans (hB i hi)⟩⟩⟩

theorem foot_own {X : Nat → Prop} {w : World} {base : Nat} {a : Option Addr} {n c : Nat} {xs : List Int} (h : OwnB w base (.slice a n c) xs) (hr : ∀ c ∈ xs, 0 ≤ c ∧ c < 256) (ho : ∀ k, X k → k < base) : Foot X w (fun w => IsBytes w a n c xs) := by
  refine foot_bytes (h.isAt hr) ?_
  rcases h.form with ⟨e, _⟩ | ⟨g, cap, e, hg, _⟩
  · cases e; exact .inl rfl
  · cases e; exact .inr (fun y hy hx => by cases hy; have := ho _ hx; simp at this; omega)

/-- bytes of a text in memory -/
def MB.at (w : World) (m : MB) : Prop := IsBytes w m.a m.n m.c m.t

theorem MB.at.keep {w w' : World} {m : MB} (h : m.at w) (hb : Below w.heap.size w w') : m.at w' := IsBytes.keep h hb

instance : Inhabited MB := ⟨⟨[], none, 0, 0⟩⟩

/-- a list of texts, text by text -/
theorem IsTexts.mbs {w : World} {a : Option Addr} {n c : Nat} {ts : List (List Int)} (h : IsTexts w a n c ts) : ∃ ms : List MB, ms.map MB.t = ts ∧ IsY layT w a n c ms ∧ ∀ m ∈ ms, m.at w := by
  obtain ⟨h1, h2, h3, h5⟩ := h
  rcases h5 with h5 | ⟨g, off, rfl, hg, hT⟩
  · have : ts = [] := List.length_eq_zero_iff.1 (by omega)
    subst this
    exact ⟨[], rfl, ⟨h1, h2, h3, .inl h5⟩, by simp⟩
  · have each : ∀ i, i < n → ∃ m : MB, w.cell? ⟨g, off + i, none⟩ = some (.slice m.a m.n m.c) ∧ m.t = ts.getD i [] ∧ m.at w := by
      intro i hi
      obtain ⟨b, k, d, e1, e2⟩ := hT i (by omega)
      exact ⟨⟨ts.getD i [], b, k, d⟩, e1, rfl, e2⟩
    obtain ⟨M, hM⟩ := choose_lt each
    have hl : ((List.range n).map M).length = n := by simp
    refine ⟨(List.range n).map M, ?_, ⟨hl, h2, h3, .inr ⟨g, off, rfl, hg, ?_⟩⟩, ?_⟩
    · apply List.ext_getElem (by simp [h1])
      intro i hi1 hi2
      simp at hi1
      simp [(hM i hi1).2.1, List.getD, List.getElem?_eq_getElem hi2]
    · intro i x hx j u hu
      rw [List.getElem?_map] at hx
      have hi : i < n := by
        rcases Nat.lt_or_ge i n with h | h
        · exact h
        · rw [List.getElem?_eq_none (by simpa using h)] at hx; cases hx
      rw [List.getElem?_range hi] at hx
      cases hx
      have hj : j = 0 := by
        have := (List.getElem?_eq_some_iff.1 hu).1
        simp [layT] at this
        omega
      subst hj
      have hu2 : u = .slice (M i).a (M i).n (M i).c := by simpa [layT] using hu.symm
      rw [hu2]
      have := (hM i hi).1
      simpa [layT] using this
    · intro m hm
      obtain ⟨i, hi, rfl⟩ := List.mem_map.1 hm
      exact (hM i (List.mem_range.1 hi)).2.2

/-- .. and back -/
theorem texts_of {w : World} {a : Option Addr} {n c : Nat} {ms : List MB} (h : IsY layT w a n c ms) (ha : ∀ m ∈ ms, m.at w) : IsTexts w a n c (ms.map MB.t) := by
  obtain ⟨h1, h2, h3, h5⟩ := h
  refine ⟨by rw [List.length_map]; exact h1, h2, h3, ?_⟩
  rcases h5 with h5 | ⟨g, off, rfl, hg, hC⟩
  · exact .inl h5
  · refine .inr ⟨g, off, rfl, hg, fun i hi => ?_⟩
    rw [List.length_map] at hi
    have hx : ms[i]? = some ms[i] := List.getElem?_eq_getElem hi
    have h0 := hC i _ hx 0 _ rfl
    refine ⟨_, _, _, by simpa [layT] using h0, ?_⟩
    have e : (ms.map MB.t).getD i [] = ms[i].t := by simp [List.getD, List.getElem?_eq_getElem hi]
    rw [e]
    exact ha _ (List.getElem_mem hi)

/-- a list of texts that hangs on blocks that are none of X alone -/
theorem foot_texts {X : Nat → Prop} {w : World} {a : Option Addr} {n c : Nat} {ms : List MB} (h : IsY layT w a n c ms) (ho : Out X a n) (ha : ∀ m ∈ ms, Foot X w m.at) : Foot X w (fun w => IsTexts w a n c (ms.map MB.t)) := by
  have hY : Foot X w (fun w => IsY layT w a n c ms) := by
    obtain ⟨h1, h2, h3, h5⟩ := h
    rcases h5 with h5 | ⟨g, off, rfl, hg, hC⟩
    · exact foot_pure (fun w' => ⟨h1, h2, h3, .inl h5⟩)
    · rcases ho with ho | ho
      · exact foot_pure (fun w' => ⟨h1, h2, h3, .inl ho⟩)
      · exact ⟨fun k => k = g, fun k hk => by subst hk; exact ⟨hg, ho _ rfl⟩, fun w' hs hb => ⟨h1, h2, h3, .inr ⟨g, off, rfl, Nat.lt_of_lt_of_le hg hs, hC.same (hb g rfl)⟩⟩⟩
  have hA : Foot X w (fun w => ∀ m ∈ ms, m.at w) := by
    clear h hY
    induction ms with
    | nil => exact foot_pure (fun w' => by simp)
    | cons m r ih => exact ((ha m (by simp)).and (ih (fun x hx => ha x (by simp [hx])))).imp (fun w' h => by simpa using h)
  exact (hY.and hA).imp (fun w' h => texts_of h.1 h.2)

/-- a version that is not too great to be copied -/
def FitV (v : Ver) : Prop := v.val.length ≤ 140737488355328 ∧ v.ks.length ≤ 1000 ∧ ∀ k ∈ v.ks, k.length ≤ 140737488355328

theorem fitV0 : FitV ver0 := ⟨by simp [ver0], by simp [ver0], by simp [ver0]⟩

theorem mv0_foot (X : Nat → Prop) (w : World) : Foot X w (fun w => mv0.at w) := foot_pure (fun w' => mv0_ok w')

theorem cloneT_any (a : Option Addr) (n c : Nat) (ms : List MB) (w : World) (hs : SrcY layT w a n ms) (hbig : n ≤ 100000) :
    Calls Try.prog 68 #[.slice a n c] w fun e w' => ∃ v, e = .returned v ∧ OwnY layT w' w.heap.size v ms ∧ Below w.heap.size w w' := by
  have HS := hide hs
  have hl := hs.1
  cases a with
  | none =>
    have h0 : n = 0 := by
      rcases hs.2 with h | ⟨g, off, h, _⟩
      · exact h
      · cases h
    have hm : ms = [] := List.length_eq_zero_iff.1 (by omega)
    subst hm
    subst h0
    clear hs
    have hnil : ∀ w, (binOp .eql 34 (.slice none 0 c) (.slice none 0 0)).run Try.prog w = .ok (.bool true) w := fun w => Lib.run_eql_slice_nil w 34 23 none 0 c 0 0 Try.underlying34
    go_enter Try.func68, Try.ntmps68
    go_wp2
    go_ret
    exact ⟨_, rfl, ownY_nil _ _, Below.refl _ _⟩
  | some x =>
    have hb : 0 + ms.length ≤ 1000000000 := by omega
    clear hs
    have hnil : ∀ w, (binOp .eql 34 (.slice (some x) n c) (.slice none 0 0)).run Try.prog w = .ok (.bool false) w := fun w => Lib.run_eql_slice_nil w 34 23 (some x) n c 0 0 Try.underlying34
    go_enter Try.func68, Try.ntmps68
    go_wp2_with (first
      | (at_builtin; go_must (refine wp_joinY layT _ rfl (.tmp 5) (.tmp 6) rfl w.heap.size _ [] rfl (ownY_empty w _ (Nat.le_refl _)) (some x) n c ms rfl (HS.out.keep (new_below _ _)) hb (by simp) ?_); intro v1 w1 hown1 hg1 _))
    go_ret
    refine ⟨v1, rfl, by simpa using hown1, ?_⟩
    exact (new_below _ _).trans (OwnY.grown (ownY_empty (L := layT) w _ (Nat.le_refl _)) hg1 (by simp))

end Go.Proofs.Ytjclcndcknnfhaa

namespace Go.Proofs.Ytjclcndcknnfhaa
open Go.RowKit NumMath Go.ChangeShapes Go.WideShapes Go.Deep
set_option linter.unusedVariables false
set_option maxRecDepth 100000

theorem kpSelf (M : Nat → Prop) (w : World) : Keeps M w w := ⟨rfl, rfl, rfl, Nat.le_refl _, fun _ _ _ => rfl⟩

theorem kpThen {X X' : Nat → Prop} {w w1 w2 : World} (h : Keeps X w w1) (hx : ∀ k, X' k → X k ∨ w.heap.size ≤ k) (k : Keeps X' w1 w2) : Keeps X w w2 :=
  ⟨k.os.trans h.os, k.tape.trans h.tape, k.output.trans h.output, Nat.le_trans h.size k.size, fun i hi hn => (k.block i (Nat.lt_of_lt_of_le hi h.size) (fun hX => by rcases hx i hX with h1 | h1; exact hn h1; omega)).trans (h.block i hi hn)⟩

theorem kpBelow {X : Nat → Prop} {w w1 w2 : World} (h : Keeps X w w1) (k : Below w1.heap.size w1 w2) : Keeps X w w2 := kpThen h (fun _ hk => .inl hk) (Below.keeps k X)

theorem kpSet {X : Nat → Prop} {w w1 : World} (h : Keeps X w w1) {g i : Nat} (hg : X g ∨ w.heap.size ≤ g) (v : Value) : Keeps X w (w1.setCell ⟨g, i, none⟩ v) :=
  kpThen h (fun k (e : k = g) => by rw [e]; exact hg) (keepsY_cell v)

/-- a version in a block of its own -/
structure BxV (w : World) (N : Nat) (m : MV) : Prop where
  r : w.rangeAt N 0 (layV.cells m)
  lt : N < w.heap.size
  fz : ∀ j, w.frozen? ⟨N, j, none⟩ = false

theorem bxV_new (w : World) (m : MV) (N : Nat) (hN : w.heap.size = N) : BxV (w.alloc (.cells #[.int .u64 m.v.ts, .int .u64 m.v.tx, .bool m.v.dd, .slice m.va m.vn m.vc, .slice m.ka m.kn m.kc] 36)) N m := by
  subst hN
  exact ⟨rangeY_new w w.heap.size _ _ rfl, by simp, fun j => fzY_new w _ _ j⟩

theorem BxV.keep {w w' : World} {N : Nat} {m : MV} (h : BxV w N m) (hb : Below w.heap.size w w') : BxV w' N m := ⟨rangeY_same h.r (hb.block N h.lt), Nat.lt_of_lt_of_le h.lt hb.size, fun j => (hb.frozen (p := ⟨N, j, none⟩) h.lt).trans (h.fz j)⟩

theorem BxV.lies {w w' : World} {N : Nat} {m : MV} {M : Nat → Prop} (h : BxV w N m) (hk : Keeps M w w') (hn : ¬ M N) : BxV w' N m := ⟨rangeY_same h.r (hk.block N h.lt hn), Nat.lt_of_lt_of_le h.lt hk.size, fun j => (World.frozen?_of_block (a := ⟨N, j, none⟩) (hk.block N h.lt hn)).trans (h.fz j)⟩

theorem range_set {w : World} {N i : Nat} {l : List Value} {v : Value} (h : w.rangeAt N 0 l) (hi : i < l.length) : (w.setCell ⟨N, i, none⟩ v).rangeAt N 0 (l.set i v) := by
  intro j u hu
  have h0 := h j
  by_cases e : j = i
  · subst e
    rw [List.getElem?_set_self hi] at hu
    cases hu
    have hc := h j l[j] (List.getElem?_eq_getElem hi)
    rw [Nat.zero_add] at hc ⊢
    exact World.cell?_setCell_same' _ _ _ (by rw [hc]; rfl)
  · rw [List.getElem?_set_ne (fun e2 => e e2.symm)] at hu
    rw [cell_offY (by omega)]
    exact h j u hu

theorem BxV.set {w : World} {N : Nat} {m m' : MV} (h : BxV w N m) (i : Nat) (v : Value) (hi : i < 5) (e : layV.cells m' = (layV.cells m).set i v) : BxV (w.setCell ⟨N, i, none⟩ v) N m' := by
  refine ⟨?_, by have := h.lt; simpa [World.setCell] using this, fun j => by rw [World.frozen?_setCell]; exact h.fz j⟩
  rw [e]
  exact range_set h.r (by rw [layV.len]; exact hi)

theorem BxV.x {w : World} {N : Nat} {m : MV} (h : BxV w N m) : w.cell? ⟨N, 0, none⟩ = some (.int .u64 m.v.ts) ∧ w.cell? ⟨N, 1, none⟩ = some (.int .u64 m.v.tx) ∧ w.cell? ⟨N, 2, none⟩ = some (.bool m.v.dd) ∧ w.cell? ⟨N, 3, none⟩ = some (.slice m.va m.vn m.vc) ∧ w.cell? ⟨N, 4, none⟩ = some (.slice m.ka m.kn m.kc) :=
  ⟨h.r 0 _ rfl, h.r 1 _ rfl, h.r 2 _ rfl, h.r 3 _ rfl, h.r 4 _ rfl⟩

theorem BxV.there {w : World} {N : Nat} {m : MV} (h : BxV w N m) : w.there N 0 5 := by
  intro j hj
  have : j = 0 ∨ j = 1 ∨ j = 2 ∨ j = 3 ∨ j = 4 := by omega
  obtain ⟨x0, x1, x2, x3, x4⟩ := h.x
  rcases this with rfl | rfl | rfl | rfl | rfl
  · exact ⟨by rw [x0]; rfl, h.fz _⟩
  · exact ⟨by rw [x1]; rfl, h.fz _⟩
  · exact ⟨by rw [x2]; rfl, h.fz _⟩
  · exact ⟨by rw [x3]; rfl, h.fz _⟩
  · exact ⟨by rw [x4]; rfl, h.fz _⟩

def CopyPost (w : World) (m : MV) (e : Ending) (w' : World) : Prop :=
  ∃ m' : MV, e = .returned (.agg #[.int .u64 m'.v.ts, .int .u64 m'.v.tx, .bool m'.v.dd, .slice m'.va m'.vn m'.vc, .slice m'.ka m'.kn m'.kc]) ∧ m'.v = m.v ∧ Foot (fun k => k < w.heap.size) w' (fun w => m'.at w) ∧ Below w.heap.size w w'

theorem getD_at {α : Type} {l : List α} {k : Nat} {d x : α} (h : l[k]? = some x) : l.getD k d = x := by simp [List.getD, h]

set_option maxHeartbeats 4000000 in
theorem copyOf_any (m : MV) (w : World) (h : m.at w) (hf : FitV m.v) :
    Calls Try.prog 44 #[.agg #[.int .u64 m.v.ts, .int .u64 m.v.tx, .bool m.v.dd, .slice m.va m.vn m.vc, .slice m.ka m.kn m.kc]] w fun e w' => CopyPost w m e w' := by
  obtain ⟨W0, hW0⟩ : ∃ W0, W0 = (w.alloc (.cells #[.int .u64 m.v.ts, .int .u64 m.v.tx, .bool m.v.dd, .slice m.va m.vn m.vc, .slice m.ka m.kn m.kc] 36)).alloc (.cells #[.int .u64 0, .int .u64 0, .bool false, .slice none 0 0, .slice none 0 0] 36) := ⟨_, rfl⟩
  have hs0 : W0.heap.size = w.heap.size + 2 := by rw [hW0]; simp
  have hb0 : Below w.heap.size w W0 := by rw [hW0]; exact belY (belY (Below.refl _ _) _) _
  have HX0 : Hid (BxV W0 w.heap.size m) := by show BxV W0 w.heap.size m; rw [hW0]; exact (bxV_new w m w.heap.size rfl).keep (new_below _ _)
  have HZ0 : Hid (BxV W0 (w.heap.size + 1) mv0) := by show BxV W0 (w.heap.size + 1) mv0; rw [hW0]; exact bxV_new _ mv0 _ (by simp)
  obtain ⟨h1, h2⟩ := h
  obtain ⟨mb, hmb, hmY, hmA⟩ := h2.mbs
  obtain ⟨f1, f2, f3⟩ := hf
  have HCl := hide (cloneB_big m.va m.vn m.vc m.v.val W0 (h1.keep hb0).src (by rw [← h1.1]; exact f1))
  rw [hs0] at HCl
  rw [hW0] at HCl
  have HW0 := hide hW0
  have HV := hide h1.2.2.2.1
  have HMY := hide hmY
  have HMA := hide hmA
  have HMT := hide hmb
  have HMl : Hid (mb.length = m.kn) := hmY.1
  have hkn : m.kn ≤ 1000 := by rw [← hmY.1, ← List.length_map (f := MB.t), hmb]; exact f2
  have HF3 := hide f3
  have HB0 := hide hb0
  have HPi : Hid (W0.heap.size = w.heap.size + 2) := hs0
  clear h1 h2 hmY hmA hmb f1 f2 f3 hb0 hs0 hW0
  go_enter Try.func44, Try.ntmps44
  go_upto_region 2 with (first
    | (go_at_call 67; go_must (refine HCl.out.mono ?_); rintro e w1 ⟨v1, rfl, hO1, hb1⟩; obtain ⟨a1, n1, c1, rfl, -⟩ := hO1.any; (have hb1 : Below W0.heap.size W0 w1 := (by rw [HPi.out, HW0.out]; exact hb1)); have HO1 := hide hO1; have HB1 := hide hb1; have HX1 := hide (HX0.out.keep hb1); have HZ1 := hide (HZ0.out.keep hb1); have b3 := HX1.out.x.2.2.2.1; have f3 := HX1.out.fz 3; clear hO1 hb1))
  have hw1 : w.heap.size + 2 ≤ w1.heap.size := by have := HB1.out.size; rw [HPi.out] at this; exact this
  obtain ⟨W1, hW1⟩ : ∃ W1, W1 = w1.setCell ⟨w.heap.size, 3, none⟩ (.slice a1 n1 c1) := ⟨_, rfl⟩
  have hk1 : Keeps (fun k => k = w.heap.size) w1 W1 := by rw [hW1]; exact keepsY_cell _
  have HXs : Hid (BxV W1 w.heap.size { m with va := a1, vn := n1, vc := c1 }) := by show BxV W1 _ _; rw [hW1]; exact HX1.out.set 3 _ (by decide) rfl
  have HZs : Hid (BxV W1 (w.heap.size + 1) mv0) := HZ1.out.lies hk1 (by omega)
  have HFv : Hid (Foot (fun k => k < w.heap.size + 2) W1 (fun w => IsBytes w a1 n1 c1 m.v.val)) := by
    refine Foot.step (X := fun k => k < w.heap.size + 2) (foot_own HO1.out HV.out (fun k hk => hk)) (Keeps.wider hk1 (fun k hk => by rw [hk]; omega)) (fun k hk => .inl hk)
  have HBs : Hid (Below w.heap.size w W1) := by
    show Below w.heap.size w W1
    rw [hW1]
    exact (HB0.out.trans (HB1.out.mono (by rw [HPi.out]; omega))).setCell (p := ⟨w.heap.size, 3, none⟩) (Nat.le_refl _) _
  have hsW1 : W1.heap.size = w1.heap.size := by rw [hW1]; simp [World.setCell]
  rw [← hW1]
  clear HX0 HZ0 HX1 HZ1 HO1 HB1 HB0 HW0 HCl b3 f3 hW1 hk1
  have b4 := HXs.out.x.2.2.2.2
  dsimp only at b4
  have HCt := hide (cloneT_any m.ka m.kn m.kc mb W1 (HMY.out.keep HBs.out).src (by omega))
  go_upto_region 3 with (first
    | (go_at_call 68; go_must (refine HCt.out.mono ?_); rintro e w2 ⟨v2, rfl, hO2, hb2⟩; obtain ⟨a2, n2, c2, rfl⟩ := hO2.any3; have HO2 := hide hO2; have HB2 := hide hb2; have HX2 := hide (HXs.out.keep hb2); have HZ2 := hide (HZs.out.keep hb2); have HF2 : Hid (Foot (fun k => k < w.heap.size + 2 ∨ (Value.slice a2 n2 c2).ownBlock = some k) w2 (fun w => IsBytes w a1 n1 c1 m.v.val)) := (HFv.out.step (Below.keeps hb2 _) (fun k hk => hk.imp id (fun e => (hO2.lt k e).1))); have b4 := HX2.out.x.2.2.2.2; have f4 := HX2.out.fz 4; dsimp only at b4; clear hO2 hb2))
  have hn2 : n2 = m.kn := by rw [← HO2.out.len.1]; exact HMl.out
  subst hn2
  have hw2 : w.heap.size + 2 ≤ w2.heap.size := by have := HB2.out.size; omega
  obtain ⟨W2, hW2⟩ : ∃ W2, W2 = w2.setCell ⟨w.heap.size, 4, none⟩ (.slice a2 m.kn c2) := ⟨_, rfl⟩
  have hk2 : Keeps (fun k => k = w.heap.size) w2 W2 := by rw [hW2]; exact keepsY_cell _
  have HXt : Hid (BxV W2 w.heap.size { m with va := a1, vn := n1, vc := c1, ka := a2, kc := c2 }) := by show BxV W2 _ _; rw [hW2]; exact HX2.out.set 4 _ (by decide) rfl
  have HZt : Hid (BxV W2 (w.heap.size + 1) mv0) := HZ2.out.lies hk2 (by omega)
  have HFt : Hid (Foot (fun k => k < w.heap.size + 2 ∨ (Value.slice a2 m.kn c2).ownBlock = some k) W2 (fun w => IsBytes w a1 n1 c1 m.v.val)) := HF2.out.step (Keeps.wider hk2 (fun k hk => by left; rw [hk]; omega)) (fun k hk => .inl hk)
  have hs12 : w.heap.size + 2 ≤ W1.heap.size := by rw [hsW1]; exact hw1
  have HOt : Hid (OwnY layT W2 (w.heap.size + 2) (.slice a2 m.kn c2) mb) := (HO2.out.mono hs12).lies (fun g hg => hk2.block g (HO2.out.lt g hg).2 (by have := (HO2.out.lt g hg).1; omega))
  have HBt : Hid (Below w.heap.size w W2) := by
    show Below w.heap.size w W2
    rw [hW2]
    exact (HBs.out.trans (HB2.out.mono (by omega))).setCell (p := ⟨w.heap.size, 4, none⟩) (Nat.le_refl _) _
  rw [← hW2]
  clear HXs HZs HFv HBs HX2 HZ2 HF2 HB2 HO2 b4 f4 hW2 hk2 HCt hsW1 hs12
  have b4 := HXt.out.x.2.2.2.2
  dsimp only at b4
  go_wp2
  go_loopw [15] (fun i wr => ∃ (k : Nat) (cur : List MB), k ≤ m.kn ∧ i = .int .i64 k ∧ cur.map MB.t = m.v.ks ∧ OwnY layT wr (w.heap.size + 2) (.slice a2 m.kn c2) cur ∧ (∀ j, j < k → Foot (fun k => k < w.heap.size + 2 ∨ (Value.slice a2 m.kn c2).ownBlock = some k) wr (fun w => (cur.getD j default).at w)) ∧ (∀ j, k ≤ j → cur.getD j default = mb.getD j default) ∧ BxV wr w.heap.size { m with va := a1, vn := n1, vc := c1, ka := a2, kc := c2 } ∧ BxV wr (w.heap.size + 1) mv0 ∧ Foot (fun k => k < w.heap.size + 2 ∨ (Value.slice a2 m.kn c2).ownBlock = some k) wr (fun w => IsBytes w a1 n1 c1 m.v.val) ∧ Below w.heap.size w wr) (fun i _ => m.kn - (intOf i).toNat)
  case atStart => exact ⟨0, mb, Nat.zero_le _, rfl, HMT.out, HOt.out, by intro j hj; omega, fun _ _ => rfl, HXt.out, HZt.out, HFt.out, HBt.out⟩
  case round =>
    obtain ⟨k, cur, hk, rfl, hE, hrow, hdone, hrest, hX, hZ, hFv, hb⟩ := hrel
    have HE := hide hE
    have HR := hide hrow
    have HDn := hide hdone
    have HRe := hide hrest
    have HX := hide hX
    have HZ := hide hZ
    have HFv := hide hFv
    have HB := hide hb
    have hgl := hX.lt
    have hzl := hZ.lt
    clear hE hrow hdone hrest hX hZ hFv hb HXt HZt HFt HOt HBt b4
    by_cases hlt : k < m.kn
    · obtain ⟨g, cap, e, hg1, hg2, -, -, hC, hfr⟩ : ∃ g cap, (Value.slice a2 m.kn c2) = .slice (some ⟨g, 0, none⟩) cur.length cap ∧ w.heap.size + 2 ≤ g ∧ g < wr.heap.size ∧ cur.length ≤ cap ∧ cap ≤ maxLen ∧ CellsY layT wr g 0 cur ∧ ∀ i, wr.frozen? ⟨g, i, none⟩ = false := by
        rcases HR.out.form with ⟨e, e0⟩ | h
        · have := HR.out.len.1; rw [e0] at this; simp at this; omega
        · exact h
      have hcl := HR.out.len.1
      have hga : a2 = some ⟨g, 0, none⟩ := by simp only [Value.slice.injEq] at e; exact e.1
      subst hga
      have hkc : k < cur.length := by rw [hcl]; exact hlt
      have hkl : k < mb.length := by rw [HMl.out]; exact hlt
      have hcx : cur[k]? = some (cur[k]'hkc) := List.getElem?_eq_getElem hkc
      have hmx : mb[k]? = some (mb[k]'hkl) := List.getElem?_eq_getElem hkl
      have HG : Hid (cur[k]'hkc = mb[k]'hkl) := by
        have := HRe.out k (Nat.le_refl _)
        rwa [getD_at hcx, getD_at hmx] at this
      have c4 : wr.cell? ⟨g, k, none⟩ = some (.slice (mb[k]'hkl).a (mb[k]'hkl).n (mb[k]'hkl).c) := by
        have := hC k _ hcx 0 _ rfl
        rw [HG.out] at this
        simpa [layT] using this
      have hmem : mb[k]'hkl ∈ mb := List.getElem_mem hkl
      have HOe := hide (HMA.out _ hmem)
      have HSz : Hid ((mb[k]'hkl).n ≤ 140737488355328) := by
        show _ ≤ _
        rw [← HOe.out.1]
        exact HF3.out _ (by rw [← HMT.out]; exact List.mem_map_of_mem hmem)
      have hf4 := hfr k
      have HCx := hide hcx
      rw [HG.out] at HCx
      clear hmem hC hfr e hcx hmx HG
      generalize mb[k]'hkl = me at *
      obtain ⟨mt, ma, mn, mc⟩ := me
      dsimp only at c4
      have HBe := hide ((IsBytes.keep HOe.out HB.out).keep (Below.refl _ wr).drew)
      have hne1 : ¬ g = w.heap.size := by omega
      have hne2 : ¬ w.heap.size = g := by omega
      have b4 : wr.cell? ⟨w.heap.size, 4, none⟩ = some (.slice (some ⟨g, 0, none⟩) m.kn c2) := HX.out.x.2.2.2.2
      have c4d : wr.drew.cell? ⟨g, k, none⟩ = some (.slice ma mn mc) := c4
      have b4d : wr.drew.cell? ⟨w.heap.size, 4, none⟩ = some (.slice (some ⟨g, 0, none⟩) m.kn c2) := b4
      have hkI : (k : Int) < (m.kn : Int) := by omega
      go_wp2_with fail
      go_region_with (first
        | (go_at_call 67; go_must (refine (cloneB_big ma mn mc mt _ HBe.out.src (by exact HSz.out)).mono ?_); rintro e w3 ⟨v3, rfl, hown3, hb3⟩; obtain ⟨a3, n3, d3, rfl, -⟩ := hown3.any; have c33 := (hb3.cell (p := ⟨g, k, none⟩) hg2).trans c4d; have hf33 := (hb3.frozen (p := ⟨g, k, none⟩) hg2).trans hf4; have b43 := (hb3.cell (p := ⟨w.heap.size, 4, none⟩) hgl).trans b4d; have HO3 := hide hown3; have HB3 := hide (below_undrew hb3); clear hown3 hb3))
      all_goals
        go_wp2
        go_roundw
        case rel =>
          have hsz3 := HB3.out.size
          have hgF : (Value.slice (some ⟨g, 0, none⟩) m.kn c2).ownBlock = some g := rfl
          have hk0 := keepsY_cell (w := w3) (g := g) (i := k) (.slice a3 n3 d3)
          have hk0' : Keeps (fun k => k < w.heap.size + 2 ∨ (Value.slice (some ⟨g, 0, none⟩) m.kn c2).ownBlock = some k) w3 (w3.setCell ⟨g, k, none⟩ (.slice a3 n3 d3)) := Keeps.wider hk0 (fun x hx => .inr (by rw [hgF, hx]))
          refine ⟨k + 1, cur.set k ⟨mt, a3, n3, d3⟩, by omega, by go_num, ?_, ?_, ?_, ?_, (HX.out.keep HB3.out).lies hk0 (by omega), (HZ.out.keep HB3.out).lies hk0 (by omega), (HFv.out.keep HB3.out).step hk0' (fun k hk => .inl hk), ?_⟩
          · rw [List.map_set, ← HE.out]
            apply List.ext_getElem?
            intro i
            by_cases hi : i = k
            · subst hi
              rw [List.getElem?_set_self (by rw [List.length_map]; omega), List.getElem?_map, HCx.out]; rfl
            · rw [List.getElem?_set_ne (fun e => hi e.symm)]
          · exact (HR.out.keep HB3.out).cell k 0 _ ⟨mt, a3, n3, d3⟩ (.slice a3 n3 d3) HCx.out (by decide) rfl k (by simp [layT])
          · intro j hj
            by_cases hjk : j = k
            · subst hjk
              have e : (cur.set j ⟨mt, a3, n3, d3⟩).getD j default = ⟨mt, a3, n3, d3⟩ := getD_at (List.getElem?_set_self (by omega))
              rw [e]
              have hf0 : Foot (fun k => k < wr.heap.size) w3 (fun w => IsBytes w a3 n3 d3 mt) := foot_own HO3.out HBe.out.2.2.2.1 (fun k hk => hk)
              exact (hf0.more (Y := fun k => k < w.heap.size + 2 ∨ (Value.slice (some ⟨g, 0, none⟩) m.kn c2).ownBlock = some k) (fun k hk => .inl (by rcases hk with hk | hk; omega; (rw [hgF] at hk; have := Option.some.inj hk; omega)))).step hk0' (fun k hk => .inl hk)
            · have e : (cur.set k ⟨mt, a3, n3, d3⟩).getD j default = cur.getD j default := by simp [List.getD, List.getElem?_set_ne (fun e => hjk e.symm)]
              rw [e]
              exact ((HDn.out j (by omega)).keep HB3.out).step hk0' (fun k hk => .inl hk)
          · intro j hj
            have e : (cur.set k ⟨mt, a3, n3, d3⟩).getD j default = cur.getD j default := by simp [List.getD, List.getElem?_set_ne (show k ≠ j by omega)]
            rw [e]
            exact HRe.out j (by omega)
          · exact (HB.out.trans (HB3.out.mono HB.out.size)).setCell (p := ⟨g, k, none⟩) (by show w.heap.size ≤ g; omega) _
        case measure => simp [intOf]; omega
    · have hkn : k = m.kn := by omega
      subst hkn
      have hld := HX.out.r
      obtain ⟨z0, z1, z2, z3, z4⟩ := HZ.out.x
      have hzf := HZ.out.fz
      go_wp2_with (first
        | (refine wp_loadY layV _ _ Try.underlying36 rfl rfl (.tmp 1) rfl w.heap.size 0 { m with va := a1, vn := n1, vc := c1, ka := a2, kc := c2 } #[.int .u64 m.v.ts, .int .u64 m.v.tx, .bool m.v.dd, .slice a1 n1 c1, .slice a2 m.kn c2] rfl rfl hld ?_))
      have hw3 := resV HZ.out.r HZ.out.fz { m with va := a1, vn := n1, vc := c1, ka := a2, kc := c2 }
      have r0 : (wr.setCells (w.heap.size + 1) 0 [.int .u64 m.v.ts, .int .u64 m.v.tx, .bool m.v.dd, .slice a1 n1 c1, .slice a2 m.kn c2]).cell? ⟨w.heap.size + 1, 0, none⟩ = _ := hw3 0 _ rfl
      have r1 : (wr.setCells (w.heap.size + 1) 0 [.int .u64 m.v.ts, .int .u64 m.v.tx, .bool m.v.dd, .slice a1 n1 c1, .slice a2 m.kn c2]).cell? ⟨w.heap.size + 1, 1, none⟩ = _ := hw3 1 _ rfl
      have r2 : (wr.setCells (w.heap.size + 1) 0 [.int .u64 m.v.ts, .int .u64 m.v.tx, .bool m.v.dd, .slice a1 n1 c1, .slice a2 m.kn c2]).cell? ⟨w.heap.size + 1, 2, none⟩ = _ := hw3 2 _ rfl
      have r3 : (wr.setCells (w.heap.size + 1) 0 [.int .u64 m.v.ts, .int .u64 m.v.tx, .bool m.v.dd, .slice a1 n1 c1, .slice a2 m.kn c2]).cell? ⟨w.heap.size + 1, 3, none⟩ = _ := hw3 3 _ rfl
      have r4 : (wr.setCells (w.heap.size + 1) 0 [.int .u64 m.v.ts, .int .u64 m.v.tx, .bool m.v.dd, .slice a1 n1 c1, .slice a2 m.kn c2]).cell? ⟨w.heap.size + 1, 4, none⟩ = _ := hw3 4 _ rfl
      have hk4 := keepsYs wr (w.heap.size + 1) 0 [.int .u64 m.v.ts, .int .u64 m.v.tx, .bool m.v.dd, .slice a1 n1 c1, .slice a2 m.kn c2]
      dsimp only at r0 r1 r2 r3 r4
      obtain ⟨W9, hW9⟩ : ∃ W9, W9 = wr.setCells (w.heap.size + 1) 0 [.int .u64 m.v.ts, .int .u64 m.v.tx, .bool m.v.dd, .slice a1 n1 c1, .slice a2 m.kn c2] := ⟨_, rfl⟩
      rw [← hW9] at r0 r1 r2 r3 r4 hk4
      have hW9' := hW9
      simp only [World.setCells, Nat.zero_add, Nat.reduceAdd] at hW9'
      rw [← hW9']
      have hk4' : Keeps (fun k => k < w.heap.size + 2) wr W9 := Keeps.wider hk4 (fun k hk => by rw [hk]; omega)
      refine bodyPost_ret (v := .agg #[.int .u64 m.v.ts, .int .u64 m.v.tx, .bool m.v.dd, .slice a1 n1 c1, .slice a2 m.kn c2]) (by simp [results, Try.results44, go_sem, r0, r1, r2, r3, r4]) rfl ?_
      refine ⟨{ m with va := a1, vn := n1, vc := c1, ka := a2, kc := c2 }, rfl, rfl, ?_, ?_⟩
      · have hX2 : ∀ k, k < w.heap.size + 2 → (k < w.heap.size + 2 ∨ (Value.slice a2 m.kn c2).ownBlock = some k) ∨ wr.heap.size ≤ k := fun k hk => .inl (.inl hk)
        have hall : ∀ x ∈ cur, Foot (fun k => k < w.heap.size + 2) wr (fun w => x.at w) := by
          intro x hx
          obtain ⟨j, hj, rfl⟩ := List.getElem_of_mem hx
          have h5 := HDn.out j (by rw [← HR.out.len.1]; exact hj)
          rw [getD_at (List.getElem?_eq_getElem hj)] at h5
          exact h5.more hX2
        have hout : Out (fun k => k < w.heap.size + 2) a2 m.kn := by
          rcases HR.out.form with ⟨e, _⟩ | ⟨g, cap, e, hg1, _⟩
          · simp only [Value.slice.injEq] at e; exact .inl e.2.1
          · simp only [Value.slice.injEq] at e; exact .inr (fun y hy hlt => by rw [e.1] at hy; cases hy; dsimp only at hlt; omega)
        have hft := foot_texts HR.out.is hout hall
        rw [HE.out] at hft
        exact ((HFv.out.more hX2).and hft).step hk4' (fun k hk => .inl (by omega))
      · exact HB.out.trans (hk4.below (B := w.heap.size) HB.out.size (fun k e => by omega))

end Go.Proofs.Ytjclcndcknnfhaa

namespace Go.Proofs.Ytjclcndcknnfhaa
open Go.RowKit NumMath Go.ChangeShapes Go.WideShapes Go.Deep
set_option linter.unusedVariables false
set_option maxRecDepth 100000

theorem cloneV_any (a : Option Addr) (n c : Nat) (ms : List MV) (w : World) (hs : SrcY layV w a n ms) (hbig : n ≤ 1000000) :
    Calls Try.prog 66 #[.slice a n c] w fun e w' => ∃ v, e = .returned v ∧ OwnY layV w' w.heap.size v ms ∧ Below w.heap.size w w' := by
  have HS := hide hs
  have hl := hs.1
  cases a with
  | none =>
    have h0 : n = 0 := by
      rcases hs.2 with h | ⟨g, off, h, _⟩
      · exact h
      · cases h
    have hm : ms = [] := List.length_eq_zero_iff.1 (by omega)
    subst hm
    subst h0
    clear hs
    have hnil : ∀ w, (binOp .eql 50 (.slice none 0 c) (.slice none 0 0)).run Try.prog w = .ok (.bool true) w := fun w => Lib.run_eql_slice_nil w 50 36 none 0 c 0 0 Try.underlying50
    go_enter Try.func66, Try.ntmps66
    go_wp2
    go_ret
    exact ⟨_, rfl, ownY_nil _ _, Below.refl _ _⟩
  | some x =>
    have hb : 0 + ms.length ≤ 1000000000 := by omega
    clear hs
    have hnil : ∀ w, (binOp .eql 50 (.slice (some x) n c) (.slice none 0 0)).run Try.prog w = .ok (.bool false) w := fun w => Lib.run_eql_slice_nil w 50 36 (some x) n c 0 0 Try.underlying50
    go_enter Try.func66, Try.ntmps66
    go_wp2_with (first
      | (at_builtin; go_must (refine wp_joinY layV _ rfl (.tmp 5) (.tmp 6) rfl w.heap.size _ [] rfl (ownY_empty w _ (Nat.le_refl _)) (some x) n c ms rfl (HS.out.keep (new_below _ _)) hb (by simp) ?_); intro v1 w1 hown1 hg1 _))
    go_ret
    refine ⟨v1, rfl, by simpa using hown1, ?_⟩
    exact (new_below _ _).trans (OwnY.grown (ownY_empty (L := layV) w _ (Nat.le_refl _)) hg1 (by simp))

/-- a version in the place of another -/
theorem OwnY.setV {w : World} {base g n cap : Nat} {ms : List MV} (h : OwnY layV w base (.slice (some ⟨g, 0, none⟩) n cap) ms) {i : Nat} {m : MV} (hi : ms[i]? = some m) (mi : MV) : OwnY layV (w.setCells g (i * 5) (layV.cells mi)) base (.slice (some ⟨g, 0, none⟩) n cap) (ms.set i mi) := by
  have hlt := (List.getElem?_eq_some_iff.1 hi).1
  have g0 : ∀ (x : MV), (ms.set i x)[i]? = some x := fun x => List.getElem?_set_self hlt
  have h1 := h.cell i 0 m { m with v := { m.v with ts := mi.v.ts } } (.int .u64 mi.v.ts) hi (by show 0 < 5; decide) rfl (i * 5) rfl
  have h2 := h1.cell i 1 _ { m with v := { m.v with ts := mi.v.ts, tx := mi.v.tx } } (.int .u64 mi.v.tx) (g0 _) (by show 1 < 5; decide) rfl (i * 5 + 1) rfl
  rw [List.set_set] at h2
  have h3 := h2.cell i 2 _ { m with v := { m.v with ts := mi.v.ts, tx := mi.v.tx, dd := mi.v.dd } } (.bool mi.v.dd) (g0 _) (by show 2 < 5; decide) rfl (i * 5 + 2) rfl
  rw [List.set_set] at h3
  have h4 := h3.cell i 3 _ { m with v := { m.v with ts := mi.v.ts, tx := mi.v.tx, dd := mi.v.dd }, va := mi.va, vn := mi.vn, vc := mi.vc } (.slice mi.va mi.vn mi.vc) (g0 _) (by show 3 < 5; decide) rfl (i * 5 + 3) rfl
  rw [List.set_set] at h4
  have h5 := h4.cell i 4 _ mi (.slice mi.ka mi.kn mi.kc) (g0 _) (by show 4 < 5; decide) rfl (i * 5 + 4) rfl
  rw [List.set_set] at h5
  exact h5

/-- copies of versions: the list, and what their data hang on -/
structure CopiesPost (w : World) (ms : List MV) (w' : World) (v : Value) (ms' : List MV) : Prop where
  eq : ms'.map MV.v = ms.map MV.v
  own : OwnY layV w' w.heap.size v ms'
  ok : ∀ m ∈ ms', Foot (fun k => k < w.heap.size ∨ v.ownBlock = some k) w' (fun w => m.at w)
  b : Below w.heap.size w w'

theorem map_set_same {α β : Type} {f : α → β} {l : List α} {i : Nat} {x y : α} (h : l[i]? = some x) (e : f y = f x) : (l.set i y).map f = l.map f := by
  rw [List.map_set]
  apply List.ext_getElem?
  intro j
  by_cases hj : j = i
  · subst hj
    rw [List.getElem?_set_self (by rw [List.length_map]; exact (List.getElem?_eq_some_iff.1 h).1), List.getElem?_map, h, e]; rfl
  · rw [List.getElem?_set_ne (fun e => hj e.symm)]

set_option maxHeartbeats 4000000 in
theorem copies_any (a : Option Addr) (n c : Nat) (ms : List MV) (w : World) (h : IsY layV w a n c ms) (ha : ∀ m ∈ ms, m.at w) (hf : ∀ m ∈ ms, FitV m.v) (hbig : n ≤ 1000000) :
    Calls Try.prog 43 #[.slice a n c] w fun e w' => ∃ v ms', e = .returned v ∧ CopiesPost w ms w' v ms' := by
  have HCl := hide (cloneV_any a n c ms w h.src hbig)
  have HL := hide h.1
  have HA := hide ha
  have HF := hide hf
  clear h ha hf
  go_enter Try.func43, Try.ntmps43
  go_wp2_with (first
    | (go_at_call 66; go_must (refine HCl.out.mono ?_); rintro e w1 ⟨v1, rfl, hO1, hb1⟩; obtain ⟨a1, n1, c1, rfl⟩ := hO1.any3; have HO1 := hide hO1; have HB1 := hide hb1; clear hO1 hb1))
  have hn1 : n1 = n := by rw [← HO1.out.len.1]; exact HL.out
  subst hn1
  clear HCl
  go_loopw [8] (fun i wr => ∃ (k : Nat) (cur : List MV), k ≤ n1 ∧ i = .int .i64 k ∧ cur.map MV.v = ms.map MV.v ∧ OwnY layV wr w.heap.size (.slice a1 n1 c1) cur ∧ (∀ j m, j < k → cur[j]? = some m → Foot (fun k => k < w.heap.size ∨ (Value.slice a1 n1 c1).ownBlock = some k) wr (fun w => m.at w)) ∧ (∀ j, k ≤ j → cur[j]? = ms[j]?) ∧ Below w.heap.size w wr) (fun i _ => n1 - (intOf i).toNat)
  case atStart => exact ⟨0, ms, Nat.zero_le _, rfl, rfl, HO1.out, by intro j m hj; omega, fun _ _ => rfl, HB1.out⟩
  case round =>
    obtain ⟨k, cur, hk, rfl, hE, hrow, hdone, hrest, hb⟩ := hrel
    have HE := hide hE
    have HR := hide hrow
    have HDn := hide hdone
    have HRe := hide hrest
    have HB := hide hb
    clear hE hrow hdone hrest hb HO1 HB1
    by_cases hlt : k < n1
    · obtain ⟨g, cap, e, hg1, hg2, -, -, hC, hfr⟩ : ∃ g cap, (Value.slice a1 n1 c1) = .slice (some ⟨g, 0, none⟩) cur.length cap ∧ w.heap.size ≤ g ∧ g < wr.heap.size ∧ cur.length ≤ cap ∧ cap ≤ maxLen ∧ CellsY layV wr g 0 cur ∧ ∀ i, wr.frozen? ⟨g, i, none⟩ = false := by
        rcases HR.out.form with ⟨e, e0⟩ | h
        · have := HR.out.len.1; rw [e0] at this; simp at this; omega
        · exact h
      have hcl := HR.out.len.1
      have hga : a1 = some ⟨g, 0, none⟩ := by simp only [Value.slice.injEq] at e; exact e.1
      subst hga
      have hkl : k < ms.length := by rw [HL.out]; exact hlt
      obtain ⟨me, hme⟩ : ∃ me, ms[k]? = some me := ⟨_, List.getElem?_eq_getElem hkl⟩
      have HCx : Hid (cur[k]? = some me) := by show _ = _; rw [HRe.out k (Nat.le_refl _)]; exact hme
      have hcells : wr.rangeAt g (k * 5) (layV.cells me) := by have := hC k _ HCx.out; rw [Nat.zero_add] at this; exact this
      have hmem : me ∈ ms := List.mem_of_getElem? hme
      have HOe := hide ((HA.out _ hmem).keep HB.out)
      have HCp := hide (copyOf_any me wr HOe.out (HF.out _ hmem))
      have HCr : Hid (∀ W, Below wr.heap.size wr W → W.rangeAt g (k * 5) (layV.cells me)) := fun W hW => rangeY_same hcells (hW.block g hg2)
      have HFr : Hid (∀ W, Below wr.heap.size wr W → ∀ j, W.frozen? ⟨g, j, none⟩ = false) := fun W hW j => (hW.frozen (p := ⟨g, j, none⟩) hg2).trans (hfr j)
      obtain ⟨x0, x1, x2, x3, x4⟩ := rangeV hcells
      have hkI : (k : Int) < (n1 : Int) := by omega
      clear hmem hC hfr e hme hcells
      go_wp2_with (first
        | (go_at_call 44; go_must (refine HCp.out.mono ?_); rintro e w3 ⟨m3, rfl, hv3, hF3, hb3⟩; obtain ⟨y0, y1, y2, y3, y4⟩ := rangeV (HCr.out _ hb3); have hfz := HFr.out _ hb3; have HV3 := hide hv3; have HF3 := hide hF3; have HB3 := hide hb3; clear hv3 hF3 hb3))
      go_roundw
      case rel =>
        have hsz3 := HB3.out.size
        have hgF : (Value.slice (some ⟨g, 0, none⟩) n1 c1).ownBlock = some g := rfl
        have hk0 := keepsYs w3 g (k * 5) (layV.cells m3)
        have hk0' : Keeps (fun k => k < w.heap.size ∨ (Value.slice (some ⟨g, 0, none⟩) n1 c1).ownBlock = some k) w3 (w3.setCells g (k * 5) (layV.cells m3)) := Keeps.wider hk0 (fun x hx => .inr (by rw [hgF, hx]))
        refine ⟨k + 1, cur.set k m3, by omega, by go_num, (map_set_same HCx.out HV3.out).trans HE.out, ?_, ?_, ?_, ?_⟩
        · exact (HR.out.keep HB3.out).setV HCx.out m3
        · intro j m hj hm
          by_cases hjk : j = k
          · subst hjk
            rw [List.getElem?_set_self (by omega)] at hm
            cases hm
            exact (HF3.out.more (Y := fun k => k < w.heap.size ∨ (Value.slice (some ⟨g, 0, none⟩) n1 c1).ownBlock = some k) (fun k hk => .inl (by rcases hk with hk | hk; (have := HB.out.size; omega); (rw [hgF] at hk; have := Option.some.inj hk; omega)))).step hk0' (fun k hk => .inl hk)
          · rw [List.getElem?_set_ne (fun e => hjk e.symm)] at hm
            exact ((HDn.out j m (by omega) hm).keep HB3.out).step hk0' (fun k hk => .inl hk)
        · intro j hj
          rw [List.getElem?_set_ne (by omega)]
          exact HRe.out j (by omega)
        · exact (HB.out.trans (HB3.out.mono HB.out.size)).trans (hk0.below (B := w.heap.size) (by have := HB.out.size; omega) (fun x hx => by rw [hx]; exact hg1))
      case measure => simp [intOf]; omega
    · have hkn : k = n1 := by omega
      subst hkn
      go_wp2
      go_ret
      refine ⟨_, cur, rfl, HE.out, HR.out, fun m hm => ?_, HB.out⟩
      obtain ⟨j, hj, rfl⟩ := List.getElem_of_mem hm
      exact HDn.out j _ (by rw [← HR.out.len.1]; exact hj) (List.getElem?_eq_getElem hj)

end Go.Proofs.Ytjclcndcknnfhaa
