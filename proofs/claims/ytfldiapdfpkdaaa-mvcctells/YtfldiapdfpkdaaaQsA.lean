/- What hangs on some blocks alone; a version's data in memory; clones of lists of texts; clones of versions. -/
import Derived.Test.YtfldiapdfpkdaaaFtA
import Derived.Test.YtfldiapdfpkdaaaMvG
import Derived.Test.YtfldiapdfpkdaaaBigB
import Derived.Test.YtfldiapdfpkdaaaGnA
import Derived.Test.YtfldiapdfpkdaaaMw1
namespace Go.Proofs.Ytfldiapdfpkdaaa
open Go.RowKit NumMath Go.ChangeShapes Go.WideShapes Go.Deep
set_option linter.unusedVariables false
set_option maxRecDepth 100000

/-- bytes of a text in memory -/
def MB.at (w : World) (m : MB) : Prop := IsBytes w m.a m.n m.c m.t

theorem MB.at.keep {w w' : World} {m : MB} (h : m.at w) (hb : Below w.heap.size w w') : m.at w' := IsBytes.keep h hb

instance : Inhabited MB := ⟨⟨[], none, 0, 0⟩⟩

/-- a list of texts, text by text -/
theorem IsTexts.mbs {w : World} {a : Option Addr} {n c : Nat} {ts : List (List Int)} (h : IsTexts w a n c ts) : ∃ ms : List MB, ms.map MB.t = ts ∧ IsY layT w a n c ms ∧ ∀ m ∈ ms, m.at w := by
  obtain ⟨h1, h2, h3, h5⟩ := h
  rcases h5 with h5 | ⟨g, off, rfl, hg, hT⟩
  · have : ts = [] := List.length_eq_zero_iff.1 (by omega)
    subst this
    exact ⟨[], rfl, ⟨h1, h2, h3, .inl h5⟩, by simp⟩
  · have each : ∀ i, i < n → ∃ m : MB, w.cell? ⟨g, off + i, none⟩ = some (.slice m.a m.n m.c) ∧ m.t = ts.getD i [] ∧ m.at w := by
      intro i hi
      obtain ⟨b, k, d, e1, e2⟩ := hT i (by omega)
      exact ⟨⟨ts.getD i [], b, k, d⟩, e1, rfl, e2⟩
    obtain ⟨M, hM⟩ := choose_lt each
    have hl : ((List.range n).map M).length = n := by simp
    refine ⟨(List.range n).map M, ?_, ⟨hl, h2, h3, .inr ⟨g, off, rfl, hg, ?_⟩⟩, ?_⟩
    · apply List.ext_getElem (by simp [h1])
      intro i hi1 hi2
      simp at hi1
      simp [(hM i hi1).2.1, List.getD, List.getElem?_eq_getElem hi2]
    · intro i x hx j u hu
      rw [List.getElem?_map] at hx
      have hi : i < n := by
        rcases Nat.lt_or_ge i n with h | h
        · exact h
        · rw [List.getElem?_eq_none (by simpa using h)] at hx; cases hx
      rw [List.getElem?_range hi] at hx
      cases hx
      have hj : j = 0 := by
        have := (List.getElem?_eq_some_iff.1 hu).1
        simp [layT] at this
        omega
      subst hj
      have hu2 : u = .slice (M i).a (M i).n (M i).c := by simpa [layT] using hu.symm
      rw [hu2]
      have := (hM i hi).1
      simpa [layT] using this
    · intro m hm
      obtain ⟨i, hi, rfl⟩ := List.mem_map.1 hm
      exact (hM i (List.mem_range.1 hi)).2.2

/-- .. and back -/
theorem texts_of {w : World} {a : Option Addr} {n c : Nat} {ms : List MB} (h : IsY layT w a n c ms) (ha : ∀ m ∈ ms, m.at w) : IsTexts w a n c (ms.map MB.t) := by
  obtain ⟨h1, h2, h3, h5⟩ := h
  refine ⟨by rw [List.length_map]; exact h1, h2, h3, ?_⟩
  rcases h5 with h5 | ⟨g, off, rfl, hg, hC⟩
  · exact .inl h5
  · refine .inr ⟨g, off, rfl, hg, fun i hi => ?_⟩
    rw [List.length_map] at hi
    have hx : ms[i]? = some ms[i] := List.getElem?_eq_getElem hi
    have h0 := hC i _ hx 0 _ rfl
    refine ⟨_, _, _, by simpa [layT] using h0, ?_⟩
    have e : (ms.map MB.t).getD i [] = ms[i].t := by simp [List.getD, List.getElem?_eq_getElem hi]
    rw [e]
    exact ha _ (List.getElem_mem hi)

/-- a list of texts that hangs on blocks that are none of X alone -/
theorem foot_texts {X : Nat → Prop} {w : World} {a : Option Addr} {n c : Nat} {ms : List MB} (h : IsY layT w a n c ms) (ho : Out X a n) (ha : ∀ m ∈ ms, Foot X w m.at) : Foot X w (fun w => IsTexts w a n c (ms.map MB.t)) := by
  have hY : Foot X w (fun w => IsY layT w a n c ms) := by
    obtain ⟨h1, h2, h3, h5⟩ := h
    rcases h5 with h5 | ⟨g, off, rfl, hg, hC⟩
    · exact foot_pure (fun w' => ⟨h1, h2, h3, .inl h5⟩)
    · rcases ho with ho | ho
      · exact foot_pure (fun w' => ⟨h1, h2, h3, .inl ho⟩)
      · exact ⟨fun k => k = g, fun k hk => by subst hk; exact ⟨hg, ho _ rfl⟩, fun w' hs hb => ⟨h1, h2, h3, .inr ⟨g, off, rfl, Nat.lt_of_lt_of_le hg hs, hC.same (hb g rfl)⟩⟩⟩
  have hA : Foot X w (fun w => ∀ m ∈ ms, m.at w) := by
    clear h hY
    induction ms with
    | nil => exact foot_pure (fun w' => by simp)
    | cons m r ih => exact ((ha m (by simp)).and (ih (fun x hx => ha x (by simp [hx])))).imp (fun w' h => by simpa using h)
  exact (hY.and hA).imp (fun w' h => texts_of h.1 h.2)

/-- a version that is not too great to be copied -/
def FitV (v : Ver) : Prop := v.val.length ≤ 140737488355328 ∧ v.ks.length ≤ 1000 ∧ ∀ k ∈ v.ks, k.length ≤ 140737488355328

theorem fitV0 : FitV ver0 := ⟨by simp [ver0], by simp [ver0], by simp [ver0]⟩

theorem mv0_foot (X : Nat → Prop) (w : World) : Foot X w (fun w => mv0.at w) := foot_pure (fun w' => mv0_ok w')

theorem cloneT_any (a : Option Addr) (n c : Nat) (ms : List MB) (w : World) (hs : SrcY layT w a n ms) (hbig : n ≤ 100000) :
    Calls Try.prog 84 #[.slice a n c] w fun e w' => ∃ v, e = .returned v ∧ OwnY layT w' w.heap.size v ms ∧ Below w.heap.size w w' := by
  have HS := hide hs
  have hl := hs.1
  cases a with
  | none =>
    have h0 : n = 0 := by
      rcases hs.2 with h | ⟨g, off, h, _⟩
      · exact h
      · cases h
    have hm : ms = [] := List.length_eq_zero_iff.1 (by omega)
    subst hm
    subst h0
    clear hs
    have hnil : ∀ w, (binOp .eql 34 (.slice none 0 c) (.slice none 0 0)).run Try.prog w = .ok (.bool true) w := fun w => Lib.run_eql_slice_nil w 34 23 none 0 c 0 0 Try.underlying34
    go_enter Try.func84, Try.ntmps84
    go_wp2
    go_ret
    exact ⟨_, rfl, ownY_nil _ _, Below.refl _ _⟩
  | some x =>
    have hb : 0 + ms.length ≤ 1000000000 := by omega
    clear hs
    have hnil : ∀ w, (binOp .eql 34 (.slice (some x) n c) (.slice none 0 0)).run Try.prog w = .ok (.bool false) w := fun w => Lib.run_eql_slice_nil w 34 23 (some x) n c 0 0 Try.underlying34
    go_enter Try.func84, Try.ntmps84
    go_wp2_with (first
      | (at_builtin; go_must (refine wp_joinY layT _ rfl (.tmp 5) (.tmp 6) rfl w.heap.size _ [] rfl (ownY_empty w _ (Nat.le_refl _)) (some x) n c ms rfl (HS.out.keep (new_below _ _)) hb (by simp) ?_); intro v1 w1 hown1 hg1 _))
    go_ret
    refine ⟨v1, rfl, by simpa using hown1, ?_⟩
    exact (new_below _ _).trans (OwnY.grown (ownY_empty (L := layT) w _ (Nat.le_refl _)) hg1 (by simp))

end Go.Proofs.Ytfldiapdfpkdaaa

namespace Go.Proofs.Ytfldiapdfpkdaaa
open Go.RowKit NumMath Go.ChangeShapes Go.WideShapes Go.Deep
set_option linter.unusedVariables false
set_option maxRecDepth 100000

/-- a version in a block of its own -/
structure BxV (w : World) (N : Nat) (m : MV) : Prop where
  r : w.rangeAt N 0 (layV.cells m)
  lt : N < w.heap.size
  fz : ∀ j, w.frozen? ⟨N, j, none⟩ = false

theorem bxV_new (w : World) (m : MV) (N : Nat) (hN : w.heap.size = N) : BxV (w.alloc (.cells #[.int .u64 m.v.ts, .int .u64 m.v.tx, .bool m.v.dd, .slice m.va m.vn m.vc, .slice m.ka m.kn m.kc] 36)) N m := by
  subst hN
  exact ⟨rangeY_new w w.heap.size _ _ rfl, by simp, fun j => fzY_new w _ _ j⟩

theorem BxV.keep {w w' : World} {N : Nat} {m : MV} (h : BxV w N m) (hb : Below w.heap.size w w') : BxV w' N m := ⟨rangeY_same h.r (hb.block N h.lt), Nat.lt_of_lt_of_le h.lt hb.size, fun j => (hb.frozen (p := ⟨N, j, none⟩) h.lt).trans (h.fz j)⟩

theorem BxV.lies {w w' : World} {N : Nat} {m : MV} {M : Nat → Prop} (h : BxV w N m) (hk : Keeps M w w') (hn : ¬ M N) : BxV w' N m := ⟨rangeY_same h.r (hk.block N h.lt hn), Nat.lt_of_lt_of_le h.lt hk.size, fun j => (World.frozen?_of_block (a := ⟨N, j, none⟩) (hk.block N h.lt hn)).trans (h.fz j)⟩

theorem BxV.set {w : World} {N : Nat} {m m' : MV} (h : BxV w N m) (i : Nat) (v : Value) (hi : i < 5) (e : layV.cells m' = (layV.cells m).set i v) : BxV (w.setCell ⟨N, i, none⟩ v) N m' := by
  refine ⟨?_, by have := h.lt; simpa [World.setCell] using this, fun j => by rw [World.frozen?_setCell]; exact h.fz j⟩
  rw [e]
  exact range_set h.r (by rw [layV.len]; exact hi)

theorem BxV.x {w : World} {N : Nat} {m : MV} (h : BxV w N m) : w.cell? ⟨N, 0, none⟩ = some (.int .u64 m.v.ts) ∧ w.cell? ⟨N, 1, none⟩ = some (.int .u64 m.v.tx) ∧ w.cell? ⟨N, 2, none⟩ = some (.bool m.v.dd) ∧ w.cell? ⟨N, 3, none⟩ = some (.slice m.va m.vn m.vc) ∧ w.cell? ⟨N, 4, none⟩ = some (.slice m.ka m.kn m.kc) :=
  ⟨h.r 0 _ rfl, h.r 1 _ rfl, h.r 2 _ rfl, h.r 3 _ rfl, h.r 4 _ rfl⟩

theorem BxV.there {w : World} {N : Nat} {m : MV} (h : BxV w N m) : w.there N 0 5 := by
  intro j hj
  have : j = 0 ∨ j = 1 ∨ j = 2 ∨ j = 3 ∨ j = 4 := by omega
  obtain ⟨x0, x1, x2, x3, x4⟩ := h.x
  rcases this with rfl | rfl | rfl | rfl | rfl
  · exact ⟨by rw [x0]; rfl, h.fz _⟩
  · exact ⟨by rw [x1]; rfl, h.fz _⟩
  · exact ⟨by rw [x2]; rfl, h.fz _⟩
  · exact ⟨by rw [x3]; rfl, h.fz _⟩
  · exact ⟨by rw [x4]; rfl, h.fz _⟩

def CopyPost (w : World) (m : MV) (e : Ending) (w' : World) : Prop :=
  ∃ m' : MV, e = .returned (.agg #[.int .u64 m'.v.ts, .int .u64 m'.v.tx, .bool m'.v.dd, .slice m'.va m'.vn m'.vc, .slice m'.ka m'.kn m'.kc]) ∧ m'.v = m.v ∧ Foot (fun k => k < w.heap.size) w' (fun w => m'.at w) ∧ Below w.heap.size w w'

theorem getD_at {α : Type} {l : List α} {k : Nat} {d x : α} (h : l[k]? = some x) : l.getD k d = x := by simp [List.getD, h]

end Go.Proofs.Ytfldiapdfpkdaaa

namespace Go.Proofs.Ytfldiapdfpkdaaa
open Go.RowKit NumMath Go.ChangeShapes Go.WideShapes Go.Deep
set_option linter.unusedVariables false
set_option maxRecDepth 100000

theorem cloneV_any (a : Option Addr) (n c : Nat) (ms : List MV) (w : World) (hs : SrcY layV w a n ms) (hbig : n ≤ 1000000) :
    Calls Try.prog 69 #[.slice a n c] w fun e w' => ∃ v, e = .returned v ∧ OwnY layV w' w.heap.size v ms ∧ Below w.heap.size w w' := by
  have HS := hide hs
  have hl := hs.1
  cases a with
  | none =>
    have h0 : n = 0 := by
      rcases hs.2 with h | ⟨g, off, h, _⟩
      · exact h
      · cases h
    have hm : ms = [] := List.length_eq_zero_iff.1 (by omega)
    subst hm
    subst h0
    clear hs
    have hnil : ∀ w, (binOp .eql 50 (.slice none 0 c) (.slice none 0 0)).run Try.prog w = .ok (.bool true) w := fun w => Lib.run_eql_slice_nil w 50 36 none 0 c 0 0 Try.underlying50
    go_enter Try.func69, Try.ntmps69
    go_wp2
    go_ret
    exact ⟨_, rfl, ownY_nil _ _, Below.refl _ _⟩
  | some x =>
    have hb : 0 + ms.length ≤ 1000000000 := by omega
    clear hs
    have hnil : ∀ w, (binOp .eql 50 (.slice (some x) n c) (.slice none 0 0)).run Try.prog w = .ok (.bool false) w := fun w => Lib.run_eql_slice_nil w 50 36 (some x) n c 0 0 Try.underlying50
    go_enter Try.func69, Try.ntmps69
    go_wp2_with (first
      | (at_builtin; go_must (refine wp_joinY layV _ rfl (.tmp 5) (.tmp 6) rfl w.heap.size _ [] rfl (ownY_empty w _ (Nat.le_refl _)) (some x) n c ms rfl (HS.out.keep (new_below _ _)) hb (by simp) ?_); intro v1 w1 hown1 hg1 _))
    go_ret
    refine ⟨v1, rfl, by simpa using hown1, ?_⟩
    exact (new_below _ _).trans (OwnY.grown (ownY_empty (L := layV) w _ (Nat.le_refl _)) hg1 (by simp))

/-- a version in the place of another -/
theorem OwnY.setV {w : World} {base g n cap : Nat} {ms : List MV} (h : OwnY layV w base (.slice (some ⟨g, 0, none⟩) n cap) ms) {i : Nat} {m : MV} (hi : ms[i]? = some m) (mi : MV) : OwnY layV (w.setCells g (i * 5) (layV.cells mi)) base (.slice (some ⟨g, 0, none⟩) n cap) (ms.set i mi) := by
  have hlt := (List.getElem?_eq_some_iff.1 hi).1
  have g0 : ∀ (x : MV), (ms.set i x)[i]? = some x := fun x => List.getElem?_set_self hlt
  have h1 := h.cell i 0 m { m with v := { m.v with ts := mi.v.ts } } (.int .u64 mi.v.ts) hi (by show 0 < 5; decide) rfl (i * 5) rfl
  have h2 := h1.cell i 1 _ { m with v := { m.v with ts := mi.v.ts, tx := mi.v.tx } } (.int .u64 mi.v.tx) (g0 _) (by show 1 < 5; decide) rfl (i * 5 + 1) rfl
  rw [List.set_set] at h2
  have h3 := h2.cell i 2 _ { m with v := { m.v with ts := mi.v.ts, tx := mi.v.tx, dd := mi.v.dd } } (.bool mi.v.dd) (g0 _) (by show 2 < 5; decide) rfl (i * 5 + 2) rfl
  rw [List.set_set] at h3
  have h4 := h3.cell i 3 _ { m with v := { m.v with ts := mi.v.ts, tx := mi.v.tx, dd := mi.v.dd }, va := mi.va, vn := mi.vn, vc := mi.vc } (.slice mi.va mi.vn mi.vc) (g0 _) (by show 3 < 5; decide) rfl (i * 5 + 3) rfl
  rw [List.set_set] at h4
  have h5 := h4.cell i 4 _ mi (.slice mi.ka mi.kn mi.kc) (g0 _) (by show 4 < 5; decide) rfl (i * 5 + 4) rfl
  rw [List.set_set] at h5
  exact h5

/-- copies of versions: the list, and what their data hang on -/
structure CopiesPost (w : World) (ms : List MV) (w' : World) (v : Value) (ms' : List MV) : Prop where
  eq : ms'.map MV.v = ms.map MV.v
  own : OwnY layV w' w.heap.size v ms'
  ok : ∀ m ∈ ms', Foot (fun k => k < w.heap.size ∨ v.ownBlock = some k) w' (fun w => m.at w)
  b : Below w.heap.size w w'

theorem map_set_same {α β : Type} {f : α → β} {l : List α} {i : Nat} {x y : α} (h : l[i]? = some x) (e : f y = f x) : (l.set i y).map f = l.map f := by
  rw [List.map_set]
  apply List.ext_getElem?
  intro j
  by_cases hj : j = i
  · subst hj
    rw [List.getElem?_set_self (by rw [List.length_map]; exact (List.getElem?_eq_some_iff.1 h).1), List.getElem?_map, h, e]; rfl
  · rw [List.getElem?_set_ne (fun e => hj e.symm)]

end Go.Proofs.Ytfldiapdfpkdaaa
