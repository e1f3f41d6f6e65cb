/- What hangs on some blocks alone (Foot); slices that lie in none of some blocks (Out); frames one behind the other (kpThen). -/
import Derived.Test.YtcgiicmmfleinaaGreatDoorGnA
import Derived.Deep.Upon
namespace Go.Proofs.YtcgiicmmfleinaaGreatDoor
open Go.RowKit NumMath Go.ChangeShapes Go.WideShapes Go.Deep
set_option linter.unusedVariables false
set_option maxRecDepth 100000

/-- a slice that lies in none of the blocks X -/
def Out (X : Nat → Prop) (a : Option Addr) (n : Nat) : Prop := n = 0 ∨ ∀ y, a = some y → ¬ X y.block

theorem isB_blk {w : World} {a : Option Addr} {n c : Nat} {xs : List Int} (h : IsBytes w a n c xs) : n = 0 ∨ ∀ y, a = some y → y.block < w.heap.size := by
  by_cases h0 : n = 0
  · exact .inl h0
  · obtain ⟨g, off, rfl, hg, _⟩ := h.at (k := 0) (by omega)
    exact .inr (fun y hy => by cases hy; exact hg)

theorem isY_blk {α : Type} {L : Lay α} {w : World} {a : Option Addr} {n c : Nat} {xs : List α} (h : IsY L w a n c xs) : n = 0 ∨ ∀ y, a = some y → y.block < w.heap.size := by
  by_cases h0 : n = 0
  · exact .inl h0
  · obtain ⟨g, off, rfl, hg, _⟩ := h.at (j := 0) (by omega)
    exact .inr (fun y hy => by cases hy; exact hg)

theorem Out.more {X Y : Nat → Prop} {a : Option Addr} {n N : Nat} (h : Out X a n) (hb : n = 0 ∨ ∀ y, a = some y → y.block < N) (hY : ∀ k, Y k → X k ∨ N ≤ k) : Out Y a n := by
  rcases h with h | h
  · exact .inl h
  · rcases hb with hb | hb
    · exact .inl hb
    · refine .inr (fun y hy hk => ?_)
      rcases hY _ hk with h1 | h1
      · exact h y hy h1
      · have := hb y hy; omega

theorem Keeps.wider {X Y : Nat → Prop} {w w' : World} (h : Keeps X w w') (hy : ∀ k, X k → Y k) : Keeps Y w w' := ⟨h.os, h.tape, h.output, h.size, fun g hg hn => h.block g hg (fun e => hn (hy g e))⟩

/-- P holds, and hangs on blocks alone that are none of X -/
def Foot (X : Nat → Prop) (w : World) (P : World → Prop) : Prop :=
  ∃ B : Nat → Prop, (∀ k, B k → k < w.heap.size ∧ ¬ X k) ∧ ∀ w' : World, w.heap.size ≤ w'.heap.size → (∀ k, B k → w'.heap[k]? = w.heap[k]?) → P w'

theorem Foot.now {X : Nat → Prop} {w : World} {P : World → Prop} (h : Foot X w P) : P w := by
  obtain ⟨B, _, h2⟩ := h
  exact h2 w (Nat.le_refl _) (fun _ _ => rfl)

/-- behind a call that changes X alone; Y may have new blocks besides -/
theorem Foot.step {X Y : Nat → Prop} {w w' : World} {P : World → Prop} (h : Foot X w P) (hk : Keeps X w w') (hY : ∀ k, Y k → X k ∨ w.heap.size ≤ k) : Foot Y w' P := by
  obtain ⟨B, h1, h2⟩ := h
  refine ⟨B, fun k hb => ⟨Nat.lt_of_lt_of_le (h1 k hb).1 hk.size, fun hy => ?_⟩, fun w'' hs hb => h2 w'' (Nat.le_trans hk.size hs) (fun k hk2 => (hb k hk2).trans (hk.block k (h1 k hk2).1 (h1 k hk2).2))⟩
  rcases hY k hy with h3 | h3
  · exact (h1 k hb).2 h3
  · have := (h1 k hb).1; omega

theorem Foot.keep {X : Nat → Prop} {w w' : World} {P : World → Prop} (h : Foot X w P) (hb : Below w.heap.size w w') : Foot X w' P := h.step (Below.keeps hb X) (fun k hk => .inl hk)

theorem Foot.more {X Y : Nat → Prop} {w : World} {P : World → Prop} (h : Foot X w P) (hY : ∀ k, Y k → X k ∨ w.heap.size ≤ k) : Foot Y w P := h.step (Below.keeps (Below.refl _ w) X) hY

theorem Foot.and {X : Nat → Prop} {w : World} {P Q : World → Prop} (h : Foot X w P) (k : Foot X w Q) : Foot X w (fun w => P w ∧ Q w) := by
  obtain ⟨B, h1, h2⟩ := h
  obtain ⟨C, k1, k2⟩ := k
  exact ⟨fun i => B i ∨ C i, fun i hi => hi.elim (h1 i) (k1 i), fun w' hs hb => ⟨h2 w' hs (fun i hi => hb i (.inl hi)), k2 w' hs (fun i hi => hb i (.inr hi))⟩⟩

theorem Foot.imp {X : Nat → Prop} {w : World} {P Q : World → Prop} (h : Foot X w P) (hi : ∀ w', P w' → Q w') : Foot X w Q := by
  obtain ⟨B, h1, h2⟩ := h
  exact ⟨B, h1, fun w' hs hb => hi w' (h2 w' hs hb)⟩

theorem foot_pure {X : Nat → Prop} {w : World} {P : World → Prop} (h : ∀ w', P w') : Foot X w P := ⟨fun _ => False, fun _ h => h.elim, fun w' _ _ => h w'⟩

theorem foot_bytes {X : Nat → Prop} {w : World} {a : Option Addr} {n c : Nat} {xs : List Int} (h : IsBytes w a n c xs) (ho : Out X a n) : Foot X w (fun w => IsBytes w a n c xs) := by
  obtain ⟨h1, h2, h3, h4, h5⟩ := h
  rcases h5 with h5 | ⟨g, off, rfl, hg, hB⟩
  · exact foot_pure (fun w' => ⟨h1, h2, h3, h4, .inl h5⟩)
  · rcases ho with ho | ho
    · exact foot_pure (fun w' => ⟨h1, h2, h3, h4, .inl ho⟩)
    · exact ⟨fun k => k = g, fun k hk => by subst hk; exact ⟨hg, ho _ rfl⟩, fun w' hs hb => ⟨h1, h2, h3, h4, .inr ⟨g, off, rfl, Nat.lt_of_lt_of_le hg hs, fun i hi => (World.cell?_of_block (a := ⟨g, off + i, none⟩) (hb g rfl)).trans (hB i hi)⟩⟩⟩

theorem foot_own {X : Nat → Prop} {w : World} {base : Nat} {a : Option Addr} {n c : Nat} {xs : List Int} (h : OwnB w base (.slice a n c) xs) (hr : ∀ c ∈ xs, 0 ≤ c ∧ c < 256) (ho : ∀ k, X k → k < base) : Foot X w (fun w => IsBytes w a n c xs) := by
  refine foot_bytes (h.isAt hr) ?_
  rcases h.form with ⟨e, _⟩ | ⟨g, cap, e, hg, _⟩
  · cases e; exact .inl rfl
  · cases e; exact .inr (fun y hy hx => by cases hy; have := ho _ hx; simp at this; omega)

theorem kpSelf (M : Nat → Prop) (w : World) : Keeps M w w := ⟨rfl, rfl, rfl, Nat.le_refl _, fun _ _ _ => rfl⟩

theorem kpThen {X X' : Nat → Prop} {w w1 w2 : World} (h : Keeps X w w1) (hx : ∀ k, X' k → X k ∨ w.heap.size ≤ k) (k : Keeps X' w1 w2) : Keeps X w w2 :=
  ⟨k.os.trans h.os, k.tape.trans h.tape, k.output.trans h.output, Nat.le_trans h.size k.size, fun i hi hn => (k.block i (Nat.lt_of_lt_of_le hi h.size) (fun hX => by rcases hx i hX with h1 | h1; exact hn h1; omega)).trans (h.block i hi hn)⟩

theorem kpBelow {X : Nat → Prop} {w w1 w2 : World} (h : Keeps X w w1) (k : Below w1.heap.size w1 w2) : Keeps X w w2 := kpThen h (fun _ hk => .inl hk) (Below.keeps k X)

theorem kpSet {X : Nat → Prop} {w w1 : World} (h : Keeps X w w1) {g i : Nat} (hg : X g ∨ w.heap.size ≤ g) (v : Value) : Keeps X w (w1.setCell ⟨g, i, none⟩ v) :=
  kpThen h (fun k (e : k = g) => by rw [e]; exact hg) (keepsY_cell v)

theorem setYs_tape (g : Nat) : ∀ (l : List Value) (o : Nat) (w : World), (w.setCells g o l).tape = w.tape := by
  intro l
  induction l with
  | nil => intro o w; rfl
  | cons x r ih => intro o w; rw [World.setCells, ih]; simp [World.setCell]

theorem setYs_size (g : Nat) : ∀ (l : List Value) (o : Nat) (w : World), (w.setCells g o l).heap.size = w.heap.size := by
  intro l
  induction l with
  | nil => intro o w; rfl
  | cons x r ih => intro o w; rw [World.setCells, ih]; simp [World.setCell]

theorem keepsYs (w : World) (g o : Nat) (l : List Value) : Keeps (fun k => k = g) w (w.setCells g o l) :=
  ⟨World.os_setCells _ _ _ _, setYs_tape _ _ _ _, World.output_setCells _ _ _ _, Nat.le_of_eq (setYs_size _ _ _ _).symm, fun k hk hn => World.heap_setCells_other w g o l hk hn⟩

theorem fzY_new (w : World) (cs : Array Value) (ty : TypeId) (j : Nat) : (w.alloc (.cells cs ty)).frozen? ⟨w.heap.size, j, none⟩ = false := by
  have hh : (w.alloc (.cells cs ty)).heap[w.heap.size]? = some (.cells cs ty) := heap_alloc_new w _
  unfold World.frozen?
  rw [hh]
  simp

theorem cell_offY {w : World} {p i j : Nat} {v : Value} (h : i ≠ j) : (w.setCell ⟨p, i, none⟩ v).cell? ⟨p, j, none⟩ = w.cell? ⟨p, j, none⟩ :=
  World.cell?_setCell_other _ _ _ _ (fun e => h (by cases e; rfl))

theorem range_set {w : World} {N i : Nat} {l : List Value} {v : Value} (h : w.rangeAt N 0 l) (hi : i < l.length) : (w.setCell ⟨N, i, none⟩ v).rangeAt N 0 (l.set i v) := by
  intro j u hu
  have h0 := h j
  by_cases e : j = i
  · subst e
    rw [List.getElem?_set_self hi] at hu
    cases hu
    have hc := h j l[j] (List.getElem?_eq_getElem hi)
    rw [Nat.zero_add] at hc ⊢
    exact World.cell?_setCell_same' _ _ _ (by rw [hc]; rfl)
  · rw [List.getElem?_set_ne (fun e2 => e e2.symm)] at hu
    rw [cell_offY (by omega)]
    exact h j u hu

/-- a thing laid in the place of another one -/
theorem resY {α : Type} {L : Lay α} {w : World} {N : Nat} {m : α} (h : w.rangeAt N 0 (L.cells m)) (hf : ∀ j, w.frozen? ⟨N, j, none⟩ = false) (m' : α) : (w.setCells N 0 (L.cells m')).rangeAt N 0 (L.cells m') := by
  refine World.rangeAt_setCells_same w N 0 (L.cells m') (fun j hj => ⟨?_, hf _⟩)
  have hj' : j < (L.cells m).length := by rw [L.len]; rw [L.len] at hj; exact hj
  rw [h j _ (List.getElem?_eq_getElem hj')]
  rfl

end Go.Proofs.YtcgiicmmfleinaaGreatDoor
