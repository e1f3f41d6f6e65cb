/- A struct in memory with one slice: its blocks; what a call leaves that changes these alone; two such structs side by side. -/
import Derived.Test.YtodmieehdleohaaByt
namespace Go.Proofs.Ytodmieehdleohaa
open Go.RowKit NumMath
set_option linter.unusedVariables false

/-- the blocks of the struct at p whose field i is a slice -/
def SB (i : Nat) (w : World) (p k : Nat) : Prop := k = p ∨ ∃ v, w.cell? ⟨p, i, none⟩ = some v ∧ v.ownBlock = some k

/-- what a call leaves that changes the struct at p and its slice alone -/
def SPost (i : Nat) (w : World) (p : Nat) (w' : World) : Prop := Keeps (SB i w p) w w' ∧ ∀ k, SB i w' p k → SB i w p k ∨ w.heap.size ≤ k

theorem SB.at {i : Nat} {w : World} {p : Nat} : SB i w p p := .inl rfl

theorem SB.same {i : Nat} {w w' : World} {p k : Nat} (hp : w'.heap[p]? = w.heap[p]?) (h : SB i w' p k) : SB i w p k := by
  rcases h with rfl | ⟨v, hv, hb⟩
  · exact .inl rfl
  · rw [World.cell?_of_block (a := ⟨p, i, none⟩) hp] at hv
    exact .inr ⟨v, hv, hb⟩

theorem SPost.refl (i : Nat) (w : World) (p : Nat) : SPost i w p w := ⟨⟨rfl, rfl, rfl, Nat.le_refl _, fun _ _ _ => rfl⟩, fun k hk => .inl hk⟩

theorem SPost.size {i : Nat} {w w' : World} {p : Nat} (h : SPost i w p w') : w.heap.size ≤ w'.heap.size := h.1.size

theorem SPost.trans {i : Nat} {w w1 w2 : World} {p : Nat} (h : SPost i w p w1) (k : SPost i w1 p w2) : SPost i w p w2 := by
  obtain ⟨h2, h3⟩ := h
  obtain ⟨k2, k3⟩ := k
  refine ⟨⟨k2.os.trans h2.os, k2.tape.trans h2.tape, k2.output.trans h2.output, Nat.le_trans h2.size k2.size, fun i hi hn => (k2.block i (Nat.lt_of_lt_of_le hi h2.size) ?_).trans (h2.block i hi hn)⟩, ?_⟩
  · intro hx
    rcases h3 i hx with h | h
    · exact hn h
    · omega
  · intro i hi
    rcases k3 i hi with h | h
    · exact h3 i h
    · exact .inr (Nat.le_trans h2.size h)

theorem SPost.of_below {i : Nat} {w w' : World} {p : Nat} (hp : p < w.heap.size) (hb : Below w.heap.size w w') : SPost i w p w' :=
  ⟨Below.keeps hb _, fun k hk => .inl (hk.same (hb.block p hp))⟩

theorem SPost.ahead {i : Nat} {w w1 w2 : World} {p : Nat} (hp : p < w.heap.size) (hb : Below w.heap.size w w1) (k : SPost i w1 p w2) : SPost i w p w2 := (SPost.of_below hp hb).trans k

theorem SPost.behind {i : Nat} {w w1 w2 : World} {p : Nat} (h : SPost i w p w1) (hp : p < w.heap.size) (hb : Below w1.heap.size w1 w2) : SPost i w p w2 :=
  h.trans (SPost.of_below (Nat.lt_of_lt_of_le hp h.size) hb)

theorem SPost.below {i : Nat} {w w' : World} {p B : Nat} (h : SPost i w p w') (hB : B ≤ w.heap.size) (h0 : ∀ k, SB i w p k → B ≤ k) : Below B w w' := h.1.below hB h0

theorem SPost.cell {i : Nat} {w w' : World} {p : Nat} (h : SPost i w p w') {g j : Nat} (hg : g < w.heap.size) (hn : ¬ SB i w p g) : w'.cell? ⟨g, j, none⟩ = w.cell? ⟨g, j, none⟩ := h.1.cell hg hn

theorem SPost.drew {i : Nat} {w w' : World} {p : Nat} (h : SPost i w.drew p w') : SPost i w p w' := ⟨⟨h.1.os, h.1.tape, h.1.output, h.1.size, h.1.block⟩, h.2⟩

/-- the two structs have no block in common -/
def Off2 (i j : Nat) (w : World) (p q : Nat) : Prop := ∀ k, SB i w p k → ¬ SB j w q k

theorem Off2.symm {i j : Nat} {w : World} {p q : Nat} (h : Off2 i j w p q) : Off2 j i w q p := fun k hk hk' => h k hk' hk

/-- behind a call that changes the one they have none in common still -/
theorem Off2.next {i j : Nat} {w w' : World} {p q : Nat} (h : Off2 i j w p q) (hq : ∀ k, SB j w q k → k < w.heap.size) (hp : SPost i w p w') : Off2 i j w' p q := by
  intro k hk hk'
  have hq' := hk'.same (hp.1.block q (hq q SB.at) (fun hx => h q hx SB.at))
  rcases hp.2 k hk with h1 | h1
  · exact h k h1 hq'
  · have := hq k hq'
    omega

theorem Off2.keep {i j : Nat} {w w' : World} {p q : Nat} (h : Off2 i j w p q) (hp : p < w.heap.size) (hq : q < w.heap.size) (hb : Below w.heap.size w w') : Off2 i j w' p q :=
  fun k hk hk' => h k (hk.same (hb.block p hp)) (hk'.same (hb.block q hq))

theorem cell_set_off (w : World) (p i j : Nat) (v : Value) (h : i ≠ j) : (w.setCell ⟨p, i, none⟩ v).cell? ⟨p, j, none⟩ = w.cell? ⟨p, j, none⟩ := by
  apply World.cell?_setCell_other
  intro e
  cases e
  exact h rfl

end Go.Proofs.Ytodmieehdleohaa
