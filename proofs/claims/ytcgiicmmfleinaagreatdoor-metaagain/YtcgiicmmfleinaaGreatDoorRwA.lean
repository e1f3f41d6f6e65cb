/- What layer 3 (row) writes and reads, in plain lists of numbers: numbers in groups of seven bits, texts, values, rows; no program is in sight. math/bits.Len64: how many bits a number has. row.appendNumber: a number behind what was gathered. row.firstNumber: the number that bytes begin with, or none. A Writer in memory: what its N, I, Text, Bytes do to it, and that they touch nothing else. A Reader in memory: the program's and the reference's; what they read, and that they touch nothing else. The Reader's N, I, Text, Value, Left, End; Read. row.Read; the Reader's Text and Value. The reference's Reader: N, I, Text, End. The reference's Reader: I, Text, Val, End. The reference's N, Text and Val: the same bytes, in memory of their own. -/
import Derived.Test.YtcgiicmmfleinaaGreatDoorBtA
import Derived.Laws.MathBits
import Derived.Test.YtcgiicmmfleinaaGreatDoorNmA
import Derived.Lib.ConvBytes
import Derived.Deep.RegionHeld
import Derived.Deep.RegionHeld3
namespace Go.Proofs.YtcgiicmmfleinaaGreatDoor
open Go.RowKit NumMath
set_option linter.unusedVariables false

/-- the groups ahead of the last one, 128 added to each -/
def hiN (m : Nat) : List Int := if h : m = 0 then [] else hiN (m / 128) ++ [((m % 128 : Nat) : Int) + 128]
  termination_by m
  decreasing_by exact Nat.div_lt_self (by omega) (by omega)

/-- a number's bytes -/
def numN (n : Nat) : List Int := hiN (n / 128) ++ [((n % 128 : Nat) : Int)]
def numL (n : Int) : List Int := numN n.toNat

end Go.Proofs.YtcgiicmmfleinaaGreatDoor

namespace Go.Proofs.YtcgiicmmfleinaaGreatDoor
open Go.RowKit NumMath
set_option linter.unusedVariables false

end Go.Proofs.YtcgiicmmfleinaaGreatDoor

namespace Go.Proofs.YtcgiicmmfleinaaGreatDoor
open Go.RowKit NumMath
set_option linter.unusedVariables false

end Go.Proofs.YtcgiicmmfleinaaGreatDoor

namespace Go.Proofs.YtcgiicmmfleinaaGreatDoor
open Go.RowKit NumMath
set_option linter.unusedVariables false

end Go.Proofs.YtcgiicmmfleinaaGreatDoor

namespace Go.Proofs.YtcgiicmmfleinaaGreatDoor
open Go.RowKit NumMath
set_option linter.unusedVariables false

/-- the blocks of the Writer at p -/
def WB (w : World) (p k : Nat) : Prop := k = p ∨ ∃ v, w.cell? ⟨p, 0, none⟩ = some v ∧ v.ownBlock = some k

/-- the Writer at p holds the bytes bs -/
def IsW (w : World) (base p : Nat) (bs : List Int) : Prop :=
  ∃ a n c, w.cell? ⟨p, 0, none⟩ = some (.slice a n c) ∧ w.frozen? ⟨p, 0, none⟩ = false ∧ OwnB w base (.slice a n c) bs ∧ base ≤ p ∧ some p ≠ (Value.slice a n c).ownBlock

theorem IsW.lt {w : World} {base p : Nat} {bs : List Int} (h : IsW w base p bs) {k : Nat} (hk : WB w p k) : k < w.heap.size ∧ base ≤ k := by
  obtain ⟨a, n, c, hc, hf, ho, hp, hn⟩ := h
  rcases hk with rfl | ⟨v, hv, hb⟩
  · exact ⟨World.block_lt_of_cell? _ ⟨k, 0, none⟩ hc, hp⟩
  · rw [hc] at hv
    cases hv
    have := World.ownsRow.lt ho k hb
    exact ⟨this.2, this.1⟩

theorem IsW.at {w : World} {base p : Nat} {bs : List Int} (h : IsW w base p bs) : p < w.heap.size := (h.lt (k := p) (.inl rfl)).1

theorem IsW.keep {w w' : World} {base p : Nat} {bs : List Int} (h : IsW w base p bs) (hb : Below w.heap.size w w') : IsW w' base p bs := by
  have hp := h.at
  obtain ⟨a, n, c, hc, hf, ho, hp', hn⟩ := h
  exact ⟨a, n, c, (hb.cell (p := ⟨p, 0, none⟩) hp).trans hc, (hb.frozen (p := ⟨p, 0, none⟩) hp).trans hf, ho.keep hb, hp', hn⟩

theorem IsW.same {w w' : World} {base p : Nat} {bs : List Int} (h : IsW w base p bs) (hb : Below w.heap.size w w') {k : Nat} (hk : WB w' p k) : WB w p k := by
  have hp := h.at
  rcases hk with rfl | ⟨v, hv, hb'⟩
  · exact .inl rfl
  · rw [hb.cell (p := ⟨p, 0, none⟩) hp] at hv
    exact .inr ⟨v, hv, hb'⟩

/-- what a Writer's call leaves -/
def WPost (w : World) (base p : Nat) (bs : List Int) (w' : World) : Prop := IsW w' base p bs ∧ Keeps (WB w p) w w' ∧ ∀ k, WB w' p k → WB w p k ∨ w.heap.size ≤ k

theorem WPost.refl {w : World} {base p : Nat} {bs : List Int} (h : IsW w base p bs) : WPost w base p bs w := ⟨h, ⟨rfl, rfl, rfl, Nat.le_refl _, fun _ _ _ => rfl⟩, fun k hk => .inl hk⟩

theorem WPost.trans {w w1 w2 : World} {base p : Nat} {bs bs' : List Int} (h : WPost w base p bs w1) (k : WPost w1 base p bs' w2) : WPost w base p bs' w2 := by
  obtain ⟨h1, h2, h3⟩ := h
  obtain ⟨k1, k2, k3⟩ := k
  refine ⟨k1, ⟨k2.os.trans h2.os, k2.tape.trans h2.tape, k2.output.trans h2.output, Nat.le_trans h2.size k2.size, fun i hi hn => (k2.block i (Nat.lt_of_lt_of_le hi h2.size) ?_).trans (h2.block i hi hn)⟩, ?_⟩
  · intro hx
    rcases h3 i hx with h | h
    · exact hn h
    · omega
  · intro i hi
    rcases k3 i hi with h | h
    · exact h3 i h
    · exact .inr (Nat.le_trans h2.size h)

theorem WPost.ahead {w w1 w2 : World} {base p : Nat} {bs bs' : List Int} (h : IsW w base p bs) (hb : Below w.heap.size w w1) (k : WPost w1 base p bs' w2) : WPost w base p bs' w2 :=
  WPost.trans (bs := bs) ⟨h.keep hb, Below.keeps hb _, fun i hi => .inl (h.same hb hi)⟩ k

theorem WPost.below {w w' : World} {base p : Nat} {bs bs' : List Int} (h : WPost w base p bs w') (h0 : IsW w base p bs') (hB : base ≤ w.heap.size) : Below base w w' :=
  h.2.1.below hB (fun k hk => (h0.lt hk).2)

/-- a block that was not the Writer's is as it was, and is not the Writer's -/
theorem WPost.cell {w w' : World} {base p : Nat} {bs : List Int} (h : WPost w base p bs w') {g i : Nat} (hg : g < w.heap.size) (hn : ¬ WB w p g) : w'.cell? ⟨g, i, none⟩ = w.cell? ⟨g, i, none⟩ := h.2.1.cell hg hn

theorem WPost.apart {w w' : World} {base p : Nat} {bs : List Int} (h : WPost w base p bs w') {g : Nat} (hg : g < w.heap.size) (hn : ¬ WB w p g) : ¬ WB w' p g := by
  intro hx
  rcases h.2.2 g hx with h | h
  · exact hn h
  · omega

end Go.Proofs.YtcgiicmmfleinaaGreatDoor

namespace Go.Proofs.YtcgiicmmfleinaaGreatDoor
open Go.RowKit NumMath
set_option linter.unusedVariables false

/-! What is read, in plain lists: none: it has failed; some xs: xs are left. -/

/-- the bytes that are left lie in block q, in the field at p; good: what the flag says of a reader that has not failed -/
def IsR (good : Bool) (w : World) (p q : Nat) (st : Option (List Int)) : Prop :=
  w.frozen? ⟨p, 0, none⟩ = false ∧ w.frozen? ⟨p, 1, none⟩ = false ∧ q < w.heap.size ∧ ∃ a n c, w.cell? ⟨p, 0, none⟩ = some (.slice a n c) ∧ (n ≠ 0 → ∀ x, a = some x → x.block = q ∧ q ≠ p) ∧
    match st with
    | none => w.cell? ⟨p, 1, none⟩ = some (.bool (!good)) ∧ (a, n, c) = (none, 0, 0)
    | some xs => w.cell? ⟨p, 1, none⟩ = some (.bool good) ∧ IsBytes w a n c xs

theorem IsR.at {good : Bool} {w : World} {p q : Nat} {st : Option (List Int)} (h : IsR good w p q st) : p < w.heap.size := by
  obtain ⟨_, _, _, a, n, c, hc, _⟩ := h
  exact World.block_lt_of_cell? _ ⟨p, 0, none⟩ hc

theorem IsBytes.liesM {w w' : World} {a : Option Addr} {len cap : Nat} {xs : List Int} {M : Nat → Prop} (h : IsBytes w a len cap xs) (hk : Keeps M w w') (ho : OffB a M) : IsBytes w' a len cap xs := by
  obtain ⟨h1, h2, h3, h4, h5⟩ := h
  exact ⟨h1, h2, h3, h4, (SrcB.lies (w := w) ⟨h1, h5⟩ hk ho).2⟩

theorem IsBytes.liesO {w w' : World} {a : Option Addr} {len cap : Nat} {xs : List Int} {M : Nat → Prop} (h : IsBytes w a len cap xs) (hk : Keeps M w w') (ho : OffB a M ∨ len = 0) : IsBytes w' a len cap xs := by
  rcases ho with ho | h0
  · exact h.liesM hk ho
  · exact ⟨h.1, h.2.1, h.2.2.1, h.2.2.2.1, .inl h0⟩

theorem IsR.lies {good : Bool} {w w' : World} {p q : Nat} {st : Option (List Int)} {M : Nat → Prop} (h : IsR good w p q st) (hk : Keeps M w w') (hp : ¬ M p) (hq : ¬ M q) : IsR good w' p q st := by
  have hlt := h.at
  obtain ⟨f0, f1, hql, a, n, c, hc, ha, hs⟩ := h
  have e : w'.heap[p]? = w.heap[p]? := hk.block p hlt hp
  refine ⟨(World.frozen?_of_block (a := ⟨p, 0, none⟩) e).trans f0, (World.frozen?_of_block (a := ⟨p, 1, none⟩) e).trans f1, Nat.lt_of_lt_of_le hql hk.size, a, n, c, (hk.cell hlt hp).trans hc, ha, ?_⟩
  cases st with
  | none => exact ⟨(hk.cell hlt hp).trans hs.1, hs.2⟩
  | some xs => exact ⟨(hk.cell hlt hp).trans hs.1, hs.2.liesO hk (by by_cases h0 : n = 0; (exact .inr h0); exact .inl (fun x hx => by rw [(ha h0 x hx).1]; exact hq))⟩

theorem IsR.keep {good : Bool} {w w' : World} {p q : Nat} {st : Option (List Int)} (h : IsR good w p q st) (hb : Below w.heap.size w w') : IsR good w' p q st :=
  h.lies (Below.keeps hb (fun _ => False)) (fun h => h) (fun h => h)

/-- what a Reader's call leaves -/
def RPost (good : Bool) (w : World) (p q : Nat) (st : Option (List Int)) (w' : World) : Prop := IsR good w' p q st ∧ Keeps (fun k => k = p) w w'

theorem Keeps.refl (M : Nat → Prop) (w : World) : Keeps M w w := ⟨rfl, rfl, rfl, Nat.le_refl _, fun _ _ _ => rfl⟩

theorem Keeps.trans {M : Nat → Prop} {w w1 w2 : World} (h : Keeps M w w1) (k : Keeps M w1 w2) : Keeps M w w2 :=
  ⟨k.os.trans h.os, k.tape.trans h.tape, k.output.trans h.output, Nat.le_trans h.size k.size, fun i hi hn => (k.block i (Nat.lt_of_lt_of_le hi h.size) hn).trans (h.block i hi hn)⟩

theorem Keeps.set {p i : Nat} {w : World} (v : Value) : Keeps (fun k => k = p) w (w.setCell ⟨p, i, none⟩ v) :=
  ⟨rfl, rfl, rfl, by simp [World.setCell], fun k hk hn => Below.heap_setCell _ _ _ _ hn⟩

theorem RPost.refl {good : Bool} {w : World} {p q : Nat} {st : Option (List Int)} (h : IsR good w p q st) : RPost good w p q st w := ⟨h, Keeps.refl _ _⟩

theorem RPost.trans {good : Bool} {w w1 w2 : World} {p q : Nat} {st st' : Option (List Int)} (h : RPost good w p q st w1) (k : RPost good w1 p q st' w2) : RPost good w p q st' w2 := ⟨k.1, h.2.trans k.2⟩

theorem RPost.ahead {good : Bool} {w w1 w2 : World} {p q : Nat} {st : Option (List Int)} (hb : Below w.heap.size w w1) (k : RPost good w1 p q st w2) : RPost good w p q st w2 := ⟨k.1, (Below.keeps hb _).trans k.2⟩

end Go.Proofs.YtcgiicmmfleinaaGreatDoor

namespace Go.Proofs.YtcgiicmmfleinaaGreatDoor
open Go.RowKit NumMath
set_option linter.unusedVariables false

theorem IsBytes.drop {w : World} {g off len cap : Nat} {xs : List Int} (h : IsBytes w (some ⟨g, off, none⟩) len cap xs) (s : Nat) (hs : s ≤ len) : IsBytes w (some ⟨g, off + s, none⟩) (len - s) (cap - s) (xs.drop s) := by
  obtain ⟨h1, h2, h3, h4, h5⟩ := h
  refine ⟨by rw [List.length_drop, h1], by omega, by omega, fun c hc => h4 c (List.mem_of_mem_drop hc), ?_⟩
  rcases h5 with h5 | ⟨g', off', e, hg, hB⟩
  · exact .inl (by omega)
  · cases e
    refine .inr ⟨g, off + s, rfl, hg, ?_⟩
    intro i hi
    rw [List.length_drop] at hi
    have := hB (s + i) (by omega)
    rw [Nat.add_assoc, this]
    simp [List.getD]

theorem SrcB.take {w : World} {g off len cap : Nat} {xs : List Int} (h : IsBytes w (some ⟨g, off, none⟩) len cap xs) (s : Nat) (hs : s ≤ len) : SrcB w (some ⟨g, off, none⟩) s (xs.take s) := by
  obtain ⟨h1, h2, h3, h4, h5⟩ := h
  refine ⟨by rw [List.length_take, h1]; omega, ?_⟩
  rcases h5 with h5 | ⟨g', off', e, hg, hB⟩
  · exact .inl (by omega)
  · cases e
    refine .inr ⟨g, off, rfl, hg, ?_⟩
    intro i hi
    rw [List.length_take] at hi
    rw [hB i (by omega)]
    have hi' : i < s := by omega
    simp [List.getD, hi']

end Go.Proofs.YtcgiicmmfleinaaGreatDoor

namespace Go.Proofs.YtcgiicmmfleinaaGreatDoor
open Go.RowKit NumMath
set_option linter.unusedVariables false

/-- a slice of the call's own, whose block is told -/
theorem OwnB.block {w : World} {base : Nat} {v : Value} {bs : List Int} (h : OwnB w base v bs) (hr : ∀ c ∈ bs, 0 ≤ c ∧ c < 256) (d : Nat) : ∃ a n cap q, v = .slice a n cap ∧ IsBytes w a n cap bs ∧ (∀ x, a = some x → x.block = q ∧ q < w.heap.size ∧ base ≤ q) ∧ (a = none → q = d) := by
  rcases h.form with ⟨rfl, rfl⟩ | ⟨g, cap, rfl, hg1, hg2, hc, hm, hB⟩
  · exact ⟨none, 0, 0, d, rfl, ⟨rfl, Nat.le_refl _, by unfold maxLen; omega, hr, .inl rfl⟩, by (intro x hx; cases hx), fun _ => rfl⟩
  · exact ⟨_, _, cap, g, rfl, ⟨rfl, hc, hm, hr, .inr ⟨g, 0, rfl, hg2, fun i hi => by rw [Nat.zero_add]; exact hB i hi⟩⟩, by (intro x hx; cases hx; exact ⟨rfl, hg2, hg1⟩), by (intro e; cases e)⟩

theorem OwnB.set {w : World} {base : Nat} {v : Value} {bs : List Int} (h : OwnB w base v bs) {p i : Nat} (hp : p < base) (u : Value) : OwnB (w.setCell ⟨p, i, none⟩ u) base v bs :=
  h.lies (fun g hg => Below.heap_setCell _ _ _ _ (by have := (World.ownsRow.lt h g hg).1; show g ≠ p; omega))

end Go.Proofs.YtcgiicmmfleinaaGreatDoor

namespace Go.Proofs.YtcgiicmmfleinaaGreatDoor
open Go.RowKit NumMath
set_option linter.unusedVariables false

end Go.Proofs.YtcgiicmmfleinaaGreatDoor

namespace Go.Proofs.YtcgiicmmfleinaaGreatDoor
open Go.RowKit NumMath
set_option linter.unusedVariables false

theorem SrcB.conv {w : World} {a : Option Addr} {len cap : Nat} {xs : List Int} (h : SrcB w a len xs) : (convert 39 9 (.slice a len cap)).run Tryz.prog w = .ok (.string (strB xs)) w := by
  obtain ⟨h1, h5⟩ := h
  rcases h5 with h5 | ⟨g, off, rfl, hg, hB⟩
  · subst h5
    have : xs = [] := List.length_eq_zero_iff.1 h1
    subst this
    exact conv_none w a cap
  · exact run_convert_bytes_arg w 39 5 Tryz.underlying39 Tryz.underlying5 g off len cap xs h1 (fun i hi => hB i (by omega)) 9 Tryz.underlying9

end Go.Proofs.YtcgiicmmfleinaaGreatDoor

namespace Go.Proofs.YtcgiicmmfleinaaGreatDoor
open Go.RowKit NumMath
set_option linter.unusedVariables false

end Go.Proofs.YtcgiicmmfleinaaGreatDoor
