/- A Reader in memory: the program's and the reference's; what they read, and that they touch nothing else. -/
import Derived.Test.YtfojpengdpnigaaGreatRwFirst
import Derived.Test.YtfojpengdpnigaaGreatRwWriter
namespace Go.Proofs.YtfojpengdpnigaaGreat
open Go.RowKit NumMath
set_option linter.unusedVariables false

/-! What is read, in plain lists: none: it has failed; some xs: xs are left. -/

def rdN (most : Int) : Option (List Int) → Int × Option (List Int)
  | none => (0, none)
  | some xs => match numAt xs with
    | none => (0, none)
    | some (n, r) => if (n : Int) ≤ most then ((n : Int), some r) else (0, none)

def rdI (st : Option (List Int)) : Int × Option (List Int) := (zagV (rdN 18446744073709551615 st).1, (rdN 18446744073709551615 st).2)

def rdT (most : Int) (st : Option (List Int)) : List Int × Option (List Int) :=
  if most < 0 then ([], none) else match (rdN most st).2 with
    | none => ([], none)
    | some xs => if (rdN most st).1 ≤ xs.length then (xs.take (rdN most st).1.toNat, some (xs.drop (rdN most st).1.toNat)) else ([], none)

def rdLeft (st : Option (List Int)) : Int := match st with | none => 0 | some xs => xs.length
def rdEnd (st : Option (List Int)) : Int := match st with | some [] => 0 | _ => 30

/-- numbers of bytes alone -/
def Byt (st : Option (List Int)) : Prop := ∀ xs, st = some xs → ∀ c ∈ xs, 0 ≤ c ∧ c < 256

/-- the bytes that are left lie in block q, in the field at p; good: what the flag says of a reader that has not failed -/
def IsR (good : Bool) (w : World) (p q : Nat) (st : Option (List Int)) : Prop :=
  w.frozen? ⟨p, 0, none⟩ = false ∧ w.frozen? ⟨p, 1, none⟩ = false ∧ q < w.heap.size ∧ ∃ a n c, w.cell? ⟨p, 0, none⟩ = some (.slice a n c) ∧ (n ≠ 0 → ∀ x, a = some x → x.block = q ∧ q ≠ p) ∧
    match st with
    | none => w.cell? ⟨p, 1, none⟩ = some (.bool (!good)) ∧ (a, n, c) = (none, 0, 0)
    | some xs => w.cell? ⟨p, 1, none⟩ = some (.bool good) ∧ IsBytes w a n c xs

theorem IsR.at {good : Bool} {w : World} {p q : Nat} {st : Option (List Int)} (h : IsR good w p q st) : p < w.heap.size := by
  obtain ⟨_, _, _, a, n, c, hc, _⟩ := h
  exact World.block_lt_of_cell? _ ⟨p, 0, none⟩ hc

theorem IsBytes.liesM {w w' : World} {a : Option Addr} {len cap : Nat} {xs : List Int} {M : Nat → Prop} (h : IsBytes w a len cap xs) (hk : Keeps M w w') (ho : OffB a M) : IsBytes w' a len cap xs := by
  obtain ⟨h1, h2, h3, h4, h5⟩ := h
  exact ⟨h1, h2, h3, h4, (SrcB.lies (w := w) ⟨h1, h5⟩ hk ho).2⟩

theorem IsBytes.liesO {w w' : World} {a : Option Addr} {len cap : Nat} {xs : List Int} {M : Nat → Prop} (h : IsBytes w a len cap xs) (hk : Keeps M w w') (ho : OffB a M ∨ len = 0) : IsBytes w' a len cap xs := by
  rcases ho with ho | h0
  · exact h.liesM hk ho
  · exact ⟨h.1, h.2.1, h.2.2.1, h.2.2.2.1, .inl h0⟩

theorem IsR.lies {good : Bool} {w w' : World} {p q : Nat} {st : Option (List Int)} {M : Nat → Prop} (h : IsR good w p q st) (hk : Keeps M w w') (hp : ¬ M p) (hq : ¬ M q) : IsR good w' p q st := by
  have hlt := h.at
  obtain ⟨f0, f1, hql, a, n, c, hc, ha, hs⟩ := h
  have e : w'.heap[p]? = w.heap[p]? := hk.block p hlt hp
  refine ⟨(World.frozen?_of_block (a := ⟨p, 0, none⟩) e).trans f0, (World.frozen?_of_block (a := ⟨p, 1, none⟩) e).trans f1, Nat.lt_of_lt_of_le hql hk.size, a, n, c, (hk.cell hlt hp).trans hc, ha, ?_⟩
  cases st with
  | none => exact ⟨(hk.cell hlt hp).trans hs.1, hs.2⟩
  | some xs => exact ⟨(hk.cell hlt hp).trans hs.1, hs.2.liesO hk (by by_cases h0 : n = 0; (exact .inr h0); exact .inl (fun x hx => by rw [(ha h0 x hx).1]; exact hq))⟩

theorem IsR.keep {good : Bool} {w w' : World} {p q : Nat} {st : Option (List Int)} (h : IsR good w p q st) (hb : Below w.heap.size w w') : IsR good w' p q st :=
  h.lies (Below.keeps hb (fun _ => False)) (fun h => h) (fun h => h)

/-- what a Reader's call leaves -/
def RPost (good : Bool) (w : World) (p q : Nat) (st : Option (List Int)) (w' : World) : Prop := IsR good w' p q st ∧ Keeps (fun k => k = p) w w'

theorem Keeps.refl (M : Nat → Prop) (w : World) : Keeps M w w := ⟨rfl, rfl, rfl, Nat.le_refl _, fun _ _ _ => rfl⟩

theorem Keeps.trans {M : Nat → Prop} {w w1 w2 : World} (h : Keeps M w w1) (k : Keeps M w1 w2) : Keeps M w w2 :=
  ⟨k.os.trans h.os, k.tape.trans h.tape, k.output.trans h.output, Nat.le_trans h.size k.size, fun i hi hn => (k.block i (Nat.lt_of_lt_of_le hi h.size) hn).trans (h.block i hi hn)⟩

theorem Keeps.set {p i : Nat} {w : World} (v : Value) : Keeps (fun k => k = p) w (w.setCell ⟨p, i, none⟩ v) :=
  ⟨rfl, rfl, rfl, by simp [World.setCell], fun k hk hn => Below.heap_setCell _ _ _ _ hn⟩

theorem RPost.refl {good : Bool} {w : World} {p q : Nat} {st : Option (List Int)} (h : IsR good w p q st) : RPost good w p q st w := ⟨h, Keeps.refl _ _⟩

theorem RPost.trans {good : Bool} {w w1 w2 : World} {p q : Nat} {st st' : Option (List Int)} (h : RPost good w p q st w1) (k : RPost good w1 p q st' w2) : RPost good w p q st' w2 := ⟨k.1, h.2.trans k.2⟩

theorem RPost.ahead {good : Bool} {w w1 w2 : World} {p q : Nat} {st : Option (List Int)} (hb : Below w.heap.size w w1) (k : RPost good w1 p q st w2) : RPost good w p q st w2 := ⟨k.1, (Below.keeps hb _).trans k.2⟩

theorem RPost.behind {good : Bool} {w w1 w2 : World} {p q : Nat} {st : Option (List Int)} (h : RPost good w p q st w1) (hb : Below w1.heap.size w1 w2) : RPost good w p q st w2 := ⟨h.1.keep hb, h.2.trans (Below.keeps hb _)⟩

/-- the field set anew: a later beginning of the same bytes -/
theorem rpost_set {good : Bool} {w : World} {p q : Nat} {st : Option (List Int)} {a' : Option Addr} {n' c' : Nat} {xs : List Int} (h : IsR good w p q st) (hf : w.cell? ⟨p, 1, none⟩ = some (.bool good)) (ha : n' ≠ 0 → ∀ x, a' = some x → x.block = q ∧ q ≠ p) (hB : IsBytes w a' n' c' xs) :
    RPost good w p q (some xs) (w.setCell ⟨p, 0, none⟩ (.slice a' n' c')) := by
  obtain ⟨f0, f1, hql, b, m, d, hc, _, _⟩ := h
  refine ⟨⟨by simpa using f0, by simpa using f1, Nat.lt_of_lt_of_le hql (Keeps.set (p := p) (i := 0) (.slice a' n' c')).size, a', n', c', World.cell?_setCell_same _ _ _ hc, ha, ?_, ?_⟩, Keeps.set _⟩
  · exact (World.cell?_setCell_other _ _ _ _ (by intro e; cases e)).trans hf
  · exact hB.liesO (Keeps.set (p := p) (i := 0) (.slice a' n' c')) (by by_cases h0 : n' = 0; (exact .inr h0); exact .inl (fun x hx => by rw [(ha h0 x hx).1]; exact (ha h0 x hx).2))

/-- the whole set to noughts -/
theorem rpost_fail {good : Bool} {w : World} {p q : Nat} {st : Option (List Int)} (h : IsR good w p q st) :
    RPost good w p q none ((w.setCell ⟨p, 0, none⟩ (.slice none 0 0)).setCell ⟨p, 1, none⟩ (.bool (!good))) := by
  obtain ⟨f0, f1, hql, b, m, d, hc, _, hs⟩ := h
  have hf : ∃ u, w.cell? ⟨p, 1, none⟩ = some u := by
    cases st with
    | none => exact ⟨_, hs.1⟩
    | some xs => exact ⟨_, hs.1⟩
  obtain ⟨u, hu⟩ := hf
  refine ⟨⟨by simpa using f0, by simpa using f1, Nat.lt_of_lt_of_le hql ((Keeps.set (p := p) (i := 0) (.slice none 0 0)).trans (Keeps.set (p := p) (i := 1) (.bool (!good)))).size, none, 0, 0, ?_, by (intro _ x hx; cases hx), ?_, rfl⟩, (Keeps.set _).trans (Keeps.set _)⟩
  · rw [World.cell?_setCell_other _ _ _ _ (by intro e; cases e)]
    exact World.cell?_setCell_same _ _ _ hc
  · exact World.cell?_setCell_same _ _ _ ((World.cell?_setCell_other _ _ _ _ (by intro e; cases e)).trans hu)

theorem IsR.flag {good : Bool} {w : World} {p q : Nat} {st : Option (List Int)} (h : IsR good w p q st) : w.cell? ⟨p, 1, none⟩ = some (.bool (if st.isSome then good else !good)) := by
  obtain ⟨f0, f1, -, b, m, d, hc, _, hs⟩ := h
  cases st with
  | none => exact hs.1
  | some xs => exact hs.1

theorem IsR.qlt {good : Bool} {w : World} {p q : Nat} {st : Option (List Int)} (h : IsR good w p q st) : q < w.heap.size := h.2.2.1

theorem Keeps.setNew {M : Nat → Prop} {w w1 : World} (h : Keeps M w w1) {g i : Nat} (hg : w.heap.size ≤ g) (v : Value) : Keeps M w (w1.setCell ⟨g, i, none⟩ v) :=
  ⟨h.os, h.tape, h.output, Nat.le_trans h.size (by simp [World.setCell]), fun k hk hn => (Below.heap_setCell _ _ _ _ (by show k ≠ g; omega)).trans (h.block k hk hn)⟩

theorem RPost.setNew {good : Bool} {w w1 : World} {p q : Nat} {st st0 : Option (List Int)} (h0 : IsR good w p q st0) (h : RPost good w p q st w1) {g i : Nat} (hg : w.heap.size ≤ g) (v : Value) : RPost good w p q st (w1.setCell ⟨g, i, none⟩ v) :=
  ⟨h.1.lies (Keeps.set (p := g) (i := i) v) (by have := h0.at; omega) (by have := h0.qlt; omega), h.2.setNew hg v⟩

theorem fine_any (p q : Nat) (st : Option (List Int)) (w : World) (h : IsR true w p q st) :
    Calls Tryz.prog 179 #[.pointer (some ⟨p, 0, none⟩)] w fun e w' => e = .returned (.bool st.isSome) ∧ w' = w := by
  have hf := h.flag
  clear h
  cases st with
  | none =>
    simp only [Option.isSome_none, Bool.not_true, Bool.false_eq_true, if_false] at hf
    go_enter Tryz.func179, Tryz.ntmps179
    go_wp2
    go_ret
    exact ⟨rfl, rfl⟩
  | some xs =>
    simp only [Option.isSome_some, if_true] at hf
    go_enter Tryz.func179, Tryz.ntmps179
    go_wp2
    go_ret
    exact ⟨rfl, rfl⟩

theorem fail_any (p q : Nat) (st : Option (List Int)) (w : World) (h : IsR true w p q st) :
    Calls Tryz.prog 181 #[.pointer (some ⟨p, 0, none⟩)] w fun e w' => e = .returned (.tuple #[]) ∧ RPost true w p q none w' := by
  have HP := hide (rpost_fail h)
  have hf := h.flag
  obtain ⟨f0, f1, -, b, m, d, hc, -, -⟩ := h
  go_enter Tryz.func181, Tryz.ntmps181
  go_wp2
  go_end0
  exact ⟨rfl, HP.out⟩

theorem xfail_any (p q : Nat) (st : Option (List Int)) (w : World) (h : IsR false w p q st) :
    Calls Tryz.prog 182 #[.pointer (some ⟨p, 0, none⟩)] w fun e w' => e = .returned (.tuple #[]) ∧ RPost false w p q none w' := by
  have HP := hide (rpost_fail h)
  have hf := h.flag
  obtain ⟨f0, f1, -, b, m, d, hc, -, -⟩ := h
  go_enter Tryz.func182, Tryz.ntmps182
  go_wp2
  go_end0
  exact ⟨rfl, HP.out⟩

end Go.Proofs.YtfojpengdpnigaaGreat
