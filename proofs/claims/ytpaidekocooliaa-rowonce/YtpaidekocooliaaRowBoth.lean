/- Two Readers side by side; how much is left. -/
import Derived.Test.YtpaidekocooliaaRowXread3
import Derived.Test.YtpaidekocooliaaRowParts
import Derived.Test.YtpaidekocooliaaRowAwake
namespace Go.Proofs.Ytpaidekocooliaa
open Go.RowKit NumMath
set_option linter.unusedVariables false

theorem left_nonneg (st : Option (List Int)) : 0 ≤ rdLeft st := by
  cases st with
  | none => exact Int.le_refl _
  | some xs => show 0 ≤ ((xs.length : Nat) : Int); omega

theorem rdN_left (m : Int) (st : Option (List Int)) (hb : Byt st) : rdLeft (rdN m st).2 ≤ rdLeft st := by
  cases h : (rdN m st).2 with
  | none => exact left_nonneg st
  | some ys => have := rdN_shorter m st hb ys h; show ((ys.length : Nat) : Int) ≤ _; omega

theorem rdI_left (st : Option (List Int)) (hb : Byt st) : rdLeft (rdI st).2 ≤ rdLeft st := rdN_left _ st hb

theorem rdT_left (m : Int) (st : Option (List Int)) (hb : Byt st) : rdLeft (rdT m st).2 ≤ rdLeft st := by
  by_cases hneg : m < 0
  · rw [rdT_neg m st hneg]; exact left_nonneg st
  · have h1 := rdN_left m st hb
    cases h : (rdN m st).2 with
    | none => rw [rdT_none m st hneg h]; exact left_nonneg st
    | some ys =>
      rw [h] at h1
      by_cases hf : (rdN m st).1 ≤ ys.length
      · rw [rdT_some m st hneg ys h hf]
        show ((List.length _ : Nat) : Int) ≤ _
        rw [List.length_drop]
        have : ((ys.length : Nat) : Int) ≤ rdLeft st := h1
        omega
      · rw [rdT_long m st hneg ys h hf]; exact left_nonneg st

theorem rdV_left (st : Option (List Int)) (hb : Byt st) : rdLeft (rdV st).2 ≤ rdLeft st := by
  have h1 := rdN_left 2 st hb
  obtain ⟨r1, r2, hb1⟩ := rdN_range 2 st hb (by omega)
  obtain ⟨k, st1, he⟩ : ∃ k st1, rdN 2 st = (k, st1) := ⟨_, _, rfl⟩
  rw [he] at h1 r1 r2 hb1
  dsimp only at h1 r1 r2 hb1
  have hk : k = 0 ∨ k = 1 ∨ k = 2 := by omega
  rcases hk with rfl | rfl | rfl
  · rw [rdV_0 st st1 he]; exact h1
  · have h2 := rdI_left st1 hb1
    cases h : (rdI st1).2 with
    | none => rw [rdV_1n st st1 he h]; exact left_nonneg st
    | some ys => rw [rdV_1 st st1 ys he h]; rw [h] at h2; exact Int.le_trans h2 h1
  · have h2 := rdT_left 1000 st1 hb1
    cases h : (rdT 1000 st1).2 with
    | none => rw [rdV_2n st st1 he h]; exact left_nonneg st
    | some ys => rw [rdV_2 st st1 ys he h]; rw [h] at h2; exact Int.le_trans h2 h1

theorem rdT_byt (m : Int) (st : Option (List Int)) (hb : Byt st) : Byt (rdT m st).2 := by
  by_cases hneg : m < 0
  · rw [rdT_neg m st hneg]; intro xs h; cases h
  · obtain ⟨_, _, hb1⟩ := rdN_range m st hb (by omega)
    cases h : (rdN m st).2 with
    | none => rw [rdT_none m st hneg h]; intro xs h; cases h
    | some ys =>
      by_cases hf : (rdN m st).1 ≤ ys.length
      · rw [rdT_some m st hneg ys h hf]
        intro xs hx c hc
        cases hx
        exact hb1 ys h c (List.mem_of_mem_drop hc)
      · rw [rdT_long m st hneg ys h hf]; intro xs h; cases h

theorem rdV_byt (st : Option (List Int)) (hb : Byt st) : Byt (rdV st).2 := by
  obtain ⟨r1, r2, hb1⟩ := rdN_range 2 st hb (by omega)
  obtain ⟨k, st1, he⟩ : ∃ k st1, rdN 2 st = (k, st1) := ⟨_, _, rfl⟩
  rw [he] at r1 r2 hb1
  dsimp only at r1 r2 hb1
  have hk : k = 0 ∨ k = 1 ∨ k = 2 := by omega
  rcases hk with rfl | rfl | rfl
  · rw [rdV_0 st st1 he]; exact hb1
  · obtain ⟨_, _, h2⟩ := rdN_range 18446744073709551615 st1 hb1 (by omega)
    cases h : (rdI st1).2 with
    | none => rw [rdV_1n st st1 he h]; intro xs h; cases h
    | some ys =>
      rw [rdV_1 st st1 ys he h]
      have h' : (rdN 18446744073709551615 st1).2 = some ys := h
      rw [h'] at h2
      exact h2
  · have h2 := rdT_byt 1000 st1 hb1
    cases h : (rdT 1000 st1).2 with
    | none => rw [rdV_2n st st1 he h]; intro xs h; cases h
    | some ys => rw [rdV_2 st st1 ys he h]; rw [h] at h2; exact h2

theorem RPost.below {good : Bool} {w w' : World} {p q : Nat} {st : Option (List Int)} (h : RPost good w p q st w') {B : Nat} (hB : B ≤ w.heap.size) (hp : B ≤ p) : Below B w w' := h.2.below hB (by rintro k rfl; exact hp)

/-- what the cell of the Reader's bytes holds -/
theorem IsR.slice {good : Bool} {w : World} {p q : Nat} {st : Option (List Int)} (h : IsR good w p q st) : ∃ a n c, w.cell? ⟨p, 0, none⟩ = some (.slice a n c) ∧ (n : Int) = rdLeft st ∧ n ≤ maxLen := by
  obtain ⟨f0, f1, -, a, n, c, hc, -, hs⟩ := h
  refine ⟨a, n, c, hc, ?_⟩
  cases st with
  | none => obtain ⟨_, e⟩ := hs; cases e; exact ⟨rfl, by unfold maxLen; omega⟩
  | some xs => refine ⟨?_, Nat.le_trans hs.2.2.1 hs.2.2.2.1⟩; show _ = ((xs.length : Nat) : Int); rw [hs.2.1]

/-- two Readers, apart -/
structure Two (w : World) (p q p' q' : Nat) (st : Option (List Int)) : Prop where
  a : IsR true w p q st
  b : IsR false w p' q' st
  n1 : p ≠ p'
  n2 : q ≠ p'
  n3 : q' ≠ p

theorem Two.keep {w w' : World} {p q p' q' : Nat} {st : Option (List Int)} (h : Two w p q p' q' st) (hb : Below w.heap.size w w') : Two w' p q p' q' st := ⟨h.a.keep hb, h.b.keep hb, h.n1, h.n2, h.n3⟩

theorem Two.next {w w2 w3 : World} {p q p' q' : Nat} {st st' : Option (List Int)} (h : Two w p q p' q' st) (h1 : RPost true w p q st' w2) (h2 : RPost false w2 p' q' st' w3) : Two w3 p q p' q' st' := ⟨h1.1.lies h2.2 h.n1 h.n2, h2.1, h.n1, h.n2, h.n3⟩

theorem Two.mid {w w2 : World} {p q p' q' : Nat} {st st' : Option (List Int)} (h : Two w p q p' q' st) (h1 : RPost true w p q st' w2) : IsR false w2 p' q' st := h.b.lies h1.2 (Ne.symm h.n1) h.n3

theorem left_at (p q : Nat) (st : Option (List Int)) (n : Nat) (w : World) (h : IsR true w p q st) (hn : (n : Int) = rdLeft st) :
    Calls Try.prog 21 #[.pointer (some ⟨p, 0, none⟩)] w fun e w' => e = .returned (.int .i64 n) ∧ w' = w := by rw [hn]; exact left_any p q st w h

end Go.Proofs.Ytpaidekocooliaa
