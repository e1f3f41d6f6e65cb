/- Both stores: what Scan tells of both is alike. -/
import Derived.Test.YtfldiapdfpkdaaaQw2
import Derived.Test.YtfldiapdfpkdaaaQsN
namespace Go.Proofs.Ytfldiapdfpkdaaa
open Go.RowKit NumMath Go.ChangeShapes Go.WideShapes Go.Deep
set_option linter.unusedVariables false
set_option maxRecDepth 100000

/-- both stores hold st, the program's without what is dead -/
def TwoG (w0 w : World) (p q : Nat) (st : List Cel) : Prop := ∃ mb z cs cv ms, z ≤ 80 ∧ TwoS w0 w p mb z cs q cv ms ∧ Goes 40 cs (ms.map MC.c) ∧ ms.map MC.c = st

theorem TwoG.keep {w0 w w' : World} {p q : Nat} {st : List Cel} (h : TwoG w0 w p q st) (hb : Below w.heap.size w w') : TwoG w0 w' p q st := by
  obtain ⟨mb, z, cs, cv, ms, h1, h2, h3, h4⟩ := h
  exact ⟨mb, z, cs, cv, ms, h1, h2.keep hb, h3, h4⟩

theorem Stat.two {w0 w : World} {p mb q j : Nat} (h : Stat w0 w p mb q j) (hj : j ≤ 40) : ∃ st, TwoG w0 w p q st := by
  obtain ⟨z, cs, cv, ms, h1, h2, h3⟩ := h
  exact ⟨_, mb, z, cs, cv, ms, by omega, h2, ⟨h3.sort, h3.clean, h3.eq, by have := h3.len; omega, h3.key⟩, rfl⟩

theorem seen_dead (lo hi : List Int) (ts : Int) {c : Cel} (h : liveC c = false) : seenC lo hi (setVs (upTo ts) c) = false := by
  obtain ⟨h1, h2⟩ := dead_eq h
  unfold seenC setVs upTo
  simp [h1, h2]

theorem live_scan (lo hi : List Int) (ts : Int) : ∀ st : List Cel, scanC lo hi ts (st.filter liveC) = scanC lo hi ts st := by
  intro st
  unfold scanC
  induction st with
  | nil => rfl
  | cons c r ih =>
    cases hl : liveC c
    · rw [List.filter_cons_of_neg (by rw [hl]; simp), ih, List.map_cons, List.filter_cons_of_neg (by rw [seen_dead lo hi ts hl]; simp)]
    · rw [List.filter_cons_of_pos hl, List.map_cons, List.map_cons, List.filter_cons, List.filter_cons, ih]

/-- cells in memory -/
def CelsAt (w : World) (a : Option Addr) (n c : Nat) (st : List Cel) : Prop := ∃ ms, IsY layC w a n c ms ∧ (∀ m ∈ ms, MC.at w m) ∧ ms.map MC.c = st

theorem CelsAt.keep {w w' : World} {a : Option Addr} {n c : Nat} {st : List Cel} (h : CelsAt w a n c st) (hb : Below w.heap.size w w') : CelsAt w' a n c st := by
  obtain ⟨ms, h1, h2, h3⟩ := h
  exact ⟨ms, h1.keep hb, fun m hm => (h2 m hm).keep hb, h3⟩

theorem twoScanP {w0 w : World} {p q : Nat} {st : List Cel} (h : TwoG w0 w p q st) (la : Option Addr) (ln lc : Nat) (lo : List Int) (hlo : IsBytes w la ln lc lo) (ha : Option Addr) (hn hc : Nat) (hi : List Int) (hhi : IsBytes w ha hn hc hi) (ts : Int) :
    Calls Try.prog 11 #[.pointer (some ⟨p, 0, none⟩), .slice la ln lc, .slice ha hn hc, .int .u64 ts] w fun e w' => ∃ a n c, e = .returned (.slice a n c) ∧ CelsAt w' a n c (scanC lo hi ts st) ∧ Below w.heap.size w w' := by
  obtain ⟨mb, z, cs, cv, ms, h1, h2, h3, h4⟩ := h
  refine (pScan_any _ _ w p mb z cs h2.s (by omega) la ln lc lo hlo ha hn hc hi hhi ts).mono ?_
  rintro e w' ⟨v, ms', rfl, k1, k2, k3, k4⟩
  obtain ⟨a, n, c, rfl, -, -, -⟩ := k1.any4
  exact ⟨a, n, c, rfl, ⟨ms', k1.is, fun m hm => (k3 m hm).now, by rw [k2, h3.eq, live_scan, h4]⟩, k4⟩

theorem twoScanX {w0 w : World} {p q : Nat} {st : List Cel} (h : TwoG w0 w p q st) (la : Option Addr) (ln lc : Nat) (lo : List Int) (hlo : IsBytes w la ln lc lo) (ha : Option Addr) (hn hc : Nat) (hi : List Int) (hhi : IsBytes w ha hn hc hi) (ts : Int) :
    Calls Try.prog 12 #[.pointer (some ⟨q, 0, none⟩), .slice la ln lc, .slice ha hn hc, .int .u64 ts] w fun e w' => ∃ a n c, e = .returned (.slice a n c) ∧ CelsAt w' a n c (scanC lo hi ts st) ∧ Below w.heap.size w w' := by
  obtain ⟨mb, z, cs, cv, ms, h1, h2, h3, h4⟩ := h
  have hln := h3.len
  rw [List.length_map] at hln
  refine (scan_any _ w0 w q cv ms h2.x (by omega) (fun m hm => by have := h3.few h2.s m hm; omega) la ln lc lo hlo ha hn hc hi hhi ts).mono ?_
  rintro e w' ⟨v, mcs, rfl, k1, k2, k3, k4⟩
  obtain ⟨a, n, c, rfl, -, -, -⟩ := k1.any4
  have hb := h2.x.b.trans (k4.mono h2.x.b.size)
  exact ⟨a, n, c, rfl, ⟨mcs, k1.is, fun m hm => (k2 m hm).at hb, by rw [k3, h4]⟩, k4⟩

theorem sameCels {w : World} {a : Option Addr} {n c : Nat} {b : Option Addr} {n' c' : Nat} {st : List Cel} (h : CelsAt w a n c st) (h' : CelsAt w b n' c' st) :
    Calls Try.prog 10 #[.slice a n c, .slice b n' c'] w fun e w' => e = .returned (.bool true) ∧ Below w.heap.size w w' := by
  obtain ⟨ms, h1, h2, h3⟩ := h
  obtain ⟨ms', k1, k2, k3⟩ := h'
  exact sameC_any a n c ms b n' c' ms' w h1 k1 h2 k2 (h3.trans k3.symm)

theorem isB_zero (w : World) : IsBytes w none 0 0 [] := ⟨rfl, Nat.le_refl _, Nat.zero_le _, (fun c hc => by cases hc), .inl rfl⟩

end Go.Proofs.Ytfldiapdfpkdaaa
