/- The program's store alone: Intents, Scan and Turn one behind the other. -/
import Derived.Test.YtfldiapdfpkdaaaQsK
import Derived.Test.YtfldiapdfpkdaaaQsO
namespace Go.Proofs.Ytfldiapdfpkdaaa
open Go.RowKit NumMath Go.ChangeShapes Go.WideShapes Go.Deep
set_option linter.unusedVariables false
set_option maxRecDepth 100000

theorem sol_ints {w0 w : World} {p N : Nat} {st : List Cel} (h : SolS w0 w p N st) (hN : N ≤ 5000) (txn : Int) (L : Nat) (hL : (intentsC st txn).length = L) :
    Calls Try.prog 17 #[.pointer (some ⟨p, 0, none⟩), .int .u64 txn] w fun e w' => ∃ a c, e = .returned (.slice a L c) ∧ Below w.heap.size w w' := by
  obtain ⟨mb, z, cs, h1, h2, h3, h4⟩ := h
  subst h3
  refine (pInts_any _ _ w p mb z cs h2 (by omega) txn).mono ?_
  rintro e w' ⟨v, ms, rfl, k1, k2, -, k4⟩
  obtain ⟨a, n, c, rfl, hn, -, -⟩ := k1.any4
  have : n = L := by rw [← hn, ← hL, ← k2, List.length_map]
  subst this
  exact ⟨a, c, rfl, k4⟩

theorem sol_scan {w0 w : World} {p N : Nat} {st : List Cel} (h : SolS w0 w p N st) (hN : N ≤ 5000) (ts : Int) :
    Calls Try.prog 11 #[.pointer (some ⟨p, 0, none⟩), .slice none 0 0, .slice none 0 0, .int .u64 ts] w fun e w' => ∃ a n c, e = .returned (.slice a n c) ∧ n ≤ c ∧ c ≤ maxLen ∧ Foot (fun k => k < w.heap.size) w' (fun w => CelsAt w a n c (scanC [] [] ts st)) ∧ Below w.heap.size w w' := by
  obtain ⟨mb, z, cs, h1, h2, h3, h4⟩ := h
  subst h3
  refine (pScan_any _ _ w p mb z cs h2 (by omega) none 0 0 [] (isB_zero _) none 0 0 [] (isB_zero _) ts).mono ?_
  rintro e w' ⟨v, ms, rfl, k1, k2, k3, k4⟩
  obtain ⟨a, n, c, rfl, hn, hnc, hcm⟩ := k1.any4
  exact ⟨a, n, c, rfl, hnc, hcm, ((foot_ownY k1 (fun k hk => hk)).and (Foot.all ms (fun x hx => (k3 x hx).more (fun k hk => .inl (.inl hk))))).imp (fun w' h => ⟨ms, h.1, h.2, k2⟩), k4⟩

/-- what is there behind a turn -/
def turned (st : List Cel) (txn ts : Int) : List Cel := (stepL (turnC1 ts) (intentsC st txn) (intentsC st txn).length st).filter liveC

theorem turned_eq {st : List Cel} (hg : GoodP st) (txn ts : Int) : turned st txn ts = (turnK st txn ts).filter liveC := by
  have h := live_turn (st := st) hg.sort txn ts
  rw [List.filter_eq_self.2 hg.live] at h
  exact h

theorem turned_none {st : List Cel} (hg : GoodP st) (txn ts : Int) : (intentsC (turned st txn ts) txn).length = 0 := by
  rw [turned_eq hg, live_intents, turn_none hg.sort]
  rfl

theorem turned_at {st : List Cel} (hg : GoodP st) {txn ts tm : Int} (hz : txn ≠ 0) {c : Cel} (hc : c ∈ scanC [] [] tm st) (ht : c.it.tx = txn) : atC (turned st txn ts) c.key ts = some { c.it with ts := ts } := by
  unfold scanC at hc
  obtain ⟨h1, -⟩ := List.mem_filter.1 hc
  obtain ⟨d, hd, rfl⟩ := List.mem_map.1 h1
  rw [turned_eq hg, live_at (sort_turn hg.sort txn ts)]
  have h2 := turn_at hg.sort txn ts hd (by unfold isItC; exact decide_eq_true ⟨hz, ht⟩)
  exact h2

theorem sol_turnT {w0 w : World} {B p N : Nat} {st : List Cel} (h : SolT w0 w B p N st) (hN : N ≤ 5000) (hg : GoodP st) (txn ts : Int) (hts : 0 ≤ ts ∧ ts < 18446744073709551616) (L : Nat) (hL : (intentsC st txn).length = L) :
    Calls Try.prog 22 #[.pointer (some ⟨p, 0, none⟩), .int .u64 txn, .int .u64 ts] w fun e w' => e = .returned (.int .i64 (L : Int)) ∧ SolS w0 w' p (N + 1) (turned st txn ts) ∧ Keeps (fun k => k < B) w w' := by
  obtain ⟨mb, z, cs, h1, h2, h3, h4, hB⟩ := h
  subst h3
  subst hL
  refine (pTurn_any _ _ w p mb z cs h2 (by omega) hg.live txn ts hts).mono ?_
  rintro e w' ⟨rfl, cs', h5, h6, h7, h8⟩
  exact ⟨rfl, ⟨mb, z + 1, cs', by omega, h5, h6, h4.trans (h7.below h4.size (fun k hk => h2.mlo' hk))⟩, keeps_mono h7 hB⟩

/-- a cell in a block -/
theorem boxC_rng (w : World) (m : MC) (ty : TypeId) : (w.alloc (.cells #[.slice m.ka m.kn m.kc, .slice m.va m.vn m.vc, .int .u64 m.it.v.ts, .int .u64 m.it.v.tx, .bool m.it.v.dd, .slice m.it.va m.it.vn m.it.vc, .slice m.it.ka m.it.kn m.it.kc] ty)).rangeAt w.heap.size 0 (layC.cells m) := rangeY_new w w.heap.size _ _ rfl

theorem CelsAt.get {w : World} {a : Option Addr} {n c : Nat} {st : List Cel} (h : CelsAt w a n c st) {i : Nat} (hi : i < n) : ∃ g off m, a = some ⟨g, off, none⟩ ∧ g < w.heap.size ∧ w.rangeAt g (off + i * 7) (layC.cells m) ∧ MC.at w m ∧ m.c ∈ st := by
  obtain ⟨ms, h1, h2, h3⟩ := h
  obtain ⟨g, off, rfl, hg, hC⟩ := h1.at hi
  have hl := h1.1
  have hx : ms[i]? = some (ms[i]'(by omega)) := List.getElem?_eq_getElem _
  refine ⟨g, off, _, rfl, hg, hC i _ hx, h2 _ (List.mem_of_getElem? hx), ?_⟩
  rw [← h3]
  exact List.mem_map.2 ⟨_, List.mem_of_getElem? hx, rfl⟩

end Go.Proofs.Ytfldiapdfpkdaaa
