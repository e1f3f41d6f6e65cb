/- A range over slices.Values of strings: the list's things come one by one; the body is asked at the place that is next alone. -/
import Derived.Test.YtfldiapdfpkdaaaQw1
import Derived.RangeFuncNested
import Derived.RangeFuncBox
import Derived.RangeFuncBound
import Derived.RangeFuncCalls
import Derived.RangeFuncLeaves
import Derived.Shelf.Abstract
import Derived.Shelf.RegionOpen
import Derived.OwnWalkIn
import Derived.TacticsInMore
import Derived.LoopNIn
import Derived.LoopIn
import Derived.Maps.AppendAt
import Derived.Lib.SliceRun
namespace Go.Proofs.Ytfldiapdfpkdaaa
open Go.RowKit Go.Shelf NumMath
set_option linter.unusedVariables false
set_option maxRecDepth 100000

attribute [local go_sem] Oper.semAt_some

def layS : Lay (List UInt8) where
  e := 9
  t := 89
  k := 1
  bys := 16
  z := .string ⟨#[]⟩
  cells := fun x => [encStr x]
  len := fun _ => rfl
  one := by intro x u hu; simp at hu; subst hu; rfl
  pos := by decide
  few := by decide
  und := Try.underlying89
  info := by kernel_rfl
  zs := rfl

theorem flatS (xs : List (List UInt8)) : flatY layS xs = xs.map encStr := by
  unfold flatY
  induction xs with
  | nil => rfl
  | cons x r ih => rw [List.flatMap_cons, ih]; rfl

set_option maxHeartbeats 2000000 in
theorem valsS_in (F : Fence) (n : Nat) (hf : F.fn 68) (hro : F.round = none) (hn : 1 ≤ n) (l Bs len cap : Nat) (a : Option Addr) (xs : List (List UInt8)) (hlen : xs.length = len) (hl5 : len ≤ 1000000) (J : Nat → World → Prop)
    (hJ : ∀ j W, J j W → W.cell? ⟨Bs, 0, none⟩ = some (.slice a len cap) ∧ SrcY layS W a len xs)
    (hY : ∀ j x W, xs[j]? = some x → J j W → YieldAt F (n - 1) Try.prog l #[encStr x] W fun e W' => e = .returned (.bool true) ∧ J (j + 1) W')
    (W : World) (h0 : J 0 W) :
    CallsIn F n Try.prog 68 #[.func (.yield l) #[] #[], .pointer (some ⟨Bs, 0, none⟩)] W fun e W' => (∃ v, e = .returned v) ∧ J len W' := by
  refine callsIn_of_wp Try.func68 rfl hf ?_ hro
  simp only [Try.ntmps68, List.size_toArray, List.length_cons, List.length_nil, Nat.reduceAdd, Nat.reduceSub, Array.replicate_succ, Array.replicate_zero, List.push_toArray, List.append_toArray, List.nil_append, List.cons_append]
  have hBs := (hJ 0 W h0).1
  gi_wp2
  gi_loopw [7] (fun i wr => ∃ j : Nat, j ≤ len ∧ i = .int .i64 (j : Int) ∧ J j wr) (fun i _ => len - (intOf i).toNat)
  case atStart => exact ⟨0, Nat.zero_le _, rfl, h0⟩
  case round =>
    obtain ⟨j, hj, rfl, hJs⟩ := hrel
    by_cases hlt : j < len
    · have hj2 : j < xs.length := by omega
      obtain ⟨x, hx⟩ : ∃ x, xs[j]? = some x := ⟨_, List.getElem?_eq_getElem hj2⟩
      rcases (hJ j wr hJs).2.2 with h2 | ⟨g, off, ha, hg, hC⟩
      · omega
      have hcell : wr.cell? ⟨g, off + j, none⟩ = some (encStr x) := by have := hC j x hx 0 _ rfl; simpa [layS] using this
      obtain ⟨fn, tmps, assign, body, hy, hR⟩ := hY j x wr hx hJs
      have hjl : (j : Int) < (len : Int) := by omega
      subst ha
      clear hY hC hJ
      gi_wp2
      refine hR.mono ?_
      rintro e W3 ⟨rfl, hJ3⟩
      gi_wp2
      go_roundw
      case rel => exact ⟨j + 1, by omega, by go_num, hJ3⟩
      case measure => simp [intOf]; omega
    · have hjn : j = len := by omega
      subst hjn
      gi_wp2
      go_end0
      exact ⟨⟨_, rfl⟩, hJs⟩

theorem valsS_any (a : Option Addr) (len cap : Nat) (w : World) :
    Calls Try.prog 55 #[.slice a len cap] w fun e w' => e = .returned (.func (.func 68) #[] #[.pointer (some ⟨w.heap.size, 0, none⟩)]) ∧ w' = w.alloc (.cells #[.slice a len cap] 89) := by
  go_enter Try.func55, Try.ntmps55
  go_wp2
  go_ret
  exact ⟨rfl, rfl⟩

/-- a body that goes on -/
def goesOn (R : World → Prop) : Exit → Act → World → Prop
  | .normal, _, W => R W
  | _, _, _ => False

theorem put_other {W : World} {l k : Nat} (o : Obj) (h : k ≠ l) : (W.putObj l o).heap[k]? = W.heap[k]? := World.putObj_heap_other h

/-- a range over slices.Values of strings, whose body always goes on; the loop's own record lies at the second new block -/
theorem loopV {g : Operand} {ps : Array Tmp} {assign body : Code} {Q : Exit → Act → World → Prop} {a : Act} {w : World} {n : Nat} (h3 : 3 ≤ n) (Bs len cap : Nat) (sa : Option Addr) (xs : List (List UInt8)) (hlen : xs.length = len) (hl5 : len ≤ 1000000)
    (hg : a.eval g = .func (.func 68) #[] #[.pointer (some ⟨Bs, 0, none⟩)]) (hps : ps.size = 1) (I : Nat → World → Prop)
    (hI0 : ∀ o o', I 0 ((w.alloc o).alloc o')) (hIs : ∀ j W o, I j W → I j (W.putObj (w.heap.size + 1) o))
    (hIr : ∀ j W, I j W → W.cell? ⟨Bs, 0, none⟩ = some (.slice sa len cap) ∧ SrcY layS W sa len xs) (a₁ : List UInt8 → Act)
    (hasg : ∀ x W (K : Act → World → Prop), K (a₁ x) W → assign.wpIn (Fence.wide.inRound (w.heap.size + 1)) (n - 1 - 1) Try.prog (Exit.then K (fun _ _ _ => False)) { tmps := (ps.zip #[encStr x]).foldl (fun t (p, v) => t.setIfInBounds p v) a.tmps, defers := [] } W)
    (hbody : ∀ j x W, xs[j]? = some x → I j W → w.heap.size + 1 < W.heap.size → body.wpIn (Fence.wide.inRound (w.heap.size + 1)) (n - 1 - 1) Try.prog (goesOn (fun W' => W'.heap[w.heap.size + 1]? = W.heap[w.heap.size + 1]? ∧ W'.heap[w.heap.size]? = W.heap[w.heap.size]? ∧ I (j + 1) W')) (a₁ x) W)
    (hdone : ∀ W, I len W → W.heap[w.heap.size]? = some (.deferred (some [])) → Q .normal { a with defers := { target := .collected w.heap.size, args := #[] } :: a.defers } W) :
    (Code.rangeFunc g ps assign body).wpIn Fence.wide n Try.prog Q a w := by
  refine wpIn_rangeFunc (fun fn hfn => ?_)
  obtain ⟨R, hR⟩ : ∃ R : Loop, R = { state := .ready, pending := none, fn := fn, tmps := a.tmps, params := ps, assign := assign, body := body, defers := w.heap.size } := ⟨_, rfl⟩
  obtain ⟨W1, hW1⟩ : ∃ W1, W1 = (w.alloc (.deferred (some []))).alloc (.loop R) := ⟨_, rfl⟩
  have hl1 : W1.heap[w.heap.size + 1]? = some (.loop R) := by
    rw [hW1]; have := heap_alloc_new (w.alloc (.deferred (some []))) (.loop R); rwa [World.size_alloc] at this
  have hd1 : W1.heap[w.heap.size]? = some (.deferred (some [])) := by
    rw [hW1]; exact ((new_below (w.alloc (.deferred (some []))) (.loop R)).block _ (by simp)).trans (heap_alloc_new w _)
  have hent : (Instr.enterLoop fn a.tmps ps assign body none).run Try.prog w = .ok (w.heap.size + 1, [{ target := .collected w.heap.size, args := #[] }]) W1 := by
    rw [hW1, hR]; exact run_enterLoop_outer fn a.tmps ps assign body
  refine ⟨w.heap.size + 1, [{ target := .collected w.heap.size, args := #[] }], W1, { target := .fn (.func 68) #[.pointer (some ⟨Bs, 0, none⟩)], args := #[.func (.yield (w.heap.size + 1)) #[] #[]] }, W1, 68, #[.func (.yield (w.heap.size + 1)) #[] #[], .pointer (some ⟨Bs, 0, none⟩)], W1, hent, ?_, fun _ _ => trivial, ?_, fun _ => by omega, ?_⟩
  · simp only [resolve, hg]
    simp [go_sem]
  · simp [invoke, go_sem]
  · refine (valsS_in Fence.wide (n - 1) trivial rfl (by omega) (w.heap.size + 1) Bs len cap sa xs hlen hl5 (fun j W => I j W ∧ W.heap[w.heap.size + 1]? = some (.loop R) ∧ W.heap[w.heap.size]? = some (.deferred (some []))) (fun j W h => hIr j W h.1) ?_ W1 ⟨by rw [hW1]; exact hI0 _ _, hl1, hd1⟩).mono ?_
    · rintro j x W hx ⟨hi, hl, hk⟩
      have hlt : w.heap.size + 1 < W.heap.size := (Array.getElem?_eq_some_iff.1 hl).1
      have hy := run_yield (P := Try.prog) (args := #[encStr x]) hl (by rw [hR]; simp [hps])
      have eP : R.params = ps := by rw [hR]
      have eT : R.tmps = a.tmps := by rw [hR]
      have eA : R.assign = assign := by rw [hR]
      have eB : R.body = body := by rw [hR]
      have eF : R.fn = fn := by rw [hR]
      rw [eP, eT, eA, eB, eF] at hy
      refine ⟨fn, _, assign, body, hy, roundIn_of_wpIn hfn (hasg x W _ ⟨_, run_beginRound hl (by rw [hR]), ?_⟩)⟩
      have hl2 := World.putObj_heap_same (o := .loop { R with state := .busy }) hlt
      have hk2 := (put_other (W := W) (l := w.heap.size + 1) (k := w.heap.size) (.loop { R with state := .busy }) (by omega)).trans hk
      refine wpIn_mono (hbody j x _ hx (hIs j W _ hi) (by simpa [World.putObj] using hlt)) ?_
      intro e a3 W3 hp
      cases e with
      | normal =>
        obtain ⟨e1, e2, hi3⟩ := hp
        have hl3 := e1.trans hl2
        have hlt3 : w.heap.size + 1 < W3.heap.size := (Array.getElem?_eq_some_iff.1 hl3).1
        refine ⟨_, _, run_endRound (P := Try.prog) none hl3, rfl, hIs _ _ _ hi3, ?_, (put_other _ (by omega)).trans (e2.trans hk2)⟩
        rw [World.putObj_heap_same hlt3, hR]
        rfl
      | ret => exact hp.elim
      | exit id => exact hp.elim
      | goto t => exact hp.elim
      | panic ch => exact hp.elim
      | outgrown => exact hp.elim
    · rintro e W2 ⟨⟨v, rfl⟩, hi, hl, hk⟩
      have hend := run_endLoop (P := Try.prog) hl (by rw [hR]; simp)
      have eN : R.pending = none := by rw [hR]
      rw [eN] at hend
      exact ⟨none, _, hend, hdone _ (hIs _ _ _ hi) ((put_other _ (by omega)).trans hk)⟩

end Go.Proofs.Ytfldiapdfpkdaaa
