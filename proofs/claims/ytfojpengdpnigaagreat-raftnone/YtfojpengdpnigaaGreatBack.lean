/- slices.Backward over entries: what it tells, round by round. -/
import Derived.Test.YtfojpengdpnigaaGreatEnts
import Derived.RangeFuncNested
import Derived.RangeFuncBound
import Derived.RangeFuncCalls
import Derived.RangeFuncLeaves
import Derived.Shelf.Abstract
import Derived.Shelf.RegionOpen
import Derived.OwnWalkIn
import Derived.TacticsInMore
import Derived.LoopNIn
import Derived.LoopIn
namespace Go.Proofs.YtfojpengdpnigaaGreat
open Go.RowKit Go.Shelf NumMath
set_option linter.unusedVariables false
set_option maxRecDepth 100000

attribute [local go_sem] Oper.semAt_some

/-- an entry as a value -/
def MEnt.val (m : MEnt) : Value := .agg #[.int .u64 m.e.i, .int .u64 m.e.t, .int .i64 m.e.k, .slice m.b m.n m.c]

/-- the places from the last one down -/
def downs (n : Nat) : List Nat := (List.range n).reverse

theorem downs_length (n : Nat) : (downs n).length = n := by simp [downs]

theorem downs_take (n j : Nat) (h : j < n) : (downs n).take (n - j) = (downs n).take (n - (j + 1)) ++ [j] := by
  have e : n - j = (n - (j + 1)) + 1 := by omega
  rw [e, List.take_add_one]
  congr 1
  have hl : n - (j + 1) < (downs n).length := by rw [downs_length]; omega
  rw [List.getElem?_eq_getElem hl]
  simp [downs]
  omega

def encB (ms : List MEnt) (j : Nat) : Array Value := #[.int .i64 (j : Int), (ms.getD j ment0).val]

set_option maxHeartbeats 2000000 in
theorem back1_in (F : Fence) (n : Nat) (hf : F.fn 159) (hro : F.round = none) (hn : 1 ≤ n) (l Bs n₀ g off len cap : Nat) (ms : List MEnt) (hlen : ms.length = len) (hl5 : len ≤ 1000000) (hg : g < n₀) (J Jx : List Nat → World → Prop)
    (hY : ∀ pre x W, J pre W → pre.length < len → YieldAt F (n - 1) Tryz.prog l (encB ms x) W fun e W' => (e = .returned (.bool true) ∧ J (pre ++ [x]) W' ∧ Below n₀ W W') ∨ (e = .returned (.bool false) ∧ Jx (pre ++ [x]) W'))
    (W : World) (hBs : W.cell? ⟨Bs, 0, none⟩ = some (.slice (some ⟨g, off, none⟩) len cap)) (hBn : Bs < n₀) (hc : CellsM W g off ms) (h0 : J [] W) :
    CallsIn F n Tryz.prog 159 #[.func (.yield l) #[] #[], .pointer (some ⟨Bs, 0, none⟩)] W fun e W' => (∃ v, e = .returned v) ∧ ((∃ ys, ys = downs len ∧ J ys W') ∨ (∃ pre, pre <+: downs len ∧ Jx pre W')) := by
  refine callsIn_of_wp Tryz.func159 rfl hf ?_ hro
  simp only [Tryz.ntmps159, List.size_toArray, List.length_cons, List.length_nil, Nat.reduceAdd, Nat.reduceSub, Array.replicate_succ, Array.replicate_zero, List.push_toArray, List.append_toArray, List.nil_append, List.cons_append]
  gi_wp2
  gi_loopw [3] (fun i wr => ∃ j : Nat, j ≤ len ∧ i = .int .i64 ((j : Int) - 1) ∧ J ((downs len).take (len - j)) wr ∧ Below n₀ W wr) (fun i _ => (intOf i + 1).toNat)
  case atStart => exact ⟨len, Nat.le_refl _, rfl, by rw [Nat.sub_self]; exact h0, Below.refl _ _⟩
  case round =>
    obtain ⟨j1, hj, rfl, hJs, hnx⟩ := hrel
    cases j1 with
    | zero =>
      gi_wp2
      go_end0
      exact ⟨⟨_, rfl⟩, .inl ⟨_, rfl, by have h := hJs; rw [Nat.sub_zero, List.take_of_length_le (by rw [downs_length]; exact Nat.le_refl _)] at h; exact h⟩⟩
    | succ j =>
      have e1 : ((j + 1 : Nat) : Int) - 1 = (j : Int) := by omega
      rw [e1]
      obtain ⟨c0, c1, c2, c3⟩ := (hc j (by omega)).same (hnx.block g hg)
      have hBs' := (hnx.cell (p := ⟨Bs, 0, none⟩) hBn).trans hBs
      obtain ⟨fn, tmps, assign, body, hy, hR⟩ := hY _ j wr hJs (by rw [List.length_take, downs_length]; omega)
      unfold encB MEnt.val at hy
      have HD := hide (downs_take len j (by omega))
      generalize ms.getD j ment0 = m at *
      obtain ⟨⟨mi, mt, mk, md⟩, mb, mn, mc⟩ := m
      dsimp only at c0 c1 c2 c3 hy
      have hj0 : (0 : Int) ≤ (j : Int) := by omega
      have hjl : (j : Int) < (len : Int) := by omega
      clear hY hc
      gi_wp2
      refine hR.mono ?_
      rintro e W3 (⟨rfl, hJ3, hk3⟩ | ⟨rfl, hJx3⟩)
      · gi_wp2
        go_roundw
        case rel => exact ⟨j, by omega, by go_num, by rw [HD.out]; exact hJ3, hnx.trans hk3⟩
        case measure => simp [intOf]
      · gi_wp2
        refine bodyPost_ret (results_none rfl _ _ _) rfl ?_
        exact ⟨⟨_, rfl⟩, .inr ⟨_, by rw [← HD.out]; exact List.take_prefix _ _, hJx3⟩⟩

set_option maxHeartbeats 1000000 in
/-- .. of no entry: no round -/
theorem back1_none (F : Fence) (n : Nat) (hf : F.fn 159) (hro : F.round = none) (l Bs cap : Nat) (a : Option Addr) (J : List Nat → World → Prop) (W : World) (hBs : W.cell? ⟨Bs, 0, none⟩ = some (.slice a 0 cap)) (h0 : J [] W) :
    CallsIn F n Tryz.prog 159 #[.func (.yield l) #[] #[], .pointer (some ⟨Bs, 0, none⟩)] W fun e W' => (∃ v, e = .returned v) ∧ J [] W' := by
  refine callsIn_of_wp Tryz.func159 rfl hf ?_ hro
  simp only [Tryz.ntmps159, List.size_toArray, List.length_cons, List.length_nil, Nat.reduceAdd, Nat.reduceSub, Array.replicate_succ, Array.replicate_zero, List.push_toArray, List.append_toArray, List.nil_append, List.cons_append]
  gi_wp2
  gi_loopw [3] (fun i wr => i = .int .i64 (-1) ∧ J [] wr) (fun _ _ => 0)
  case atStart => exact ⟨rfl, h0⟩
  case round =>
    obtain ⟨rfl, hJs⟩ := hrel
    gi_wp2
    go_end0
    exact ⟨⟨_, rfl⟩, hJs⟩

theorem back_in (F : Fence) (n : Nat) (hf : F.fn 148) (hro : F.round = none) (a : Option Addr) (len cap : Nat) (w : World) :
    CallsIn F n Tryz.prog 148 #[.slice a len cap] w fun e w' => e = .returned (.func (.func 159) #[] #[.pointer (some ⟨w.heap.size, 0, none⟩)]) ∧ w' = w.alloc (.cells #[.slice a len cap] 29) := by
  refine callsIn_of_wp Tryz.func148 rfl hf ?_ hro
  simp only [Tryz.ntmps148, List.size_toArray, List.length_cons, List.length_nil, Nat.reduceAdd, Nat.reduceSub, Array.replicate_succ, Array.replicate_zero, List.push_toArray, List.append_toArray, List.nil_append, List.cons_append]
  gi_wp2
  go_ret
  exact ⟨rfl, rfl⟩

theorem back_stops (F : Fence) (n : Nat) (hf : F.fn 159) (hro : F.round = none) (hn : 1 ≤ n) (X : Nat → Prop) (Bs n₀ : Nat) (a : Option Addr) (len cap : Nat) (ms : List MEnt) (w : World) (hBs : Bs < n₀) (hn₀ : n₀ ≤ w.heap.size) (hl5 : len ≤ 1000000)
    (hc : w.cell? ⟨Bs, 0, none⟩ = some (.slice a len cap)) (hI : IsMs X w a len cap ms) (hblk : ∀ y, a = some y → 0 < len → y.block < n₀) :
    SeqStopsK F n Tryz.prog 159 #[.pointer (some ⟨Bs, 0, none⟩)] (encB ms) (Below n₀) (fun ys => ys = downs len) (fun pre => pre <+: downs len) len w := fun l J Jx W hW _ _ hY h0 => by
  have hc' := (hW.cell (p := ⟨Bs, 0, none⟩) (Nat.lt_of_lt_of_le hBs hn₀)).trans hc
  by_cases h : len = 0
  · subst h
    exact (back1_none F n hf hro l Bs cap a J W hc' h0).mono fun e W' ⟨he, hj⟩ => ⟨he, .inl ⟨_, rfl, hj⟩⟩
  · obtain ⟨g, off, rfl, hg, hB⟩ := hI.at (k := 0) (by omega)
    exact back1_in F n hf hro hn l Bs n₀ g off len cap ms hI.1 hl5 (hblk _ rfl (by omega)) J Jx hY W hc' hBs (fun i hi => (hB i hi).same (hW.block g hg)) h0

end Go.Proofs.YtfojpengdpnigaaGreat
