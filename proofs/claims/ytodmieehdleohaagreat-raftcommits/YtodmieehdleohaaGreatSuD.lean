/- slices.Values, slices.Collect, slices.Sorted at numbers. slices.AppendSeq, Collect, Sorted over slices.Values of numbers. slices.Collect, Sorted; slices.Compact at numbers. slices.Compact at numbers. -/
import Derived.Test.YtodmieehdleohaaGreatSuC
import Derived.RangeFuncNested
import Derived.RangeFuncBox
import Derived.RangeFuncBound
import Derived.RangeFuncCalls
import Derived.RangeFuncLeaves
import Derived.Shelf.Abstract
import Derived.Shelf.RegionOpen
import Derived.OwnWalkIn
import Derived.TacticsInMore
import Derived.LoopNIn
import Derived.LoopIn
import Derived.Maps.AppendAt
import Derived.Lib.SliceRun
namespace Go.Proofs.YtodmieehdleohaaGreat
open Go.RowKit Go.Shelf NumMath
set_option linter.unusedVariables false
set_option maxRecDepth 100000

attribute [local go_sem] Oper.semAt_some

def encU (x : Int) : Array Value := #[.int .u64 x]

set_option maxHeartbeats 2000000 in
theorem vals1_in (F : Fence) (n : Nat) (hf : F.fn 146) (hro : F.round = none) (hn : 1 ≤ n) (l Bs n₀ g off len cap : Nat) (xs : List Int) (hlen : xs.length = len) (hl5 : len ≤ 1000000) (hg : g < n₀) (J Jx : List Int → World → Prop)
    (hY : ∀ pre x W, J pre W → pre.length < len → YieldAt F (n - 1) Tryz.prog l (encU x) W fun e W' => (e = .returned (.bool true) ∧ J (pre ++ [x]) W' ∧ Below n₀ W W') ∨ (e = .returned (.bool false) ∧ Jx (pre ++ [x]) W'))
    (W : World) (hBs : W.cell? ⟨Bs, 0, none⟩ = some (.slice (some ⟨g, off, none⟩) len cap)) (hc : NumsAt W g off xs) (h0 : J [] W) :
    CallsIn F n Tryz.prog 146 #[.func (.yield l) #[] #[], .pointer (some ⟨Bs, 0, none⟩)] W fun e W' => (∃ v, e = .returned v) ∧ ((∃ ys, ys = xs ∧ J ys W') ∨ (∃ pre, pre <+: xs ∧ Jx pre W')) := by
  refine callsIn_of_wp Tryz.func146 rfl hf ?_ hro
  simp only [Tryz.ntmps146, List.size_toArray, List.length_cons, List.length_nil, Nat.reduceAdd, Nat.reduceSub, Array.replicate_succ, Array.replicate_zero, List.push_toArray, List.append_toArray, List.nil_append, List.cons_append]
  gi_wp2
  gi_loopw [7] (fun i wr => ∃ j : Nat, j ≤ len ∧ i = .int .i64 (j : Int) ∧ J (xs.take j) wr ∧ Below n₀ W wr) (fun i _ => len - (intOf i).toNat)
  case atStart => exact ⟨0, Nat.zero_le _, rfl, h0, Below.refl _ _⟩
  case round =>
    obtain ⟨j, hj, rfl, hJs, hnx⟩ := hrel
    by_cases hlt : j < len
    · have hj2 : j < xs.length := by omega
      have hcell := (hnx.cell (p := ⟨g, off + j, none⟩) hg).trans (hc j hj2)
      obtain ⟨fn, tmps, assign, body, hy, hR⟩ := hY _ (xs.getD j 0) wr hJs (by rw [List.length_take]; omega)
      unfold encU at hy
      have HT : Hid (xs.take (j + 1) = xs.take j ++ [xs.getD j 0]) := by
        show _ = _
        rw [List.take_add_one, List.getElem?_eq_getElem hj2]
        simp [List.getD, List.getElem?_eq_getElem hj2]
      generalize xs.getD j 0 = x at *
      have hjl : (j : Int) < (len : Int) := by omega
      clear hY hc
      gi_wp2
      refine hR.mono ?_
      rintro e W3 (⟨rfl, hJ3, hk3⟩ | ⟨rfl, hJx3⟩)
      · gi_wp2
        go_roundw
        case rel => exact ⟨j + 1, by omega, by go_num, by rw [HT.out]; exact hJ3, hnx.trans hk3⟩
        case measure => simp [intOf]; omega
      · gi_wp2
        refine bodyPost_ret (results_none rfl _ _ _) rfl ?_
        exact ⟨⟨_, rfl⟩, .inr ⟨_, by rw [← HT.out]; exact List.take_prefix _ _, hJx3⟩⟩
    · have hjn : j = len := by omega
      subst hjn
      gi_wp2
      go_end0
      exact ⟨⟨_, rfl⟩, .inl ⟨_, rfl, by have h := hJs; rw [List.take_of_length_le (by omega)] at h; exact h⟩⟩

set_option maxHeartbeats 1000000 in
theorem vals1_none (F : Fence) (n : Nat) (hf : F.fn 146) (hro : F.round = none) (l Bs cap : Nat) (a : Option Addr) (J : List Int → World → Prop) (W : World) (hBs : W.cell? ⟨Bs, 0, none⟩ = some (.slice a 0 cap)) (h0 : J [] W) :
    CallsIn F n Tryz.prog 146 #[.func (.yield l) #[] #[], .pointer (some ⟨Bs, 0, none⟩)] W fun e W' => (∃ v, e = .returned v) ∧ J [] W' := by
  refine callsIn_of_wp Tryz.func146 rfl hf ?_ hro
  simp only [Tryz.ntmps146, List.size_toArray, List.length_cons, List.length_nil, Nat.reduceAdd, Nat.reduceSub, Array.replicate_succ, Array.replicate_zero, List.push_toArray, List.append_toArray, List.nil_append, List.cons_append]
  gi_wp2
  gi_loopw [7] (fun i wr => i = .int .i64 0 ∧ J [] wr) (fun _ _ => 0)
  case atStart => exact ⟨rfl, h0⟩
  case round =>
    obtain ⟨rfl, hJs⟩ := hrel
    gi_wp2
    go_end0
    exact ⟨⟨_, rfl⟩, hJs⟩

theorem vals_in (F : Fence) (n : Nat) (hf : F.fn 120) (hro : F.round = none) (a : Option Addr) (len cap : Nat) (w : World) :
    CallsIn F n Tryz.prog 120 #[.slice a len cap] w fun e w' => e = .returned (.func (.func 146) #[] #[.pointer (some ⟨w.heap.size, 0, none⟩)]) ∧ w' = w.alloc (.cells #[.slice a len cap] 25) := by
  refine callsIn_of_wp Tryz.func120 rfl hf ?_ hro
  simp only [Tryz.ntmps120, List.size_toArray, List.length_cons, List.length_nil, Nat.reduceAdd, Nat.reduceSub, Array.replicate_succ, Array.replicate_zero, List.push_toArray, List.append_toArray, List.nil_append, List.cons_append]
  gi_wp2
  go_ret
  exact ⟨rfl, rfl⟩

theorem vals_stops (F : Fence) (n : Nat) (hf : F.fn 146) (hro : F.round = none) (hn : 1 ≤ n) (Bs n₀ : Nat) (a : Option Addr) (len cap : Nat) (xs : List Int) (w : World) (hBs : Bs < w.heap.size) (hn₀ : n₀ ≤ w.heap.size) (hl5 : len ≤ 1000000)
    (hc : w.cell? ⟨Bs, 0, none⟩ = some (.slice a len cap)) (hI : SrcU w a len xs) (hblk : ∀ y, a = some y → 0 < len → y.block < n₀) :
    SeqStopsK F n Tryz.prog 146 #[.pointer (some ⟨Bs, 0, none⟩)] encU (Below n₀) (fun ys => ys = xs) (fun pre => pre <+: xs) len w := fun l J Jx W hW _ _ hY h0 => by
  have hc' := (hW.cell (p := ⟨Bs, 0, none⟩) hBs).trans hc
  by_cases h : len = 0
  · subst h
    have hx : xs = [] := List.length_eq_zero_iff.1 hI.1
    subst hx
    exact (vals1_none F n hf hro l Bs cap a J W hc' h0).mono fun e W' ⟨he, hj⟩ => ⟨he, .inl ⟨_, rfl, hj⟩⟩
  · rcases hI.2 with h2 | ⟨g, off, rfl, hg, hB⟩
    · exact absurd h2 h
    · exact vals1_in F n hf hro hn l Bs n₀ g off len cap xs hI.1 hl5 (hblk _ rfl (by omega)) J Jx hY W hc' (fun i hi => (hW.cell (p := ⟨g, off + i, none⟩) hg).trans (hB i hi)) h0

end Go.Proofs.YtodmieehdleohaaGreat

namespace Go.Proofs.YtodmieehdleohaaGreat
open Go.RowKit Go.Shelf NumMath
set_option linter.unusedVariables false
set_option maxRecDepth 100000

attribute [local go_sem] Oper.semAt_some

set_option maxHeartbeats 2000000 in
theorem appseq_any (Bs : Nat) (a : Option Addr) (len cap : Nat) (xs : List Int) (w : World) (hBs : Bs < w.heap.size) (hc : w.cell? ⟨Bs, 0, none⟩ = some (.slice a len cap)) (hI : SrcU w a len xs) (hl : len ≤ 1000000) :
    Calls Tryz.prog 155 #[.slice none 0 0, .func (.func 146) #[] #[.pointer (some ⟨Bs, 0, none⟩)]] w fun e w' => ∃ v, e = .returned v ∧ OwnU w' w.heap.size v xs ∧ Below w.heap.size w w' := by
  obtain ⟨i0, hi, hz0, hz1, hz2⟩ := info_parts infoU64
  refine (callsIn_wide (n := 5)).1 ?_
  refine callsIn_of_wp_marks Tryz.func155 rfl trivial ?_ rfl
  simp only [Tryz.ntmps155, List.size_toArray, List.length_cons, List.length_nil, Nat.reduceAdd, Nat.reduceSub, Array.replicate_succ, Array.replicate_zero, List.push_toArray, List.append_toArray, List.nil_append, List.cons_append]
  gi_wp2
  have bO := Boxed.new w 25 (.slice none 0 0)
  have hB0 : Below w.heap.size w (w.alloc (.cells #[.slice none 0 0] 25)) := new_below _ _
  refine wpIn_rangeFunc_ownG (F := Fence.wide) rfl (by omega) (gf := 146) (lb := #[.pointer (some ⟨Bs, 0, none⟩)]) rfl trivial (enters_of Tryz.func146 (by kernel_rfl) rfl)
    (vals_stops Fence.wide (5 - 1) trivial rfl (by omega) Bs w.heap.size a len cap xs (w.alloc (.cells #[.slice none 0 0] 25)) (by simp; omega) (by simp) hl ((hB0.cell (p := ⟨Bs, 0, none⟩) hBs).trans hc) (hI.keep hB0) (fun y hy h0 => ?blk)) belowK_t (belowK_b (by simp)) (Below.refl _ _) (fun _ => rfl)
    (fun pre W => (∃ v, Boxed W w.heap.size 25 v ∧ W.ownsRow w.heap.size 22 1 v pre.length (pre.map (Value.int .u64)) ∧ True) ∧ Below w.heap.size w W)
    (fun _ _ _ => False)
    (OwnFrom.and (Own.from (holdsRow_own w.heap.size w.heap.size 25 22 1 (fun (pre : List Int) => pre.length) (fun (pre : List Int) => pre.map (Value.int .u64)) (fun _ _ => True)) _) (ownFrom_below (Nat.le_refl _) (by simp)))
    (fun _ _ _ _ _ hs _ _ => hs)
    ⟨⟨_, bO, World.ownsRow_nil _ _ _ _, trivial⟩, hB0⟩
    (fun x => { tmps := #[.slice none 0 0, .func (.func 146) #[] #[.pointer (some ⟨Bs, 0, none⟩)], .pointer (some ⟨w.heap.size, 0, none⟩), undef, .slice none 0 0, .int .u64 x, .func (.func 146) #[] #[.pointer (some ⟨Bs, 0, none⟩)], .int .u64 x, undef, undef, undef, undef, undef], defers := [] }) ?assign ?body ?done ?stop
  case blk =>
    rcases hI.2 with h2 | ⟨g, off, e, hg, _⟩
    · omega
    · rw [hy] at e; cases e; exact hg
  case assign =>
    intro l x W K hK
    unfold encU
    gi_wp2
    exact hK
  case body =>
    rintro l pre x W ⟨⟨v, hv, hrow, -⟩, hB⟩ hlt
    have hc := hv.cell
    gi_wp2_with (gi_at_builtin; refine wpListIn_append_own _ rfl _ _ 25 rfl w.heap.size 22 i0 (.int .u64 0) 1 8 Tryz.underlying25 hi hz0 hz1 hz2 rfl (by decide) _ _ _ rfl (hrow.alloc _) ⟨W.heap.size, 0, none⟩ 1 1 [.int .u64 x] rfl rfl (cell_one_new _ _ _) (by simp [Value.oneCell']) (by unfold maxLen; omega) (by omega) (by have := hB.size; simp; omega) ?_; intro v' w1 hown' hgrow _; obtain ⟨g', cap', rfl⟩ := ownsRow_succ hown'; obtain ⟨hv1, hv2, hr2, hk2, hb2⟩ := hv.appended (by decide) hrow hB.size (Nat.le_refl _) hown' hgrow; have hc1 := hv1.cell; have hf1 := hv1.frozen)
    exact ⟨hk2.from _, hb2, ⟨_, hv2, by simpa using hr2, trivial⟩, hB.trans hb2⟩
  case done =>
    rintro D ys W hD rfl ⟨⟨v, hv, hrow, -⟩, hB⟩ hK
    have hc := hv.cell
    gi_wp2
    refine ⟨by simp, .inl ⟨_, _, rfl, run_takeDeferred hK, ?_⟩⟩
    exact ⟨_, results_tmp rfl _ _ _, v, rfl, ownsRow_putObj hrow _ hK rfl, hB.trans (belowK_b (w := w) (Nat.le_refl _) W D _ _ (by simp at hD; omega) hK rfl rfl)⟩
  case stop =>
    rintro D c pre W _ _ h _
    exact h.elim

end Go.Proofs.YtodmieehdleohaaGreat

namespace Go.Proofs.YtodmieehdleohaaGreat
open Go.RowKit NumMath
set_option linter.unusedVariables false
set_option maxRecDepth 100000

theorem collect_any (Bs : Nat) (a : Option Addr) (len cap : Nat) (xs : List Int) (w : World) (hBs : Bs < w.heap.size) (hc : w.cell? ⟨Bs, 0, none⟩ = some (.slice a len cap)) (hI : SrcU w a len xs) (hl : len ≤ 1000000) :
    Calls Tryz.prog 144 #[.func (.func 146) #[] #[.pointer (some ⟨Bs, 0, none⟩)]] w fun e w' => ∃ v, e = .returned v ∧ OwnU w' w.heap.size v xs ∧ Below w.heap.size w w' := by
  have HC := hide (appseq_any Bs a len cap xs w hBs hc hI hl)
  clear hc hI
  go_enter Tryz.func144, Tryz.ntmps144
  go_wp2_with (first
    | (go_at_call 155; go_must (refine HC.out.mono ?_); rintro e w1 ⟨v, rfl, hO, hb⟩; have HO := hide hO; have HB := hide hb; clear hO hb))
  go_ret
  exact ⟨v, rfl, HO.out, HB.out⟩

theorem insert_none (w : World) : Calls Tryz.prog 169 #[.slice none 0 0, .int .i64 0, .int .i64 0] w fun e w' => e = .returned (.tuple #[]) ∧ w' = w := by
  go_enter Tryz.func169, Tryz.ntmps169
  go_wp2
  go_loopw [6] (fun i wr => i = .int .i64 1 ∧ wr = w) (fun _ _ => 0)
  case atStart => exact ⟨rfl, rfl⟩
  case round =>
    obtain ⟨rfl, rfl⟩ := hrel
    go_wp2
    go_end0
    exact ⟨rfl, rfl⟩

theorem pdq_none (w : World) : Calls Tryz.prog 156 #[.slice none 0 0, .int .i64 0, .int .i64 0, .int .i64 0] w fun e w' => e = .returned (.tuple #[]) ∧ w' = w := by
  go_enter Tryz.func156, Tryz.ntmps156
  go_wp2
  go_loopw [1, 2, 3, 8, 9] (fun s1 s2 s3 s8 s9 wr => s1 = .int .i64 0 ∧ s2 = .int .i64 0 ∧ s3 = .int .i64 0 ∧ s8 = .bool true ∧ s9 = .bool true ∧ wr = w) (fun _ _ _ _ _ _ => 0)
  case atStart => exact ⟨rfl, rfl, rfl, rfl, rfl, rfl⟩
  case round =>
    obtain ⟨rfl, rfl, rfl, rfl, rfl, rfl⟩ := hrel
    go_wp2_with (first
      | (go_at_call 169; go_must (refine (insert_none _).mono ?_); rintro e w' ⟨rfl, hw⟩; have hw := hw.symm; subst hw))
    refine bodyPost_ret (results_none rfl _ _ _) rfl ?_
    exact ⟨rfl, rfl⟩

theorem sort_none (w : World) : Calls Tryz.prog 145 #[.slice none 0 0] w fun e w' => e = .returned (.tuple #[]) ∧ w' = w := by
  have HL := hide (len_any 0 w (by omega) (by omega))
  rw [show (bitLen (0 : Int).toNat) = 0 from rfl] at HL
  go_enter Tryz.func145, Tryz.ntmps145
  go_wp2_with (first
    | (go_at_call 157; go_must (refine HL.out.mono ?_); rintro e w' ⟨rfl, hw⟩; have hw := hw.symm; subst hw)
    | (go_at_call 156; go_must (refine (pdq_none _).mono ?_); rintro e w' ⟨rfl, hw⟩; have hw := hw.symm; subst hw))
  go_end0
  exact ⟨rfl, rfl⟩

/-- a slice that is the call's own, or nil; in order -/
def SortedPost (w : World) (xs : List Int) (e : Ending) (w' : World) : Prop :=
  Below w.heap.size w w' ∧ ((xs = [] ∧ e = .returned (.slice none 0 0)) ∨ ∃ g cap ys, e = .returned (.slice (some ⟨g, 0, none⟩) xs.length cap) ∧ w.heap.size ≤ g ∧ RU w' g xs.length cap ys ∧ ys.Perm xs ∧ Srt 0 xs.length ys)

set_option maxHeartbeats 400000 in
theorem sorted_any (Bs : Nat) (a : Option Addr) (len cap : Nat) (xs : List Int) (w : World) (hBs : Bs < w.heap.size) (hc : w.cell? ⟨Bs, 0, none⟩ = some (.slice a len cap)) (hI : SrcU w a len xs) (hl : len < 50) :
    Calls Tryz.prog 119 #[.func (.func 146) #[] #[.pointer (some ⟨Bs, 0, none⟩)]] w fun e w' => SortedPost w xs e w' := by
  have HC := hide (collect_any Bs a len cap xs w hBs hc hI (by omega))
  have hxl : xs.length < 50 := by rw [hI.1]; exact hl
  clear hc hI
  go_enter Tryz.func119, Tryz.ntmps119
  go_upto_region 2 with (first
    | (go_at_call 144; go_must (refine HC.out.mono ?_); rintro e w1 ⟨v, rfl, hO, hb⟩; have HO := hide hO; have HB := hide hb; clear hO hb))
  rcases HO.out.form with ⟨rfl, hx⟩ | ⟨g, cap', rfl, hg, hg2, -, -, -⟩
  · have HX := hide hx
    clear hx
    go_wp2_with (first
      | (go_at_call 145; go_must (refine (sort_none _).mono ?_); rintro e w' ⟨rfl, hw⟩; have hw := hw.symm; subst hw))
    go_ret
    exact ⟨HB.out, .inl ⟨HX.out, rfl⟩⟩
  · obtain ⟨n, hn⟩ : ∃ n, xs.length = n := ⟨_, rfl⟩
    have HN := hide hn
    rw [hn] at hxl ⊢
    have HOn := HO.out
    rw [hn] at HOn
    have HR : Hid (RU w1 g n cap' xs) := ⟨hn, HOn.2 |> fun h => ⟨HOn.1, h.imp id (fun ⟨g', c', cur, e, hb, r⟩ => ⟨g', c', cur, e, by cases e; exact Nat.le_refl _, r⟩)⟩⟩
    have HS := hide (sort_any g n cap' xs w1 HR.out hxl)
    clear hn HOn HO
    go_wp2_with (first
      | (go_at_call 145; go_must (refine HS.out.mono ?_); rintro e w2 ⟨rfl, ys, hR2, hS2, hT2, hK2⟩; have HR2 := hide hR2; have HS2 := hide hS2; have HT2 := hide hT2; have HK2 := hide hK2; clear hR2 hS2 hT2 hK2))
    go_ret
    refine ⟨HB.out.trans (HK2.out.below HB.out.size (fun k e => by omega)), .inr ⟨g, cap', ys, by rw [HN.out]; rfl, hg, by rw [HN.out]; exact HR2.out, HS2.out.perm, by rw [HN.out]; exact HT2.out⟩⟩

end Go.Proofs.YtodmieehdleohaaGreat

namespace Go.Proofs.YtodmieehdleohaaGreat
open Go.RowKit NumMath
set_option linter.unusedVariables false
set_option maxRecDepth 100000

/-- of equal neighbours one is left -/
def dedupL : List Int → List Int
  | [] => []
  | [x] => [x]
  | x :: y :: r => if x = y then dedupL (y :: r) else x :: dedupL (y :: r)

theorem dd_snoc : ∀ (l : List Int) (y x : Int), dedupL (l ++ [y, x]) = if y = x then dedupL (l ++ [y]) else dedupL (l ++ [y]) ++ [x]
  | [], y, x => by
    by_cases h : y = x
    · subst h; simp [dedupL]
    · simp [dedupL, h]
  | [a], y, x => by
    by_cases h : y = x
    · subst h
      by_cases h2 : a = y
      · subst h2; simp [dedupL]
      · simp [dedupL, h2]
    · by_cases h2 : a = y
      · subst h2; simp [dedupL, h]
      · simp [dedupL, h, h2]
  | a :: b :: l, y, x => by
    have ih := dd_snoc (b :: l) y x
    show dedupL (a :: b :: (l ++ [y, x])) = if y = x then dedupL (a :: b :: (l ++ [y])) else dedupL (a :: b :: (l ++ [y])) ++ [x]
    have ih' : dedupL (b :: (l ++ [y, x])) = if y = x then dedupL (b :: (l ++ [y])) else dedupL (b :: (l ++ [y])) ++ [x] := ih
    rw [dedupL, dedupL, ih']
    by_cases h : y = x <;> by_cases h2 : a = b <;> simp [h, h2]

theorem take_two {xs : List Int} {k : Nat} (hk : k + 1 < xs.length) : xs.take (k + 2) = xs.take k ++ [xs.getD k 0, xs.getD (k + 1) 0] ∧ xs.take (k + 1) = xs.take k ++ [xs.getD k 0] := by
  have e1 : xs.take (k + 1) = xs.take k ++ [xs.getD k 0] := by
    rw [List.take_add_one, List.getElem?_eq_getElem (show k < xs.length by omega)]
    simp [List.getD, List.getElem?_eq_getElem (show k < xs.length by omega)]
  refine ⟨?_, e1⟩
  rw [List.take_add_one, e1, List.getElem?_eq_getElem hk]
  simp [List.getD, List.getElem?_eq_getElem hk]

theorem dd_same {xs : List Int} {k : Nat} (hk : k + 1 < xs.length) (h : xs.getD (k + 1) 0 = xs.getD k 0) : dedupL (xs.take (k + 2)) = dedupL (xs.take (k + 1)) := by
  obtain ⟨e2, e1⟩ := take_two hk
  rw [e2, e1, dd_snoc, if_pos h.symm]

theorem dd_more {xs : List Int} {k : Nat} (hk : k + 1 < xs.length) (h : ¬ xs.getD (k + 1) 0 = xs.getD k 0) : dedupL (xs.take (k + 2)) = dedupL (xs.take (k + 1)) ++ [xs.getD (k + 1) 0] := by
  obtain ⟨e2, e1⟩ := take_two hk
  rw [e2, e1, dd_snoc, if_neg (fun e => h e.symm)]

theorem numsAt_take {w : World} {g n cap : Nat} {zs : List Int} (h : RU w g n cap zs) (k : Nat) (hk : k ≤ n) : NumsAt w g 0 (zs.take k) := fun i hi => by
  rw [List.length_take] at hi
  have := h.cell (i := i) (by omega)
  rw [Nat.zero_add, this]
  simp [List.getD, show i < k by omega]

theorem keeps_setCells (g : Nat) : ∀ (vs : List Value) (o : Nat) (w : World), Keeps (fun k => k = g) w (w.setCells g o vs)
  | [], _, w => Keeps.refl _ w
  | v :: vs, o, w => (Keeps.set (p := g) (i := o) v).trans (keeps_setCells g vs (o + 1) (w.setCell ⟨g, o, none⟩ v))

theorem zeroU64 (w : World) : (zeroValue 22).run Tryz.prog w = .ok (.int .u64 0) w := Tryz.zeroValue22 w

/-- what Compact answers: the beginning of the same row -/
def CompPost (w : World) (g cap : Nat) (ys : List Int) (e : Ending) (w' : World) : Prop :=
  ∃ n', e = .returned (.slice (some ⟨g, 0, none⟩) n' cap) ∧ ys.length = n' ∧ NumsAt w' g 0 ys ∧ Keeps (fun k => k = g) w w'

theorem comp_all {w w' : World} {g n cap : Nat} {xs : List Int} (h : RU w g n cap xs) (h' : RU w' g n cap xs) (hk : Keeps (fun k => k = g) w w') (hd : dedupL xs = xs) : CompPost w g cap (dedupL xs) (.returned (.slice (some ⟨g, 0, none⟩) n cap)) w' := by
  rw [hd]
  refine ⟨n, rfl, h.len, ?_, hk⟩
  have := numsAt_take h' n (Nat.le_refl _)
  rwa [List.take_of_length_le (by rw [h.len]; exact Nat.le_refl _)] at this

set_option maxHeartbeats 2000000 in
theorem compact_any (g n cap : Nat) (xs : List Int) (w : World) (h : RU w g n cap xs) (hcap : n ≤ cap) (hn : n ≤ 1000000) :
    Calls Tryz.prog 121 #[.slice (some ⟨g, 0, none⟩) n cap] w fun e w' => CompPost w g cap (dedupL xs) e w' := by
  have H := hide h
  have hxl := h.len
  clear h
  by_cases h2 : (n : Int) < 2
  · have hd : dedupL xs = xs := by
      match xs, hxl with
      | [], _ => rfl
      | [_], _ => rfl
      | _ :: _ :: _, hxl => simp at hxl; omega
    have HD := hide hd
    clear hd
    go_enter Tryz.func121, Tryz.ntmps121
    go_wp2
    go_ret
    exact comp_all H.out H.out (Keeps.refl _ _) HD.out
  have HD1 : Hid (dedupL (xs.take 1) = xs.take 1) := by
    show _ = _
    match xs, hxl with
    | [], _ => rfl
    | _ :: _, _ => simp [dedupL]
  go_enter Tryz.func121, Tryz.ntmps121
  go_wp2
  go_loopw [3] (fun i wr => ∃ k : Nat, k + 1 ≤ n ∧ i = .int .i64 ((k : Int) + 1) ∧ dedupL (xs.take (k + 1)) = xs.take (k + 1) ∧ RU wr g n cap xs ∧ Keeps (fun k => k = g) w wr) (fun i _ => n - (intOf i).toNat)
  case atStart => exact ⟨0, by omega, rfl, HD1.out, H.out, Keeps.refl _ _⟩
  case round =>
    obtain ⟨k, hk, rfl, hD, hR, hK⟩ := hrel
    have HR := hide hR
    have HK := hide hK
    have HD := hide hD
    clear hR hK hD HD1
    by_cases hlt : (k : Int) + 1 < (n : Int)
    · have c1 := HR.out.cell (i := k + 1) (by omega)
      have c0 := HR.out.cell (i := k) (by omega)
      have HSm := hide (fun e => dd_same (xs := xs) (k := k) (by omega) e)
      have HMr := hide (fun e => dd_more (xs := xs) (k := k) (by omega) e)
      have HT := hide (take_two (xs := xs) (k := k) (by omega))
      obtain ⟨X, hX⟩ : ∃ v, xs.getD (k + 1) 0 = v := ⟨_, rfl⟩
      obtain ⟨Y, hY⟩ : ∃ v, xs.getD k 0 = v := ⟨_, rfl⟩
      rw [hX] at c1
      rw [hY] at c0
      rw [hX, hY] at HSm HMr HT
      have HX := hide hX
      have i1 : (k : Int) < (n : Int) := by omega
      clear hX hY
      obtain ⟨z, hz⟩ : ∃ z : Bool, (X == Y) = z := ⟨_, rfl⟩
      go_wp2
      go_quiet (first | fail)
      cases z
      · have hXY : ¬ X = Y := by simpa using hz
        have HD2 : Hid (dedupL (xs.take (k + 2)) = xs.take (k + 2)) := by
          show _ = _
          rw [HMr.out hXY, HD.out, HT.out.1, HT.out.2]; simp
        go_wp2
        go_roundw
        case rel => exact ⟨k + 1, by omega, by go_num, HD2.out, HR.out.drewN _, HK.out.drN _⟩
        case measure => simp [intOf]; omega
      · have hXY : X = Y := by simpa using hz
        have HD2 : Hid (dedupL (xs.take (k + 2)) = xs.take (k + 1)) := by
          show _ = _
          rw [HSm.out hXY, HD.out]
        obtain ⟨k0, hk0⟩ : ∃ k0 : Nat, k0 = k + 1 := ⟨_, rfl⟩
        have ek0 : (k : Int) + 1 = (k0 : Int) := by omega
        have hk0n : k0 < n := by omega
        have hk0n' : (k0 : Int) ≤ (n : Int) := by omega
        have hk0c : ¬ cap = k0 := by omega
        have hk0p : 1 ≤ k0 := by omega
        rw [show k + 2 = k0 + 1 by omega, show k + 1 = k0 by omega] at HD2
        clear hk0
        go_wp2
        go_loopw [3, 5] (fun s3 s5 wr => ∃ (kw k2 : Nat) (zs : List Int), k0 ≤ kw ∧ kw + 1 ≤ k0 + k2 ∧ k0 + k2 ≤ n ∧ 1 ≤ k2 ∧ s3 = .int .i64 kw ∧ s5 = .int .i64 k2 ∧ RU wr g n cap zs ∧ zs.take kw = dedupL (xs.take (k0 + k2)) ∧ (∀ i, k0 + k2 ≤ i + 1 → zs.getD i 0 = xs.getD i 0) ∧ Keeps (fun k => k = g) w wr) (fun _ s5 _ => n - (intOf s5).toNat)
        case atStart => exact ⟨k0, 1, xs, Nat.le_refl _, Nat.le_refl _, by omega, Nat.le_refl _, by rw [ek0], rfl, HR.out.drewN _, HD2.out.symm, fun i hi => rfl, HK.out.drN _⟩
        case round =>
          clear HR HK HD HD2 HSm HMr HT HX c0 c1 hXY hz
          obtain ⟨kw, k2, zs, h1, h2', h3, h4, rfl, rfl, hR, hT, hE, hK⟩ := hrel
          have HR := hide hR
          have HT := hide hT
          have HE := hide hE
          have HK := hide hK
          have hzl := hR.len
          clear hR hT hE hK
          by_cases hin : k0 + k2 < n
          · obtain ⟨j, hj⟩ : ∃ j : Nat, k2 = j + 1 := ⟨k2 - 1, by omega⟩
            subst hj
            have g1 : ((j + 1 : Nat) : Int) < ((n - k0 : Nat) : Int) := by omega
            have g2 : (j : Int) + 1 < ((n - k0 : Nat) : Int) := by omega
            have g3 : (j : Int) < ((n - k0 : Nat) : Int) := by omega
            have g4 : (kw : Int) < (n : Int) := by omega
            have g5 : j + 1 < n - k0 := by omega
            have g6 : j < n - k0 := by omega
            have c1 := HR.out.cell (i := k0 + (j + 1)) (by omega)
            have c0 := HR.out.cell (i := k0 + j) (by omega)
            have ck := HR.out.cell (i := kw) (by omega)
            have fk := HR.out.frozen kw
            rw [HE.out (k0 + (j + 1)) (by omega)] at c1
            rw [HE.out (k0 + j) (by omega)] at c0
            have HSm := hide (fun e => dd_same (xs := xs) (k := k0 + j) (by omega) e)
            have HMr := hide (fun e => dd_more (xs := xs) (k := k0 + j) (by omega) e)
            have e1 : xs.getD (k0 + j + 1) 0 = xs.getD (k0 + (j + 1)) 0 := rfl
            rw [e1] at HSm HMr
            obtain ⟨X, hX⟩ : ∃ v, xs.getD (k0 + (j + 1)) 0 = v := ⟨_, rfl⟩
            obtain ⟨Y, hY⟩ : ∃ v, xs.getD (k0 + j) 0 = v := ⟨_, rfl⟩
            obtain ⟨Z, hZ⟩ : ∃ v, zs.getD kw 0 = v := ⟨_, rfl⟩
            rw [hX] at c1
            rw [hY] at c0
            rw [hZ] at ck
            rw [hX, hY] at HSm HMr
            have HSet := hide (fun k => (HR.out.drewN k).set kw X)
            have HTk : Hid ((zs.set kw X).take (kw + 1) = zs.take kw ++ [X]) := by
              show _ = _
              rw [List.take_add_one, List.getElem?_set_self (by omega), List.take_set, List.set_eq_of_length_le (by rw [List.length_take]; omega)]
              rfl
            have HEk : Hid (∀ i, k0 + (j + 1) + 1 ≤ i + 1 → (zs.set kw X).getD i 0 = xs.getD i 0) := fun i hi => by
              have := HE.out i (by omega)
              simp only [List.getD, List.getElem?_set] at this ⊢
              rw [if_neg (by omega)]
              exact this
            clear hX hY hZ e1
            obtain ⟨z, hz⟩ : ∃ z : Bool, (X == Y) = z := ⟨_, rfl⟩
            have hz' : (X != Y) = !z := by rw [← hz]; rfl
            go_wp2
            go_quiet (first | fail)
            cases z
            · have hXY : ¬ X = Y := by simpa using hz
              have HD3 := hide (HMr.out hXY)
              go_wp2
              go_roundw
              case rel => exact ⟨kw + 1, j + 1 + 1, zs.set kw X, by omega, by omega, by omega, by omega, by go_num, by go_num, HSet.out _, by rw [HTk.out, HT.out]; exact HD3.out.symm, HEk.out, (HK.out.drN _).trans (Keeps.set _)⟩
              case measure => simp [intOf]; omega
            · have hXY : X = Y := by simpa using hz
              have HD3 := hide (HSm.out hXY)
              go_wp2
              go_roundw
              case rel => exact ⟨kw, j + 1 + 1, zs, by omega, by omega, by omega, by omega, rfl, by go_num, HR.out.drewN _, by rw [HT.out]; exact HD3.out.symm, fun i hi => HE.out i (by omega), HK.out.drN _⟩
              case measure => simp [intOf]; omega
          · have g1 : ¬ (k2 : Int) < ((n - k0 : Nat) : Int) := by omega
            have g1' : ¬ k2 < n - k0 := by omega
            have hkc : ¬ cap = kw := by omega
            have hkn : (kw : Int) ≤ (n : Int) := by omega
            have hkn2 : (kw : Int) ≤ (cap : Int) := by omega
            have hcl : ∀ ty, (Builtin.clear_ #[25] ty #[.slice (some ⟨g, kw, none⟩) (n - kw) (cap - kw)]).run Tryz.prog wr = .ok (.tuple #[]) (wr.setCells g kw (List.replicate (n - kw) (.int .u64 0))) :=
              fun ty => Lib.run_clear_slice wr 25 22 ty (.int .u64 0) Tryz.underlying25 zeroU64 rfl rfl g kw (n - kw) (cap - kw) (by omega) (fun j hj => by rw [HR.out.cell (i := kw + j) (by omega)]; rfl) (fun j hj => HR.out.frozen (kw + j))
            have HDx : Hid (zs.take kw = dedupL xs) := by
              show _ = _
              rw [HT.out, List.take_of_length_le (by omega)]
            have HW := hide (keeps_setCells g (List.replicate (n - kw) (.int .u64 0)) kw wr)
            have HC := hide (fun i (hi : i < kw) => World.cell?_setCells_out g (List.replicate (n - kw) (.int .u64 0)) kw wr ⟨g, i, none⟩ (fun _ _ => .inl hi))
            go_wp2
            go_ret
            rw [← HDx.out]
            refine ⟨kw, rfl, by rw [List.length_take]; omega, fun i hi => ?_, HK.out.trans HW.out⟩
            have hi' : i < kw := by rw [List.length_take] at hi; omega
            rw [Nat.zero_add, HC.out i hi']
            have := numsAt_take HR.out kw (by omega) i hi
            rwa [Nat.zero_add] at this
    · have HDn : Hid (dedupL xs = xs) := by
        have := HD.out
        rw [List.take_of_length_le (by omega)] at this
        exact this
      go_wp2
      go_ret
      refine comp_all H.out HR.out HK.out HDn.out

end Go.Proofs.YtodmieehdleohaaGreat
