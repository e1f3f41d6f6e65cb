/- slices.Backward over entries: what it tells, round by round. Lists of members, read: OfMembers and the reference's MembersOf. Which members a log tells: membersBehind, Members. -/
import Derived.Test.YtodmieehdleohaaGreatEnA
import Derived.RangeFuncNested
import Derived.RangeFuncBound
import Derived.RangeFuncCalls
import Derived.RangeFuncLeaves
import Derived.Shelf.Abstract
import Derived.Shelf.RegionOpen
import Derived.OwnWalkIn
import Derived.TacticsInMore
import Derived.LoopNIn
import Derived.LoopIn
import Derived.Test.YtodmieehdleohaaGreatRwA
import Derived.Test.YtodmieehdleohaaGreatRlA
namespace Go.Proofs.YtodmieehdleohaaGreat
open Go.RowKit Go.Shelf NumMath
set_option linter.unusedVariables false
set_option maxRecDepth 100000

attribute [local go_sem] Oper.semAt_some

/-- an entry as a value -/
def MEnt.val (m : MEnt) : Value := .agg #[.int .u64 m.e.i, .int .u64 m.e.t, .int .i64 m.e.k, .slice m.b m.n m.c]

/-- the places from the last one down -/
def downs (n : Nat) : List Nat := (List.range n).reverse

theorem downs_length (n : Nat) : (downs n).length = n := by simp [downs]

theorem downs_take (n j : Nat) (h : j < n) : (downs n).take (n - j) = (downs n).take (n - (j + 1)) ++ [j] := by
  have e : n - j = (n - (j + 1)) + 1 := by omega
  rw [e, List.take_add_one]
  congr 1
  have hl : n - (j + 1) < (downs n).length := by rw [downs_length]; omega
  rw [List.getElem?_eq_getElem hl]
  simp [downs]
  omega

def encB (ms : List MEnt) (j : Nat) : Array Value := #[.int .i64 (j : Int), (ms.getD j ment0).val]

set_option maxHeartbeats 2000000 in
theorem back1_in (F : Fence) (n : Nat) (hf : F.fn 159) (hro : F.round = none) (hn : 1 ≤ n) (l Bs n₀ g off len cap : Nat) (ms : List MEnt) (hlen : ms.length = len) (hl5 : len ≤ 1000000) (hg : g < n₀) (J Jx : List Nat → World → Prop)
    (hY : ∀ pre x W, J pre W → pre.length < len → YieldAt F (n - 1) Tryz.prog l (encB ms x) W fun e W' => (e = .returned (.bool true) ∧ J (pre ++ [x]) W' ∧ Below n₀ W W') ∨ (e = .returned (.bool false) ∧ Jx (pre ++ [x]) W'))
    (W : World) (hBs : W.cell? ⟨Bs, 0, none⟩ = some (.slice (some ⟨g, off, none⟩) len cap)) (hBn : Bs < n₀) (hc : CellsM W g off ms) (h0 : J [] W) :
    CallsIn F n Tryz.prog 159 #[.func (.yield l) #[] #[], .pointer (some ⟨Bs, 0, none⟩)] W fun e W' => (∃ v, e = .returned v) ∧ ((∃ ys, ys = downs len ∧ J ys W') ∨ (∃ pre, pre <+: downs len ∧ Jx pre W')) := by
  refine callsIn_of_wp Tryz.func159 rfl hf ?_ hro
  simp only [Tryz.ntmps159, List.size_toArray, List.length_cons, List.length_nil, Nat.reduceAdd, Nat.reduceSub, Array.replicate_succ, Array.replicate_zero, List.push_toArray, List.append_toArray, List.nil_append, List.cons_append]
  gi_wp2
  gi_loopw [3] (fun i wr => ∃ j : Nat, j ≤ len ∧ i = .int .i64 ((j : Int) - 1) ∧ J ((downs len).take (len - j)) wr ∧ Below n₀ W wr) (fun i _ => (intOf i + 1).toNat)
  case atStart => exact ⟨len, Nat.le_refl _, rfl, by rw [Nat.sub_self]; exact h0, Below.refl _ _⟩
  case round =>
    obtain ⟨j1, hj, rfl, hJs, hnx⟩ := hrel
    cases j1 with
    | zero =>
      gi_wp2
      go_end0
      exact ⟨⟨_, rfl⟩, .inl ⟨_, rfl, by have h := hJs; rw [Nat.sub_zero, List.take_of_length_le (by rw [downs_length]; exact Nat.le_refl _)] at h; exact h⟩⟩
    | succ j =>
      have e1 : ((j + 1 : Nat) : Int) - 1 = (j : Int) := by omega
      rw [e1]
      obtain ⟨c0, c1, c2, c3⟩ := (hc j (by omega)).same (hnx.block g hg)
      have hBs' := (hnx.cell (p := ⟨Bs, 0, none⟩) hBn).trans hBs
      obtain ⟨fn, tmps, assign, body, hy, hR⟩ := hY _ j wr hJs (by rw [List.length_take, downs_length]; omega)
      unfold encB MEnt.val at hy
      have HD := hide (downs_take len j (by omega))
      generalize ms.getD j ment0 = m at *
      obtain ⟨⟨mi, mt, mk, md⟩, mb, mn, mc⟩ := m
      dsimp only at c0 c1 c2 c3 hy
      have hj0 : (0 : Int) ≤ (j : Int) := by omega
      have hjl : (j : Int) < (len : Int) := by omega
      clear hY hc
      gi_wp2
      refine hR.mono ?_
      rintro e W3 (⟨rfl, hJ3, hk3⟩ | ⟨rfl, hJx3⟩)
      · gi_wp2
        go_roundw
        case rel => exact ⟨j, by omega, by go_num, by rw [HD.out]; exact hJ3, hnx.trans hk3⟩
        case measure => simp [intOf]
      · gi_wp2
        refine bodyPost_ret (results_none rfl _ _ _) rfl ?_
        exact ⟨⟨_, rfl⟩, .inr ⟨_, by rw [← HD.out]; exact List.take_prefix _ _, hJx3⟩⟩

set_option maxHeartbeats 1000000 in
/-- .. of no entry: no round -/
theorem back1_none (F : Fence) (n : Nat) (hf : F.fn 159) (hro : F.round = none) (l Bs cap : Nat) (a : Option Addr) (J : List Nat → World → Prop) (W : World) (hBs : W.cell? ⟨Bs, 0, none⟩ = some (.slice a 0 cap)) (h0 : J [] W) :
    CallsIn F n Tryz.prog 159 #[.func (.yield l) #[] #[], .pointer (some ⟨Bs, 0, none⟩)] W fun e W' => (∃ v, e = .returned v) ∧ J [] W' := by
  refine callsIn_of_wp Tryz.func159 rfl hf ?_ hro
  simp only [Tryz.ntmps159, List.size_toArray, List.length_cons, List.length_nil, Nat.reduceAdd, Nat.reduceSub, Array.replicate_succ, Array.replicate_zero, List.push_toArray, List.append_toArray, List.nil_append, List.cons_append]
  gi_wp2
  gi_loopw [3] (fun i wr => i = .int .i64 (-1) ∧ J [] wr) (fun _ _ => 0)
  case atStart => exact ⟨rfl, h0⟩
  case round =>
    obtain ⟨rfl, hJs⟩ := hrel
    gi_wp2
    go_end0
    exact ⟨⟨_, rfl⟩, hJs⟩

theorem back_in (F : Fence) (n : Nat) (hf : F.fn 148) (hro : F.round = none) (a : Option Addr) (len cap : Nat) (w : World) :
    CallsIn F n Tryz.prog 148 #[.slice a len cap] w fun e w' => e = .returned (.func (.func 159) #[] #[.pointer (some ⟨w.heap.size, 0, none⟩)]) ∧ w' = w.alloc (.cells #[.slice a len cap] 29) := by
  refine callsIn_of_wp Tryz.func148 rfl hf ?_ hro
  simp only [Tryz.ntmps148, List.size_toArray, List.length_cons, List.length_nil, Nat.reduceAdd, Nat.reduceSub, Array.replicate_succ, Array.replicate_zero, List.push_toArray, List.append_toArray, List.nil_append, List.cons_append]
  gi_wp2
  go_ret
  exact ⟨rfl, rfl⟩

theorem back_stops (F : Fence) (n : Nat) (hf : F.fn 159) (hro : F.round = none) (hn : 1 ≤ n) (X : Nat → Prop) (Bs n₀ : Nat) (a : Option Addr) (len cap : Nat) (ms : List MEnt) (w : World) (hBs : Bs < n₀) (hn₀ : n₀ ≤ w.heap.size) (hl5 : len ≤ 1000000)
    (hc : w.cell? ⟨Bs, 0, none⟩ = some (.slice a len cap)) (hI : IsMs X w a len cap ms) (hblk : ∀ y, a = some y → 0 < len → y.block < n₀) :
    SeqStopsK F n Tryz.prog 159 #[.pointer (some ⟨Bs, 0, none⟩)] (encB ms) (Below n₀) (fun ys => ys = downs len) (fun pre => pre <+: downs len) len w := fun l J Jx W hW _ _ hY h0 => by
  have hc' := (hW.cell (p := ⟨Bs, 0, none⟩) (Nat.lt_of_lt_of_le hBs hn₀)).trans hc
  by_cases h : len = 0
  · subst h
    exact (back1_none F n hf hro l Bs cap a J W hc' h0).mono fun e W' ⟨he, hj⟩ => ⟨he, .inl ⟨_, rfl, hj⟩⟩
  · obtain ⟨g, off, rfl, hg, hB⟩ := hI.at (k := 0) (by omega)
    exact back1_in F n hf hro hn l Bs n₀ g off len cap ms hI.1 hl5 (hblk _ rfl (by omega)) J Jx hY W hc' hBs (fun i hi => (hB i hi).same (hW.block g hg)) h0

end Go.Proofs.YtodmieehdleohaaGreat

namespace Go.Proofs.YtodmieehdleohaaGreat
open Go.RowKit NumMath
set_option linter.unusedVariables false
set_option maxRecDepth 100000

/-- so many numbers, rising, above last; what is left then; none: they are not so -/
def memLoop : Nat → Int → Option (List Int) → Option (List Int × Option (List Int))
  | 0, _, st => some ([], st)
  | n + 1, last, st => if (rdN 18446744073709551615 st).1 ≤ last then none else (memLoop n (rdN 18446744073709551615 st).1 (rdN 18446744073709551615 st).2).map (fun x => ((rdN 18446744073709551615 st).1 :: x.1, x.2))

/-- the members that bytes are -/
def memEnd : Option (List Int × Option (List Int)) → Option (List Int)
  | none => none
  | some (l, st) => if rdEnd st = 0 then some l else none

def memOf (bs : List Int) : Option (List Int) := memEnd (memLoop (rdN 9 (some bs)).1.toNat 0 (rdN 9 (some bs)).2)

theorem memEnd_no {l : List Int} {st : Option (List Int)} (h : ¬ rdEnd st = 0) : memEnd (some (l, st)) = none := by show (if _ then _ else _) = _; rw [if_neg h]
theorem memEnd_yes {l : List Int} {st : Option (List Int)} (h : rdEnd st = 0) : memEnd (some (l, st)) = some l := by show (if _ then _ else _) = _; rw [if_pos h]

theorem memLoop_no {n : Nat} {last : Int} {st : Option (List Int)} (h : (rdN 18446744073709551615 st).1 ≤ last) : memLoop (n + 1) last st = none := by rw [memLoop, if_pos h]
theorem memLoop_yes {n : Nat} {last : Int} {st : Option (List Int)} (h : ¬ (rdN 18446744073709551615 st).1 ≤ last) : memLoop (n + 1) last st = (memLoop n (rdN 18446744073709551615 st).1 (rdN 18446744073709551615 st).2).map (fun x => ((rdN 18446744073709551615 st).1 :: x.1, x.2)) := by rw [memLoop, if_neg h]

/-- what comes of all is what comes of the rest, behind what was read -/
def MemAt (T : Option (List Int × Option (List Int))) (n : Nat) (last : Int) (st : Option (List Int)) (acc : List Int) : Prop := T = (memLoop n last st).map (fun x => (acc ++ x.1, x.2))

theorem memAt_start (n : Nat) (last : Int) (st : Option (List Int)) : MemAt (memLoop n last st) n last st [] := by
  unfold MemAt
  cases memLoop n last st <;> simp

theorem memAt_no {T : Option (List Int × Option (List Int))} {n : Nat} {last : Int} {st : Option (List Int)} {acc : List Int} (h : MemAt T (n + 1) last st acc) (hm : (rdN 18446744073709551615 st).1 ≤ last) : T = none := by
  unfold MemAt at h
  rw [memLoop_no hm] at h
  exact h

theorem memAt_yes {T : Option (List Int × Option (List Int))} {n : Nat} {last : Int} {st : Option (List Int)} {acc : List Int} (h : MemAt T (n + 1) last st acc) (hm : ¬ (rdN 18446744073709551615 st).1 ≤ last) : MemAt T n (rdN 18446744073709551615 st).1 (rdN 18446744073709551615 st).2 (acc ++ [(rdN 18446744073709551615 st).1]) := by
  unfold MemAt at h ⊢
  rw [memLoop_yes hm] at h
  rw [h]
  cases memLoop n (rdN 18446744073709551615 st).1 (rdN 18446744073709551615 st).2 <;> simp

theorem memAt_end {T : Option (List Int × Option (List Int))} {last : Int} {st : Option (List Int)} {acc : List Int} (h : MemAt T 0 last st acc) : T = some (acc, st) := by
  unfold MemAt at h
  rw [h]
  simp [memLoop]

theorem IsR.keepB {good : Bool} {w w' : World} {p q B : Nat} {st : Option (List Int)} (h : IsR good w p q st) (hb : Below B w w') (hp : p < B) (hq : q < B) : IsR good w' p q st :=
  h.lies (M := fun k => B ≤ k) ⟨hb.os, hb.tape, hb.output, hb.size, fun k hk hn => hb.block k (by omega)⟩ (by omega) (by omega)

/-- what is told of members -/
def MemPost (w : World) (bs : List Int) (e : Ending) (w' : World) : Prop :=
  (memOf bs = none ∧ e = .returned (.tuple #[.slice none 0 0, .int .i64 30]) ∧ Below w.heap.size w w') ∨
    ∃ l a n c, memOf bs = some l ∧ e = .returned (.tuple #[.slice a n c, .int .i64 0]) ∧ OwnU w' w.heap.size (.slice a n c) l ∧ (∀ x ∈ l, 0 ≤ x ∧ x ≤ 18446744073709551615) ∧ l.length ≤ 9 ∧ Below w.heap.size w w'

theorem memPost_no {w w' : World} {bs : List Int} (h : memOf bs = none) (hb : Below w.heap.size w w') : MemPost w bs (.returned (.tuple #[.slice none 0 0, .int .i64 30])) w' := .inl ⟨h, rfl, hb⟩

theorem u64_cell (w : World) (n : Int) (g : Nat) (hg : w.heap.size = g) : SrcU (w.alloc (.cells #[.int .u64 n] 22)) (some ⟨g, 0, none⟩) 1 [n] := by
  subst hg
  exact srcU_one _ _ _ (by simp) (by simp)

set_option maxHeartbeats 1000000 in
theorem ofMem_any (a : Option Addr) (len cap : Nat) (bs : List Int) (w : World) (h : IsBytes w a len cap bs) (hl : len ≤ 1000000000) :
    Calls Tryz.prog 149 #[.slice a len cap] w fun e w' => MemPost w bs e w' := by
  have H := hide h
  clear h
  obtain ⟨r1, r2, r3⟩ := rdN_range 9 (some bs) (by intro xs hx c hc; cases hx; exact H.out.2.2.2.1 c hc) (by omega)
  obtain ⟨T, hT⟩ : ∃ T, memLoop (rdN 9 (some bs)).1.toNat 0 (rdN 9 (some bs)).2 = T := ⟨_, rfl⟩
  have HO : Hid (memOf bs = memEnd T) := by show _ = _; unfold memOf; rw [hT]
  have HT := hide (memAt_start (rdN 9 (some bs)).1.toNat 0 (rdN 9 (some bs)).2)
  rw [hT] at HT
  have HC := hide (fun p q w h => rdN_any p q (some bs) 9 w h (by omega) (by omega))
  clear hT
  generalize rdN 9 (some bs) = ns at *
  obtain ⟨n, st0⟩ := ns
  dsimp only at *
  obtain ⟨N, rfl⟩ := Int.eq_ofNat_of_zero_le r1
  have hN : N ≤ 9 := by omega
  rw [show ((N : Int)).toNat = N from rfl] at HT
  go_enter Tryz.func149, Tryz.ntmps149
  go_wp2_with (first
    | (go_at_call 154; go_must (refine (read_any a len cap bs _ H.out hl).mono ?_); rintro e w1 ⟨p, q, rfl, hp, hq, hR, hb1⟩; have HR := hide hR; have HP1 := hide hR.at; have HQ1 := hide hR.qlt; clear hR)
    | (go_at_call 160; go_must (refine (HC.out p q _ HR.out).mono ?_); rintro e w2 ⟨rfl, hpost⟩; have HR2 := hide hpost.1; have HB2 := hide (hb1.trans (hpost.2.below hb1.size (fun k hk => by omega))); have HS2 := hide hpost.2.size; clear hpost))
  go_loopw [5, 6, 13] (fun v la i wr => ∃ (k : Nat) (acc : List Int) (z : Int) (st : Option (List Int)), k ≤ N ∧ i = .int .u64 k ∧ la = .int .u64 z ∧ MemAt T (N - k) z st acc ∧ acc.length = k ∧ OwnU wr w1.heap.size v acc ∧ (∀ x ∈ acc, 0 ≤ x ∧ x ≤ 18446744073709551615) ∧ IsR true wr p q st ∧ Below w.heap.size w wr ∧ w1.heap.size ≤ wr.heap.size) (fun _ _ i _ => N - (intOf i).toNat)
  case atStart => exact ⟨0, [], 0, st0, Nat.zero_le _, rfl, rfl, HT.out, rfl, ownU_nil _ _, by simp, HR2.out, HB2.out, HS2.out⟩
  case round =>
    obtain ⟨k, acc, z, st, hk, rfl, rfl, hM, hac, hown, hrg, hR, hb, hsz1⟩ := hrel
    have HM := hide hM
    have HA := hide hac
    have HOw := hide hown
    have HRg := hide hrg
    have HRd := hide hR
    obtain ⟨va, vn, vc, rfl⟩ := hown.any3
    clear hM hac hown hrg hR
    by_cases hlt : k < N
    · obtain ⟨j, hj⟩ : ∃ j, N - k = j + 1 := ⟨N - k - 1, by omega⟩
      have hj2 : N - (k + 1) = j := by omega
      rw [hj] at HM
      have HJ := hide hj2
      have HNo := hide (memAt_no HM.out)
      have HYes := hide (memAt_yes HM.out)
      have HN := hide (rdN_any p q st 18446744073709551615 wr HRd.out (by omega) (by omega))
      obtain ⟨m1, m2, -⟩ := rdN_range 18446744073709551615 st HRd.out.byt (by omega)
      have HMr : Hid (0 ≤ (rdN 18446744073709551615 st).1 ∧ (rdN 18446744073709551615 st).1 ≤ 18446744073709551615) := ⟨m1, m2⟩
      clear HM m1 m2 hj hj2
      generalize rdN 18446744073709551615 st = mr at *
      obtain ⟨m, st'⟩ := mr
      dsimp only at *
      have hlt' : (k : Int) < (N : Int) := by omega
      by_cases hm : m ≤ z
      · have HZ := hide (HNo.out hm)
        go_wp2_with (first
          | (go_at_call 160; go_must (refine HN.out.mono ?_); rintro e w4 ⟨rfl, hpost⟩; have HB4 := hide (hb.trans (hpost.2.below hb.size (fun k hk => by have := HP1.out; omega))); clear hpost))
        go_ret2
        exact memPost_no (by rw [HO.out, HZ.out]; rfl) HB4.out
      · have HZ := hide (HYes.out hm)
        go_wp2_with (first
          | (go_at_call 160; go_must (refine HN.out.mono ?_); rintro e w4 ⟨rfl, hpost⟩; have HR4 := hide hpost.1; have HO4 := hide (HOw.out.lies (w' := w4) (fun g hg => hpost.2.block g (HOw.out.lt g hg).2 (fun e => by have := (HOw.out.lt g hg).1; have := HP1.out; omega))); have HB4 := hide (hb.trans (hpost.2.below hb.size (fun k hk => by have := HP1.out; omega))); have hs4 := hpost.2.size; clear hpost)
          | (at_builtin; go_must (refine wp_joinU _ rfl (.tmp 20) (.tmp 22) rfl w1.heap.size _ acc rfl (HO4.out.keep (new_below _ _)) (some ⟨w4.heap.size, 0, none⟩) 1 1 [m] rfl (u64_cell _ _ _ rfl) (by have := HA.out; simp; omega) (by simp; omega) ?_); intro v5 w5 hown5 hg5 hat5; have HO5 := hide hown5; have hb5 : Below w1.heap.size w4 w5 := ((new_below _ _).mono (by omega)).trans ((HO4.out.keep (new_below _ _)).grown hg5 (by simp; omega)); obtain ⟨xa, xn, xc, rfl⟩ := hown5.any3; clear hown5 hg5 hat5))
        go_roundw
        case rel => exact ⟨k + 1, acc ++ [m], m, st', by omega, by go_num, rfl, by rw [HJ.out]; exact HZ.out, by rw [List.length_append, HA.out]; rfl, HO5.out, fun x hx => (by rcases List.mem_append.1 hx with h | h; (exact HRg.out x h); (rw [List.mem_singleton.1 h]; exact HMr.out)), HR4.out.keepB hb5 HP1.out HQ1.out, HB4.out.trans (hb5.mono hb1.size), Nat.le_trans (Nat.le_trans hsz1 hs4) hb5.size⟩
        case measure => simp [intOf]; omega
    · have hkN : k = N := by omega
      subst hkN
      have HE := HM.out
      rw [Nat.sub_self] at HE
      have HEnd := hide (memAt_end HE)
      have hlt' : ¬ (k : Int) < (k : Int) := by omega
      clear HE HM
      by_cases he : rdEnd st = 0
      · have hec := end_any p q st wr HRd.out
        rw [he] at hec
        have HEc := hide hec
        clear hec
        have HF : Hid (memOf bs = some acc) := by show _ = _; rw [HO.out, HEnd.out, memEnd_yes he]
        clear he
        go_wp2_with (first
          | (go_at_call 161; go_must (refine HEc.out.mono ?_); rintro e w' ⟨rfl, hw⟩; have hw := hw.symm; subst hw))
        go_ret2
        exact .inr ⟨acc, va, vn, vc, HF.out, rfl, HOw.out.mono hb1.size, HRg.out, by have := HA.out; omega, hb⟩
      · have he30 : rdEnd st = 30 := by unfold rdEnd at he ⊢; split <;> simp_all
        have hec := end_any p q st wr HRd.out
        rw [he30] at hec
        have HEc := hide hec
        clear hec
        have HF : Hid (memOf bs = none) := by show _ = _; rw [HO.out, HEnd.out, memEnd_no he]
        clear he he30
        go_wp2_with (first
          | (go_at_call 161; go_must (refine HEc.out.mono ?_); rintro e w' ⟨rfl, hw⟩; have hw := hw.symm; subst hw))
        go_ret2
        exact memPost_no HF.out hb

set_option maxHeartbeats 400000 in
theorem xofMem_any (a : Option Addr) (len cap : Nat) (bs : List Int) (w : World) (h : IsBytes w a len cap bs) (hl : len ≤ 1000000000) :
    Calls Tryz.prog 151 #[.slice a len cap] w fun e w' => MemPost w bs e w' := by
  have H := hide h
  clear h
  obtain ⟨r1, r2, r3⟩ := rdN_range 9 (some bs) (by intro xs hx c hc; cases hx; exact H.out.2.2.2.1 c hc) (by omega)
  obtain ⟨T, hT⟩ : ∃ T, memLoop (rdN 9 (some bs)).1.toNat 0 (rdN 9 (some bs)).2 = T := ⟨_, rfl⟩
  have HO : Hid (memOf bs = memEnd T) := by show _ = _; unfold memOf; rw [hT]
  have HT := hide (memAt_start (rdN 9 (some bs)).1.toNat 0 (rdN 9 (some bs)).2)
  rw [hT] at HT
  have HC := hide (fun p q w h => xN_any p q (some bs) 9 w h (by omega) (by omega))
  clear hT
  generalize rdN 9 (some bs) = ns at *
  obtain ⟨n, st0⟩ := ns
  dsimp only at *
  obtain ⟨N, rfl⟩ := Int.eq_ofNat_of_zero_le r1
  have hN : N ≤ 9 := by omega
  rw [show ((N : Int)).toNat = N from rfl] at HT
  obtain ⟨q, hq, hq2⟩ : ∃ q, (len ≠ 0 → ∀ x, a = some x → x.block = q ∧ q < w.heap.size) ∧ q ≤ w.heap.size := by
    by_cases h0 : len = 0
    · exact ⟨w.heap.size, fun h => absurd h0 h, Nat.le_refl _⟩
    · obtain ⟨g, off, rfl, hg, _⟩ := H.out.at (k := 0) (by omega)
      exact ⟨g, fun _ x hx => by cases hx; exact ⟨rfl, hg⟩, Nat.le_of_lt hg⟩
  have HR := hide (isR_new false 178 w a len cap bs _ q rfl H.out hq hq2)
  obtain ⟨w1, hw1⟩ : ∃ w1, w.alloc (.cells #[.slice a len cap, .bool false] 178) = w1 := ⟨_, rfl⟩
  have hb1 : Below w.heap.size w w1 := by rw [← hw1]; exact new_below _ _
  have HP1 : Hid (w.heap.size < w1.heap.size) := by show _ < _; rw [← hw1]; simp
  have HQ1 : Hid (q < w1.heap.size) := by show _ < _; rw [← hw1]; simp; omega
  have HW1 := hide hw1
  clear hq hq2 hw1
  go_enter Tryz.func151, Tryz.ntmps151
  go_wp2_with (first
    | (go_at_call 163; go_must (refine (HC.out w.heap.size q _ HR.out).mono ?_); rintro e w2 ⟨rfl, hpost⟩; have HR2 := hide hpost.1; rw [HW1.out] at hpost; have HB2 := hide (hb1.trans (hpost.2.below hb1.size (fun k hk => by omega))); have HS2 := hide hpost.2.size; clear hpost))
  go_loopw [6, 7, 8] (fun v la i wr => ∃ (k : Nat) (acc : List Int) (z : Int) (st : Option (List Int)), k ≤ N ∧ i = .int .u64 k ∧ la = .int .u64 z ∧ MemAt T (N - k) z st acc ∧ acc.length = k ∧ OwnU wr w1.heap.size v acc ∧ (∀ x ∈ acc, 0 ≤ x ∧ x ≤ 18446744073709551615) ∧ IsR false wr w.heap.size q st ∧ Below w.heap.size w wr ∧ w1.heap.size ≤ wr.heap.size) (fun _ _ i _ => N - (intOf i).toNat)
  case atStart => exact ⟨0, [], 0, st0, Nat.zero_le _, rfl, rfl, HT.out, rfl, ownU_nil _ _, by simp, HR2.out, HB2.out, HS2.out⟩
  case round =>
    obtain ⟨k, acc, z, st, hk, rfl, rfl, hM, hac, hown, hrg, hR, hb, hsz1⟩ := hrel
    have HM := hide hM
    have HA := hide hac
    have HOw := hide hown
    have HRg := hide hrg
    have HRd := hide hR
    obtain ⟨va, vn, vc, rfl⟩ := hown.any3
    clear hM hac hown hrg hR
    by_cases hlt : k < N
    · obtain ⟨j, hj⟩ : ∃ j, N - k = j + 1 := ⟨N - k - 1, by omega⟩
      have hj2 : N - (k + 1) = j := by omega
      rw [hj] at HM
      have HJ := hide hj2
      have HNo := hide (memAt_no HM.out)
      have HYes := hide (memAt_yes HM.out)
      have HN := hide (xN_any w.heap.size q st 18446744073709551615 wr HRd.out (by omega) (by omega))
      obtain ⟨m1, m2, -⟩ := rdN_range 18446744073709551615 st HRd.out.byt (by omega)
      have HMr : Hid (0 ≤ (rdN 18446744073709551615 st).1 ∧ (rdN 18446744073709551615 st).1 ≤ 18446744073709551615) := ⟨m1, m2⟩
      clear HM m1 m2 hj hj2
      generalize rdN 18446744073709551615 st = mr at *
      obtain ⟨m, st'⟩ := mr
      dsimp only at *
      have hlt' : (k : Int) < (N : Int) := by omega
      by_cases hm : m ≤ z
      · have HZ := hide (HNo.out hm)
        go_wp2_with (first
          | (go_at_call 163; go_must (refine HN.out.mono ?_); rintro e w4 ⟨rfl, hpost⟩; have HB4 := hide (hb.trans (hpost.2.below hb.size (fun k hk => by have := HP1.out; omega))); clear hpost))
        go_ret2
        exact memPost_no (by rw [HO.out, HZ.out]; rfl) HB4.out
      · have HZ := hide (HYes.out hm)
        go_wp2_with (first
          | (go_at_call 163; go_must (refine HN.out.mono ?_); rintro e w4 ⟨rfl, hpost⟩; have HR4 := hide hpost.1; have HO4 := hide (HOw.out.lies (w' := w4) (fun g hg => hpost.2.block g (HOw.out.lt g hg).2 (fun e => by have := (HOw.out.lt g hg).1; have := HP1.out; omega))); have HB4 := hide (hb.trans (hpost.2.below hb.size (fun k hk => by have := HP1.out; omega))); have hs4 := hpost.2.size; clear hpost)
          | (at_builtin; go_must (refine wp_joinU _ rfl (.tmp 25) (.tmp 27) rfl w1.heap.size _ acc rfl (HO4.out.keep (new_below _ _)) (some ⟨w4.heap.size, 0, none⟩) 1 1 [m] rfl (u64_cell _ _ _ rfl) (by have := HA.out; simp; omega) (by simp; omega) ?_); intro v5 w5 hown5 hg5 hat5; have HO5 := hide hown5; have hb5 : Below w1.heap.size w4 w5 := ((new_below _ _).mono (by omega)).trans ((HO4.out.keep (new_below _ _)).grown hg5 (by simp; omega)); obtain ⟨xa, xn, xc, rfl⟩ := hown5.any3; clear hown5 hg5 hat5))
        go_roundw
        case rel => exact ⟨k + 1, acc ++ [m], m, st', by omega, by go_num, rfl, by rw [HJ.out]; exact HZ.out, by rw [List.length_append, HA.out]; rfl, HO5.out, fun x hx => (by rcases List.mem_append.1 hx with h | h; (exact HRg.out x h); (rw [List.mem_singleton.1 h]; exact HMr.out)), HR4.out.keepB hb5 HP1.out HQ1.out, HB4.out.trans (hb5.mono hb1.size), Nat.le_trans (Nat.le_trans hsz1 hs4) hb5.size⟩
        case measure => simp [intOf]; omega
    · have hkN : k = N := by omega
      subst hkN
      have HE := HM.out
      rw [Nat.sub_self] at HE
      have HEnd := hide (memAt_end HE)
      have hlt' : ¬ (k : Int) < (k : Int) := by omega
      clear HE HM
      by_cases he : rdEnd st = 0
      · have hec := xend_any w.heap.size q st wr HRd.out
        rw [he] at hec
        have HEc := hide hec
        clear hec
        have HF : Hid (memOf bs = some acc) := by show _ = _; rw [HO.out, HEnd.out, memEnd_yes he]
        clear he
        go_wp2_with (first
          | (go_at_call 164; go_must (refine HEc.out.mono ?_); rintro e w' ⟨rfl, hw⟩; have hw := hw.symm; subst hw))
        go_ret2
        exact .inr ⟨acc, va, vn, vc, HF.out, rfl, HOw.out.mono hb1.size, HRg.out, by have := HA.out; omega, hb⟩
      · have he30 : rdEnd st = 30 := by unfold rdEnd at he ⊢; split <;> simp_all
        have hec := xend_any w.heap.size q st wr HRd.out
        rw [he30] at hec
        have HEc := hide hec
        clear hec
        have HF : Hid (memOf bs = none) := by show _ = _; rw [HO.out, HEnd.out, memEnd_no he]
        clear he he30
        go_wp2_with (first
          | (go_at_call 164; go_must (refine HEc.out.mono ?_); rintro e w' ⟨rfl, hw⟩; have hw := hw.symm; subst hw))
        go_ret2
        exact memPost_no HF.out hb

end Go.Proofs.YtodmieehdleohaaGreat

namespace Go.Proofs.YtodmieehdleohaaGreat
open Go.RowKit Go.Shelf NumMath
set_option linter.unusedVariables false
set_option maxRecDepth 100000

attribute [local go_sem] Oper.semAt_some

def stepT (acc : List Int × Int) (e : Ent) : List Int × Int := if e.k = 1 then (match memOf e.d with | some l => (l, e.i) | none => acc) else acc

/-- the members that are told by the last entry that tells some, else by the snapshot; and its index -/
def toldL (s : Snp) (es : List Ent) : List Int × Int := es.foldl stepT (s.m, s.i)

/-- an entry that tells none -/
def Silent (e : Ent) : Prop := ∀ acc, stepT acc e = acc

theorem silent_kind {e : Ent} (h : ¬ e.k = 1) : Silent e := fun acc => by unfold stepT; rw [if_neg h]
theorem silent_none {e : Ent} (h : memOf e.d = none) : Silent e := fun acc => by
  unfold stepT
  split
  · rw [h]
  · rfl

theorem told_silent (s : Snp) (es1 es2 : List Ent) (h : ∀ e ∈ es2, Silent e) : toldL s (es1 ++ es2) = toldL s es1 := by
  unfold toldL
  rw [List.foldl_append]
  generalize List.foldl stepT (s.m, s.i) es1 = acc
  induction es2 with
  | nil => rfl
  | cons e r ih => rw [List.foldl_cons, h e List.mem_cons_self acc]; exact ih (fun x hx => h x (List.mem_cons_of_mem _ hx))

theorem told_snoc (s : Snp) (es : List Ent) (e : Ent) : toldL s (es ++ [e]) = stepT (toldL s es) e := by unfold toldL; rw [List.foldl_append]; rfl

theorem step_told {acc : List Int × Int} {e : Ent} {l : List Int} (hk : e.k = 1) (h : memOf e.d = some l) : stepT acc e = (l, e.i) := by unfold stepT; rw [if_pos hk, h]

theorem told_all (s : Snp) (es : List Ent) (h : ∀ e ∈ es, Silent e) : toldL s es = (s.m, s.i) := told_silent s [] es h

theorem downs_mem {n j : Nat} : j ∈ downs n ↔ j < n := by simp [downs]

theorem prefix_downs {pre : List Nat} {x n : Nat} (h : pre ++ [x] <+: downs n) : x < n ∧ ∀ j, x < j → j < n → j ∈ pre := by
  obtain ⟨t, ht⟩ := h
  have hlen := congrArg List.length ht
  rw [downs_length] at hlen
  simp at hlen
  have at_ : ∀ k, k < n → (downs n)[k]? = some (n - 1 - k) := by
    intro k hk
    have hl : k < (downs n).length := by rw [downs_length]; exact hk
    rw [List.getElem?_eq_getElem hl]
    simp [downs]
  have hx : (downs n)[pre.length]? = some x := by rw [← ht]; simp
  rw [at_ pre.length (by omega)] at hx
  have hx' : n - 1 - pre.length = x := Option.some.inj hx
  refine ⟨by omega, fun j h1 h2 => ?_⟩
  have hj := at_ (n - 1 - j) (by omega)
  rw [← ht, List.append_assoc, List.getElem?_append_left (by omega)] at hj
  have e : n - 1 - (n - 1 - j) = j := by omega
  rw [e] at hj
  exact List.mem_of_getElem? hj

theorem told_at (s : Snp) (ms : List MEnt) (n : Nat) (hn : ms.length = n) (pre : List Nat) (x : Nat) (l : List Int) (hp : pre ++ [x] <+: downs n) (hs : ∀ j ∈ pre, Silent (ms.getD j ment0).e) (hk : (ms.getD x ment0).e.k = 1) (hl : memOf (ms.getD x ment0).e.d = some l) : toldL s (ms.map MEnt.e) = (l, (ms.getD x ment0).e.i) := by
  obtain ⟨hx, hall⟩ := prefix_downs hp
  have hxl : x < ms.length := by omega
  have e : ms.map MEnt.e = ((ms.take x).map MEnt.e ++ [(ms.getD x ment0).e]) ++ (ms.drop (x + 1)).map MEnt.e := by
    have h1 : ms.getD x ment0 = ms[x] := by simp [List.getD, List.getElem?_eq_getElem hxl]
    rw [h1, ← List.map_singleton, ← List.map_append, ← List.map_append]
    congr 1
    rw [List.append_assoc]
    simp
  rw [e, told_silent, told_snoc, step_told hk hl]
  intro y hy
  obtain ⟨m, hm, rfl⟩ := List.mem_map.1 hy
  obtain ⟨i, hi, rfl⟩ := List.getElem_of_mem hm
  rw [List.length_drop] at hi
  have h2 := hs (x + 1 + i) (hall _ (by omega) (by omega))
  have h3 : ms.getD (x + 1 + i) ment0 = (ms.drop (x + 1))[i] := by
    have : x + 1 + i < ms.length := by omega
    simp [List.getD, List.getElem?_eq_getElem this]
  rw [h3] at h2
  exact h2

theorem told_done (s : Snp) (ms : List MEnt) (n : Nat) (hn : ms.length = n) (hs : ∀ j ∈ downs n, Silent (ms.getD j ment0).e) : toldL s (ms.map MEnt.e) = (s.m, s.i) := by
  apply told_all
  intro y hy
  obtain ⟨m, hm, rfl⟩ := List.mem_map.1 hy
  obtain ⟨i, hi, rfl⟩ := List.getElem_of_mem hm
  have h2 := hs i (downs_mem.2 (by omega))
  have h3 : ms.getD i ment0 = ms[i] := by simp [List.getD, List.getElem?_eq_getElem hi]
  rw [h3] at h2
  exact h2

/-- a piece of code that ends as it should -/
def calmly (Q : Exit → Act → World → Prop) : Exit → Act → World → Prop
  | .normal, a, w => Q .normal a w
  | _, _, _ => False

theorem wpIn_calm {F : Fence} {n : Nat} {P : Program} {c : Code} {Q : Exit → Act → World → Prop} {a : Act} {w : World} (h : c.wpIn F n P (calmly Q) a w) : c.wpIn F n P Q a w :=
  wpIn_mono h (fun e a w h => by cases e <;> first | exact h | exact h.elim)

theorem block_own {X Y : World} {row : Option Nat} {B : Nat} {cs : Array Value} {ty : TypeId} {fr : Nat × Nat} (h : X.heap[B]? = some (.cells cs ty fr)) (hg : X.grownBy Y row) (hr : ∀ r, row = some r → ∃ o : Obj, X.heap[r]? = some o ∧ o.isCells = false) : Y.heap[B]? = some (.cells cs ty fr) :=
  (hg.block B (Array.getElem?_eq_some_iff.1 h).1 (fun e => by obtain ⟨o, ho, hc⟩ := hr B e.symm; rw [h] at ho; cases ho; cases hc)).trans h

theorem OwnU.own {X Y : World} {row : Option Nat} {base : Nat} {v : Value} {xs : List Int} (h : OwnU X base v xs) (hg : X.grownBy Y row) (hr : ∀ r, row = some r → ∃ o : Obj, X.heap[r]? = some o ∧ o.isCells = false) : OwnU Y base v xs := by
  refine ⟨h.1, ?_⟩
  rcases h.2 with h0 | ⟨g, cap, cur, hv, hb, hh, hr'⟩
  · exact .inl h0
  · exact .inr ⟨g, cap, cur, hv, hb, block_own hh hg hr, hr'⟩

theorem keepsFrom_below {B : Nat} {W W' : World} (h : Below W.heap.size W W') : KeepsFrom B W W' := ⟨h.size, fun k o hB hk ho => (h.block k (Array.getElem?_eq_some_iff.1 hk).1).trans hk⟩

theorem boxed_keep {W W' : World} {B : Nat} {t : TypeId} {v : Value} (h : Boxed W B t v) (hb : Below W.heap.size W W') : Boxed W' B t v := (hb.block B h.lt).trans h

theorem ofMem_none (a : Option Addr) (len cap : Nat) (bs : List Int) (w : World) (h : IsBytes w a len cap bs) (hl : len ≤ 1000000000) (hN : memOf bs = none) :
    Calls Tryz.prog 149 #[.slice a len cap] w fun e w' => e = .returned (.tuple #[.slice none 0 0, .int .i64 30]) ∧ Below w.heap.size w w' := by
  refine (ofMem_any a len cap bs w h hl).mono ?_
  rintro e w' (⟨_, rfl, hb⟩ | ⟨l, a, n, c, h1, _⟩)
  · exact ⟨rfl, hb⟩
  · rw [hN] at h1; cases h1

theorem ofMem_some (a : Option Addr) (len cap : Nat) (bs l : List Int) (w : World) (h : IsBytes w a len cap bs) (hl : len ≤ 1000000000) (hN : memOf bs = some l) :
    Calls Tryz.prog 149 #[.slice a len cap] w fun e w' => ∃ b n c, e = .returned (.tuple #[.slice b n c, .int .i64 0]) ∧ OwnU w' w.heap.size (.slice b n c) l ∧ (∀ x ∈ l, 0 ≤ x ∧ x ≤ 18446744073709551615) ∧ l.length ≤ 9 ∧ Below w.heap.size w w' := by
  refine (ofMem_any a len cap bs w h hl).mono ?_
  rintro e w' (⟨h1, _⟩ | ⟨l', a, n, c, h1, rfl, ho, hr, h9, hb⟩)
  · rw [hN] at h1; cases h1
  · rw [hN] at h1
    cases h1
    exact ⟨a, n, c, rfl, ho, hr, h9, hb⟩

set_option maxHeartbeats 1000000 in
theorem mb_any (X : Nat → Prop) (p : Nat) (s : Snp) (ma : Option Addr) (mn mc : Nat) (a : Option Addr) (len cap : Nat) (ms : List MEnt) (w : World) (c0 : w.cell? ⟨p, 0, none⟩ = some (.int .u64 s.i)) (c2 : w.cell? ⟨p, 2, none⟩ = some (.slice ma mn mc)) (hm : IsNums w ma mn mc s.m) (hmn : mn ≤ 100000) (hE : IsMs X w a len cap ms) (hl : len ≤ 1000000) (hd : ∀ m ∈ ms, m.n ≤ 1000000) :
    Calls Tryz.prog 124 #[.pointer (some ⟨p, 0, none⟩), .slice a len cap] w fun e w' => ∃ b n c, e = .returned (.tuple #[.slice b n c, .int .u64 (toldL s (ms.map MEnt.e)).2]) ∧ OwnU w' w.heap.size (.slice b n c) (toldL s (ms.map MEnt.e)).1 ∧ (∀ x ∈ (toldL s (ms.map MEnt.e)).1, 0 ≤ x ∧ x ≤ 18446744073709551615) ∧ Below w.heap.size w w' := by
  have HE := hide hE
  have hplt : p < w.heap.size := World.block_lt_of_cell? _ ⟨p, 0, none⟩ c0
  refine (callsIn_wide (n := 5)).1 ?_
  refine callsIn_of_wp_marks Tryz.func124 rfl trivial ?_ rfl
  simp only [Tryz.ntmps124, List.size_toArray, List.length_cons, List.length_nil, Nat.reduceAdd, Nat.reduceSub, Array.replicate_succ, Array.replicate_zero, List.push_toArray, List.append_toArray, List.nil_append, List.cons_append]
  gi_wp2_with (first
    | (gi_at_call 148; refine (back_in Fence.wide _ trivial rfl a len cap _).mono ?_; rintro e w' ⟨rfl, rfl⟩)
    | (refine ⟨trivial, ?_⟩; gi_at_call 148; refine (back_in Fence.wide _ trivial rfl a len cap _).mono ?_; rintro e w' ⟨rfl, rfl⟩))
  have b1 := ((Boxed.new w 25 (.slice none 0 0)).alloc (.cells #[.int .u64 0] 22)).alloc (.cells #[.slice a len cap] 29)
  have b2 := (Boxed.new (w.alloc (.cells #[.slice none 0 0] 25)) 22 (.int .u64 0)).alloc (.cells #[.slice a len cap] 29)
  have b3 := Boxed.new ((w.alloc (.cells #[.slice none 0 0] 25)).alloc (.cells #[.int .u64 0] 22)) 29 (.slice a len cap)
  simp only [World.size_alloc] at b2 b3
  have hB0 : Below w.heap.size w (((w.alloc (.cells #[.slice none 0 0] 25)).alloc (.cells #[.int .u64 0] 22)).alloc (.cells #[.slice a len cap] 29)) := (((Below.refl _ w).alloc (Nat.le_refl _) _).alloc (by simp) _).alloc (by simp; omega) _
  have hsz : (((w.alloc (.cells #[.slice none 0 0] 25)).alloc (.cells #[.int .u64 0] 22)).alloc (.cells #[.slice a len cap] 29)).heap.size = w.heap.size + 3 := by simp
  obtain ⟨W0, hW0⟩ : ∃ W0, ((w.alloc (.cells #[.slice none 0 0] 25)).alloc (.cells #[.int .u64 0] 22)).alloc (.cells #[.slice a len cap] 29) = W0 := ⟨_, rfl⟩
  rw [hW0] at b1 b2 b3 hB0 hsz ⊢
  clear hW0
  refine wpIn_rangeFunc_ownH (F := Fence.wide) rfl (by omega) (gf := 159) (lb := #[.pointer (some ⟨w.heap.size + 1 + 1, 0, none⟩)]) rfl trivial (enters_of Tryz.func159 (by kernel_rfl) rfl)
    (back_stops Fence.wide (5 - 1) trivial rfl (by omega) X (w.heap.size + 1 + 1) (w.heap.size + 3) a len cap ms W0 (by omega) (by omega) hl b3.cell (hE.keep hB0) (fun y hy h0 => ?blk)) belowK_t (belowK_b (by omega)) (Below.refl _ _) (fun _ => rfl)
    (fun pre W => ((∀ j ∈ pre, Silent (ms.getD j ment0).e) ∧ Boxed W w.heap.size 25 (.slice none 0 0) ∧ Boxed W (w.heap.size + 1) 22 (.int .u64 0) ∧ w.heap.size + 3 ≤ W.heap.size) ∧ Below w.heap.size w W)
    (fun c pre W => (c = .ret ∧ ∃ pre0 x l b n cc, pre = pre0 ++ [x] ∧ (∀ j ∈ pre0, Silent (ms.getD j ment0).e) ∧ (ms.getD x ment0).e.k = 1 ∧ memOf (ms.getD x ment0).e.d = some l ∧ Boxed W w.heap.size 25 (.slice b n cc) ∧ Boxed W (w.heap.size + 1) 22 (.int .u64 (ms.getD x ment0).e.i) ∧ OwnU W w.heap.size (.slice b n cc) l ∧ ∀ z ∈ l, 0 ≤ z ∧ z ≤ 18446744073709551615) ∧ Below w.heap.size w W)
    ?ownI ?ownX ⟨⟨by simp, b1, b2, by omega⟩, hB0⟩
    (fun x a' W => ∃ Bx, w.heap.size + 3 ≤ Bx ∧ W.heap[Bx]? = some (.cells (ms.getD x ment0).cells.toArray 76 (0, 0)) ∧ a' = { tmps := #[.pointer (some ⟨p, 0, none⟩), .slice a len cap, undef, undef, .pointer (some ⟨w.heap.size, 0, none⟩), .pointer (some ⟨w.heap.size + 1, 0, none⟩), undef, .pointer (some ⟨Bx, 0, none⟩), undef, undef, .slice a len cap, .func (.func 159) #[] #[.pointer (some ⟨w.heap.size + 1 + 1, 0, none⟩)], .int .i64 (x : Int), (ms.getD x ment0).val, undef, undef, undef, undef, undef, undef, undef, undef, undef, undef, undef, undef, undef, undef, undef, undef, undef, undef, undef, undef, undef, undef, undef, undef, undef], defers := [] })
    ?ownA ?assign ?body ?done ?stop
  case blk =>
    obtain ⟨g, off, rfl, hg, _⟩ := hE.at h0
    cases hy
    show g < _
    omega
  case ownI => exact OwnFrom.and (Own.from (fun s A B row hs hg hr => ⟨hs.1, block_own hs.2.1 hg hr, block_own hs.2.2.1 hg hr, Nat.le_trans hs.2.2.2 hg.size⟩) _) (ownFrom_below (Nat.le_refl _) (by omega))
  case ownX =>
    intro c
    refine OwnFrom.and (Own.from (fun s A B row hs hg hr => ?_) _) (ownFrom_below (Nat.le_refl _) (by omega))
    obtain ⟨rfl, pre0, x, l, b, n, cc, h1, h2, h3, h4, h5, h6, h7, h8⟩ := hs
    exact ⟨rfl, pre0, x, l, b, n, cc, h1, h2, h3, h4, block_own h5 hg hr, block_own h6 hg hr, h7.own hg hr, h8⟩
  case ownA =>
    intro x a'
    refine Own.from (fun s A B row hs hg hr => ?_) _
    obtain ⟨Bx, h1, h2, h3⟩ := hs
    exact ⟨Bx, h1, block_own h2 hg hr, h3⟩
  case assign =>
    rintro l pre x W K ⟨⟨hs, k1, k2, hsz2⟩, hB⟩ hK
    unfold encB MEnt.val
    gi_wp2
    refine hK _ _ ((KeepsOthers.alloc _ _).from _) ((Below.refl _ W).alloc (by omega) _) ⟨⟨hs, k1.alloc _, k2.alloc _, by simp; omega⟩, hB.alloc (by omega) _⟩ ⟨W.heap.size, hsz2, World.alloc_heap_new W _, rfl⟩
  case body =>
    rintro l pre x a' W hl' ⟨r, hr⟩ ⟨⟨hs, k1, k2, hsz2⟩, hB⟩ ⟨Bx, hBx, hbox, rfl⟩ hlt
    have HS := hide hs
    have HK1 := hide k1
    have HK2 := hide k2
    have hok : (ms.getD x ment0).ok X w ∧ (ms.getD x ment0).n ≤ 1000000 := by
      by_cases hx : x < ms.length
      · exact ⟨hE.2.2.2.1 _ (ment_mem ms x hx), hd _ (ment_mem ms x hx)⟩
      · have e : ms.getD x ment0 = ment0 := by simp [List.getD, List.getElem?_eq_none (Nat.le_of_not_lt hx)]
        rw [e]
        exact ⟨⟨⟨by decide, by decide, by decide⟩, dat_nil _ _⟩, by decide⟩
    have HSl : Hid (∀ j ∈ pre ++ [x], Silent (ms.getD x ment0).e → Silent (ms.getD j ment0).e) := fun j hj h => by
      rcases List.mem_append.1 hj with h1 | h1
      · exact hs j h1
      · rw [List.mem_singleton.1 h1]; exact h
    have HI := hide (hok.1.2.1.keep hB)
    have HN := hide hok.2
    have f1 := Boxed.frozen k1
    have f2 := Boxed.frozen k2
    have v1 := Boxed.cell k1
    have v2 := Boxed.cell k2
    clear hs k1 k2 hok
    have hmx : Tryz.prog.follows .mixedOrders = true := by kernel_rfl
    by_cases hk1 : (ms.getD x ment0).e.k = 1
    · cases hmo : memOf (ms.getD x ment0).e.d with
      | none =>
        have HQ := hide (silent_none hmo)
        have HM := hide (ofMem_none _ _ _ _ W HI.out (by have := HN.out; omega) hmo)
        clear hmo
        generalize ms.getD x ment0 = m at *
        obtain ⟨⟨mi, mt, mk, md⟩, mb, mn', mc'⟩ := m
        dsimp only at hk1
        subst hk1
        have d2 : W.cell? ⟨Bx, 2, none⟩ = some (.int .i64 1) := by simp [World.cell?, hbox, MEnt.cells]
        have d3 : W.cell? ⟨Bx, 3, none⟩ = some (.slice mb mn' mc') := by simp [World.cell?, hbox, MEnt.cells]
        gi_wp2_with (refine ⟨trivial, ?_⟩; gi_at_call 149; refine (CallsIn.inRound l (callsIn_wide.2 HM.out)).mono ?_; rintro e W2 ⟨rfl, hb2⟩)
        exact ⟨keepsFrom_below hb2, hb2.mono hsz2, ⟨fun j hj => HSl.out j hj HQ.out, boxed_keep HK1.out hb2, boxed_keep HK2.out hb2, Nat.le_trans hsz2 hb2.size⟩, hB.trans (hb2.mono hB.size)⟩
      | some ml =>
        have HMo := hide hmo
        have HK := hide hk1
        have HM := hide (ofMem_some _ _ _ _ ml W HI.out (by have := HN.out; omega) hmo)
        have hbl : Bx < W.heap.size := (Array.getElem?_eq_some_iff.1 hbox).1
        clear hmo
        generalize hmE : ms.getD x ment0 = m at *
        obtain ⟨⟨mi, mt, mk, md⟩, mb, mn', mc'⟩ := m
        dsimp only at hk1
        subst hk1
        have HmE := hide hmE
        clear hmE
        have d0 : W.cell? ⟨Bx, 0, none⟩ = some (.int .u64 mi) := by simp [World.cell?, hbox, MEnt.cells]
        have d2 : W.cell? ⟨Bx, 2, none⟩ = some (.int .i64 1) := by simp [World.cell?, hbox, MEnt.cells]
        have d3 : W.cell? ⟨Bx, 3, none⟩ = some (.slice mb mn' mc') := by simp [World.cell?, hbox, MEnt.cells]
        gi_wp2_with (refine ⟨trivial, ?_⟩; gi_at_call 149; refine (CallsIn.inRound l (callsIn_wide.2 HM.out)).mono ?_; rintro e W2 ⟨b, n, c, rfl, ho2, hr2, -, hb2⟩; have e0 := (hb2.cell (p := ⟨Bx, 0, none⟩) hbl).trans d0; have HO2 := hide ho2; have HR2 := hide hr2; have HB2 := hide hb2; have K1 := boxed_keep HK1.out hb2; have K2 := boxed_keep HK2.out hb2; have z1 := Boxed.cell K1; have z2 := Boxed.cell K2; have y1 := Boxed.frozen K1; have y2 := Boxed.frozen K2; have HZ1 := hide K1; have HZ2 := hide K2; clear ho2 hr2 hb2 K1 K2)
        have HF1 : Hid (Boxed ((W2.setCell ⟨w.heap.size, 0, none⟩ (.slice b n c)).setCell ⟨w.heap.size + 1, 0, none⟩ (.int .u64 mi)) w.heap.size 25 (.slice b n c)) := Boxed.other (Boxed.set (.slice b n c) HZ1.out) (by omega) _
        have HF2 : Hid (Boxed ((W2.setCell ⟨w.heap.size, 0, none⟩ (.slice b n c)).setCell ⟨w.heap.size + 1, 0, none⟩ (.int .u64 mi)) (w.heap.size + 1) 22 (.int .u64 mi)) := Boxed.set _ (Boxed.other HZ2.out (by omega) _)
        have HF3 : Hid (OwnU ((W2.setCell ⟨w.heap.size, 0, none⟩ (.slice b n c)).setCell ⟨w.heap.size + 1, 0, none⟩ (.int .u64 mi)) w.heap.size (.slice b n c) ml) := OwnU.mono (OwnU.lies HO2.out (fun g hg => (Below.heap_setCell _ _ _ _ (by have := (HO2.out.lt g hg).1; show g ≠ w.heap.size + 1; omega)).trans (Below.heap_setCell _ _ _ _ (by have := (HO2.out.lt g hg).1; show g ≠ w.heap.size; omega)))) hB.size
        have HF4 : Hid (Below w.heap.size w ((W2.setCell ⟨w.heap.size, 0, none⟩ (.slice b n c)).setCell ⟨w.heap.size + 1, 0, none⟩ (.int .u64 mi)).drew) := (((hB.trans (HB2.out.mono hB.size)).setCell (p := ⟨w.heap.size, 0, none⟩) (Nat.le_refl _) _).setCell (p := ⟨w.heap.size + 1, 0, none⟩) (Nat.le_succ _) _).drew
        have HF5 : Hid (KeepsFrom W0.heap.size W ((W2.setCell ⟨w.heap.size, 0, none⟩ (.slice b n c)).setCell ⟨w.heap.size + 1, 0, none⟩ (.int .u64 mi)).drew) := (((keepsFrom_below HB2.out).trans ((KeepsOthers.setCell _ _ _).from _)).trans ((KeepsOthers.setCell _ _ _).from _)).trans ((KeepsOthers.drew _).from _)
        gi_region_with_o (fail)
        all_goals gi_wp2
        all_goals exact ⟨HF5.out, ⟨rfl, pre, x, ml, b, n, c, rfl, HS.out, by rw [HmE.out], by rw [HmE.out]; exact HMo.out, HF1.out, by rw [HmE.out]; exact HF2.out, HF3.out, HR2.out⟩, HF4.out⟩
    · have HQ := hide (silent_kind hk1)
      generalize ms.getD x ment0 = m at *
      obtain ⟨⟨mi, mt, mk, md⟩, mb, mn', mc'⟩ := m
      have d2 : W.cell? ⟨Bx, 2, none⟩ = some (.int .i64 mk) := by simp [World.cell?, hbox, MEnt.cells]
      dsimp only at hk1
      have hb : (mk != 1) = true := by simp [hk1]
      gi_wp2
      exact ⟨KeepsFrom.refl _ _, Below.refl _ _, ⟨fun j hj => HSl.out j hj HQ.out, HK1.out, HK2.out, hsz2⟩, hB⟩
  case done =>
    rintro D xs W hD rfl ⟨⟨hs, k1, k2, hsz2⟩, hB⟩ hK
    have hmx : Tryz.prog.follows .mixedOrders = true := by kernel_rfl
    have e0 := (hB.cell (p := ⟨p, 0, none⟩) hplt).trans c0
    have e2 := (hB.cell (p := ⟨p, 2, none⟩) hplt).trans c2
    have HT := hide (told_done s ms len hE.1 hs)
    have HM := hide (fun (V : World) (hV : Below w.heap.size w V) => cloneU_any ma mn mc s.m V (hm.src.keep hV) (by omega))
    have HRg := hide hm.2.2.2.1
    have HK1 := hide k1
    have HK2 := hide k2
    have HKD := hide hK
    have hpW : p < W.heap.size := Nat.lt_of_lt_of_le hplt hB.size
    have z1 := Boxed.cell k1
    have z2 := Boxed.cell k2
    have y1 := Boxed.frozen k1
    have y2 := Boxed.frozen k2
    clear hs k1 k2 hK hE hm
    gi_wp2
    refine wpIn_calm ?_
    gi_region_with_o (refine ⟨trivial, ?_⟩; gi_at_call 79; refine (callsIn_wide.2 (HM.out _ (by exact hB.drew))).mono ?_; rintro e W2 ⟨v2, rfl, ho2, hb2⟩; have hb2' : Below W.heap.size W W2 := ⟨hb2.os, hb2.tape, hb2.output, hb2.size, hb2.block⟩; obtain ⟨b, n, c, rfl⟩ := ho2.any3; have HO2 := hide ho2; have HB2 := hide hb2'; have g0 := (hb2'.cell (p := ⟨p, 0, none⟩) hpW).trans e0; have K1 := boxed_keep HK1.out hb2'; have K2 := boxed_keep HK2.out hb2'; have x1 := Boxed.cell K1; have x2 := Boxed.cell K2; have u1 := Boxed.frozen K1; have u2 := Boxed.frozen K2; have HZ1 := hide K1; have HZ2 := hide K2; clear ho2 hb2 hb2' K1 K2)
    all_goals
      have hDW : D < W.heap.size := (Array.getElem?_eq_some_iff.1 HKD.out).1
      have hK2 : ((W2.setCell ⟨w.heap.size, 0, none⟩ (.slice b n c)).setCell ⟨w.heap.size + 1, 0, none⟩ (.int .u64 s.i)).heap[D]? = some (.deferred (some [])) := (Below.heap_setCell _ _ _ _ (by show D ≠ w.heap.size + 1; omega)).trans ((Below.heap_setCell _ _ _ _ (by show D ≠ w.heap.size; omega)).trans ((HB2.out.block D hDW).trans HKD.out))
      have q1 : Boxed ((W2.setCell ⟨w.heap.size, 0, none⟩ (.slice b n c)).setCell ⟨w.heap.size + 1, 0, none⟩ (.int .u64 s.i)) w.heap.size 25 (.slice b n c) := Boxed.other (Boxed.set (.slice b n c) HZ1.out) (by omega) _
      have q2 : Boxed ((W2.setCell ⟨w.heap.size, 0, none⟩ (.slice b n c)).setCell ⟨w.heap.size + 1, 0, none⟩ (.int .u64 s.i)) (w.heap.size + 1) 22 (.int .u64 s.i) := Boxed.set _ (Boxed.other HZ2.out (by omega) _)
      have q3 : OwnU ((W2.setCell ⟨w.heap.size, 0, none⟩ (.slice b n c)).setCell ⟨w.heap.size + 1, 0, none⟩ (.int .u64 s.i)) w.heap.size (.slice b n c) s.m := OwnU.mono (OwnU.lies HO2.out (fun g hg => (Below.heap_setCell _ _ _ _ (by have := (HO2.out.lt g hg).1; show g ≠ w.heap.size + 1; simp at this; omega)).trans (Below.heap_setCell _ _ _ _ (by have := (HO2.out.lt g hg).1; show g ≠ w.heap.size; simp at this; omega)))) hB.size
      have q4 : Below w.heap.size w ((W2.setCell ⟨w.heap.size, 0, none⟩ (.slice b n c)).setCell ⟨w.heap.size + 1, 0, none⟩ (.int .u64 s.i)) := ((hB.trans (HB2.out.mono hB.size)).setCell (p := ⟨w.heap.size, 0, none⟩) (Nat.le_refl _) _).setCell (p := ⟨w.heap.size + 1, 0, none⟩) (Nat.le_succ _) _
      have hc1 := cell_kept (Boxed.cell q1) (grownBy_putObj' _ D (.deferred none)) (fun r e => by cases e; exact ⟨_, hK2, rfl⟩)
      have hc2 := cell_kept (Boxed.cell q2) (grownBy_putObj' _ D (.deferred none)) (fun r e => by cases e; exact ⟨_, hK2, rfl⟩)
      simp only [calmly]
      gi_wp2
      refine ⟨by simp, .inl ⟨_, _, rfl, run_takeDeferred hK2, ?_⟩⟩
      rw [HT.out]
      refine ⟨.tuple #[.slice b n c, .int .u64 s.i], ?_, b, n, c, rfl, ?_, HRg.out, q4.trans (belowK_b (w := w) (Nat.le_refl _) _ D _ _ (by omega) hK2 rfl rfl)⟩
      · simp [results, Tryz.results124, go_sem, hc1, hc2]
      · exact q3.own (grownBy_putObj' _ D (.deferred none)) (fun r e => by cases e; exact ⟨_, hK2, rfl⟩)
  case stop =>
    rintro D c pre W hD hpre ⟨⟨rfl, pre0, x, l, b, n, cc, rfl, hs0, hk, hmo, k1, k2, ho, hrg⟩, hB⟩ hK
    gi_wp2
    refine ⟨by simp, .inl ⟨_, _, rfl, run_takeDeferred hK, ?_⟩⟩
    have hc1 := cell_kept (Boxed.cell k1) (grownBy_putObj' _ D (.deferred none)) (fun r e => by cases e; exact ⟨_, hK, rfl⟩)
    have hc2 := cell_kept (Boxed.cell k2) (grownBy_putObj' _ D (.deferred none)) (fun r e => by cases e; exact ⟨_, hK, rfl⟩)
    rw [told_at s ms len hE.1 pre0 x l hpre hs0 hk hmo]
    refine ⟨.tuple #[.slice b n cc, .int .u64 (ms.getD x ment0).e.i], ?_, b, n, cc, rfl, ?_, hrg, hB.trans (belowK_b (w := w) (Nat.le_refl _) W D _ _ (by omega) hK rfl rfl)⟩
    · simp [results, Tryz.results124, go_sem, hc1, hc2]
    · exact ho.own (grownBy_putObj' _ D (.deferred none)) (fun r e => by cases e; exact ⟨_, hK, rfl⟩)

end Go.Proofs.YtodmieehdleohaaGreat
