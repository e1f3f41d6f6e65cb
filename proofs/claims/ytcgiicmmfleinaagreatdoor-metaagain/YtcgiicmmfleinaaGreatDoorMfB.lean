/- The program's machine: decide: what it does. The program's machine: status, lock: what they do. -/
import Derived.Test.YtcgiicmmfleinaaGreatDoorMfA
import Derived.Test.YtcgiicmmfleinaaGreatDoorWtL
import Derived.Deep.LoopGhost
namespace Go.Proofs.YtcgiicmmfleinaaGreatDoor
open Go.RowKit NumMath Go.ChangeShapes Go.WideShapes Go.Deep
set_option linter.unusedVariables false
set_option maxRecDepth 100000

variable {F : Nat → Prop} {base : Nat} {a : Mm} {z : Nat} {S : Mac}

/-- nothing done: a result of numbers alone -/
theorem rs_plain {w w' : World} {r : Res} {er tx ts : Int} {fl : Bool} (h : IsMm F base w a z S) (hb : Below w.heap.size w w') (hr : (mresN er tx ts fl).r = r) : RsPost F base w a z (r, S) (.returned (mresN er tx ts fl).v) w' :=
  ⟨a, _, rfl, hr, foot_pure (fun V => mresN_ok _ _ _ _ V), h.keep hb, MStep.keep a hb⟩

/-- a result of one number, that lies in a new box -/
def mres1 (b : Nat) (s : Sta) : MRes := ⟨0, 0, 0, false, some ⟨b, 0, none⟩, 1, 1, [s], none, 0, 0, []⟩

theorem mres1_foot {X : Nat → Prop} {w : World} {s : Sta} (hX : ∀ k, X k → k < w.heap.size) : Foot X (w.alloc (.cells #[.int .u64 s.tx, .int .i64 s.st, .int .u64 s.ts] 80)) (fun V => (mres1 w.heap.size s).ok V) := by
  have h1 := foot_ownY (X := X) (isSt_box w s 0) hX
  exact h1.imp (fun V hV => ⟨hV, isY_nil V, by simp [mres1]⟩)

/-- the walk's own end, where the box was written and then one block was made -/
theorem decide_one {w : World} {n : Int} (h : openM S.ss n = true) (fl : Bool) : decideM S n fl = settleM S n fl := by unfold decideM; rw [if_pos h]

theorem pdecide_no {w : World} (h : IsMm F base w a z S) (n : Int) (hn : U64 n) (fl : Bool) (hh : hasM S.ss n = false) :
    Calls Tryz.prog 76 #[.pointer (some ⟨a.p, 0, none⟩), .int .u64 n, .bool fl] w (RsPost F base w a (z + 1) (errR 150, S)) := by
  have hb := new_below w (.cells #[.int .i64 0, .int .u64 0, .int .u64 0, .bool false, .slice none 0 0, .slice none 0 0, .slice none 0 0] 55)
  have HH := hide (phas_any (h.keep hb) n hn)
  rw [hh] at HH
  have HE := hide (fun w' (hb : Below w.heap.size w w') => rs_plain (r := errR 150) (er := 150) (tx := 0) (ts := 0) (fl := false) (h.more (Nat.le_succ z)) hb rfl)
  clear h hb hh
  go_enter Tryz.func76, Tryz.ntmps76
  go_wp2_with (first | (go_at_call 113; go_must (refine HH.out.mono ?_); rintro e w' ⟨rfl, hw⟩; have hw := hw.symm; subst hw))
  exact bodyPost_ret (v := (mresN 150 0 0 false).v) (by simp [results, Tryz.results76, go_sem, MRes.v, mresN]) rfl (HE.out _ (new_below w _))

set_option maxHeartbeats 2000000 in
theorem pdecide_open {w : World} (h : IsMm F base w a z S) (n : Int) (hn : U64 n) (fl : Bool) (hop : openM S.ss n = true) (hz : z ≤ 1000) :
    Calls Tryz.prog 76 #[.pointer (some ⟨a.p, 0, none⟩), .int .u64 n, .bool fl] w (RsPost F base w a (z + 1) ({ res0 with ss := [staM (decideM S n fl).ss n] }, decideM S n fl)) := by
  rw [decide_one (w := w) hop]
  have hh := open_has hop
  obtain ⟨k, rfl, hk, s0, hs0, -⟩ := has_at hn.1 hh
  obtain ⟨W1, hW1⟩ : ∃ W1, W1 = w.alloc (.cells #[.int .i64 0, .int .u64 0, .int .u64 0, .bool false, .slice none 0 0, .slice none 0 0, .slice none 0 0] 55) := ⟨_, rfl⟩
  have hb1 : Below w.heap.size w W1 := by rw [hW1]; exact new_below _ _
  have hs1 : W1.heap.size = w.heap.size + 1 := by rw [hW1]; simp
  have hZ1 : Zero7 W1 w.heap.size := by rw [hW1]; exact zero7_new w _
  have H1 := h.box hb1 (by omega)
  have HH := hide (phas_any H1 ((k : Int) + 1) hn)
  rw [hh] at HH
  have HOp := hide (popen_any H1 ((k : Int) + 1) hn)
  rw [hop] at HOp
  obtain ⟨S', hS'⟩ : ∃ S', settleM S ((k : Int) + 1) fl = S' := ⟨_, rfl⟩
  rw [hS']
  have HS' := hide hS'
  have HK := hide hk
  obtain ⟨sa, sn, sc, ev, hl, c1, hm, hY⟩ := H1.slS
  obtain ⟨g, off, rfl, hg, hC⟩ := hY.at (j := k) (by omega)
  have hoff : off = 0 := by
    rcases (ev ▸ H1.so).form with ⟨e, _⟩ | ⟨g', cap', e, _⟩
    · cases e
    · cases e; rfl
  subst hoff
  have hlt : (k : Int) < (sn : Int) := by omega
  have hu : (k : Int) ≤ 1000 := by have := h.i.ns; omega
  have hnp : ¬ a.p = w.heap.size := by have := h.lt; omega
  have H1h := hide H1
  have Hev := hide ev
  have HU := hide hn
  have HZ1 := hide hZ1
  have HS1 := hide hs1
  have HB1 := hide hb1
  have H0x : Hid (∀ k, a.X k → k < w.heap.size) := fun k hk => (h.xl k hk).2
  have H0f : Hid (∀ k, F k → k < w.heap.size) := h.fl
  clear h hb1 hs1 hZ1 H1 hY hl hh hop hn hS' hk hs0 s0 hC c1 hg ev
  go_enter Tryz.func76, Tryz.ntmps76
  go_upto_region 1 with fail
  rw [← hW1]
  clear hW1
  go_wp2_with (first
    | (go_at_call 113; go_must (refine HH.out.mono ?_); rintro e w' ⟨rfl, hw⟩; have hw := hw.symm; subst hw)
    | (go_at_call 116; have hC4 := pstate_any HI3.out ((k : Int) + 1) HU.out; rw [HSt.out.p] at hC4; refine hC4.mono ?_; clear hC4; rintro e w4 ⟨rfl, hb4⟩; have hz4 := HZ3.out.same (hb4.block w.heap.size (by have := HSt.out.kp.size; have := HB2.out.size; have := HS1.out; omega)); have HB4 := hide hb4; have HZ4 := hide hz4; have ha4 := fun o => hz4.same ((new_below w4 o).block w.heap.size (by have := hb4.size; have := HSt.out.kp.size; have := HB2.out.size; have := HS1.out; omega)); have z0 := fun o => (ha4 o).c0; have z1 := fun o => (ha4 o).c1; have z2 := fun o => (ha4 o).c2; have z3 := fun o => (ha4 o).c3; have z4 := fun o => (ha4 o).c4; have z5 := fun o => (ha4 o).c5; have z6 := fun o => (ha4 o).c6; have g0 := fun o => (ha4 o).fz 0; have g1 := fun o => (ha4 o).fz 1; have g2 := fun o => (ha4 o).fz 2; have g3 := fun o => (ha4 o).fz 3; have g4 := fun o => (ha4 o).fz 4; have g5 := fun o => (ha4 o).fz 5; have g6 := fun o => (ha4 o).fz 6; have n4 : ¬ w.heap.size = w4.heap.size := (by have := hb4.size; have := HSt.out.kp.size; have := HB2.out.size; have := HS1.out; omega); have n4' : ¬ w4.heap.size = w.heap.size := (fun e => n4 e.symm); clear ha4 hz4 hb4)
    | (go_at_call 115; refine (psettle_any H2.out k g sn sc Hev.out HK.out hz fl).mono ?_; rw [HS'.out]; rintro e w3 ⟨rfl, a3, hI3, hst3⟩; have HI3 := hide hI3; have HSt := hide hst3; have HZ3 := hide (HZ2.out.same (hst3.kp.block w.heap.size (by have := HB2.out.size; have := HS1.out; omega) (fun hx => by have := H0x.out _ hx; omega))); clear hI3 hst3)
    | (go_at_call 114; go_must (refine HOp.out.mono ?_); rintro e w2 ⟨rfl, hb2⟩; have H2 := hide (H1h.out.keep hb2); have c1 : w2.cell? ⟨a.p, 1, none⟩ = some (.slice (some ⟨g, 0, none⟩) sn sc) := (by rw [← Hev.out]; exact H2.out.c1); have HB2 := hide hb2; have HZ2 := hide (HZ1.out.same (hb2.block w.heap.size (by have := HS1.out; omega))); clear hb2))
  obtain ⟨s', hs'⟩ : ∃ s', staM S'.ss ((k : Int) + 1) = s' := ⟨_, rfl⟩
  rw [hs']
  change bodyPost _ _ _ _ _ (ResAt (w4.alloc (.cells #[.int .u64 s'.tx, .int .i64 s'.st, .int .u64 s'.ts] 80)) w.heap.size (mres1 w4.heap.size s'))
  have hI4 := HI3.out.keep HB4.out
  have hlt4 : w.heap.size < w4.heap.size := by have := HB4.out.size; have := HSt.out.kp.size; have := HB2.out.size; have := HS1.out; omega
  have hend := rs_close (z := z + 1) (x := ({ res0 with ss := [s'] }, S')) (mr := mres1 w4.heap.size s') HB1.out (by rw [HS1.out]; exact Nat.lt_succ_self _) (hI4.keep (new_below _ _)) (((MStep.keep a HB2.out).trans HSt.out).trans ((MStep.keep a3 HB4.out).trans (MStep.keep a3 (new_below w4 (.cells #[.int .u64 s'.tx, .int .i64 s'.st, .int .u64 s'.ts] 80))))) H0x.out H0f.out rfl (mres1_foot (w := w4) (s := s') (fun j hj => by
    rcases hj with hj | hj | hj
    · exact (hI4.xl j hj).2
    · have := H0f.out j hj; omega
    · omega))
  obtain ⟨r0, r1, r2, r3, r4, r5, r6⟩ := resAt_box (HZ4.out.same ((new_below w4 (.cells #[.int .u64 s'.tx, .int .i64 s'.st, .int .u64 s'.ts] 80)).block w.heap.size hlt4)) (mres1 w4.heap.size s')
  generalize ResAt (w4.alloc (.cells #[.int .u64 s'.tx, .int .i64 s'.st, .int .u64 s'.ts] 80)) w.heap.size (mres1 w4.heap.size s') = W at *
  exact bodyPost_ret (v := (mres1 w4.heap.size s').v) (by simp [results, Tryz.results76, go_sem, MRes.v, r0, r1, r2, r3, r4, r5, r6]) rfl hend

set_option maxHeartbeats 2000000 in
theorem pdecide_shut {w : World} (h : IsMm F base w a z S) (n : Int) (hn : U64 n) (fl : Bool) (hh : hasM S.ss n = true) (hop : openM S.ss n = false) :
    Calls Tryz.prog 76 #[.pointer (some ⟨a.p, 0, none⟩), .int .u64 n, .bool fl] w (RsPost F base w a (z + 1) ({ res0 with ss := [staM S.ss n] }, S)) := by
  obtain ⟨W1, hW1⟩ : ∃ W1, W1 = w.alloc (.cells #[.int .i64 0, .int .u64 0, .int .u64 0, .bool false, .slice none 0 0, .slice none 0 0, .slice none 0 0] 55) := ⟨_, rfl⟩
  have hb1 : Below w.heap.size w W1 := by rw [hW1]; exact new_below _ _
  have hs1 : W1.heap.size = w.heap.size + 1 := by rw [hW1]; simp
  have hZ1 : Zero7 W1 w.heap.size := by rw [hW1]; exact zero7_new w _
  have H1 := h.box hb1 (by omega)
  have HH := hide (phas_any H1 n hn)
  rw [hh] at HH
  have HOp := hide (popen_any H1 n hn)
  rw [hop] at HOp
  have H1h := hide (H1.more (Nat.le_succ z))
  have HU := hide hn
  have HZ1 := hide hZ1
  have HS1 := hide hs1
  have HB1 := hide hb1
  have H0x : Hid (∀ k, a.X k → k < w.heap.size) := fun k hk => (h.xl k hk).2
  have H0f : Hid (∀ k, F k → k < w.heap.size) := h.fl
  clear h hb1 hs1 hZ1 H1 hh hop hn
  go_enter Tryz.func76, Tryz.ntmps76
  go_upto_region 1 with fail
  rw [← hW1]
  clear hW1
  go_wp2_with (first
    | (go_at_call 113; go_must (refine HH.out.mono ?_); rintro e w' ⟨rfl, hw⟩; have hw := hw.symm; subst hw)
    | (go_at_call 116; refine (pstate_any H2.out n HU.out).mono ?_; rintro e w4 ⟨rfl, hb4⟩; have hz4 := HZ2.out.same (hb4.block w.heap.size (by have := HB2.out.size; have := HS1.out; omega)); have HB4 := hide hb4; have HZ4 := hide hz4; have ha4 := fun o => hz4.same ((new_below w4 o).block w.heap.size (by have := hb4.size; have := HB2.out.size; have := HS1.out; omega)); have z0 := fun o => (ha4 o).c0; have z1 := fun o => (ha4 o).c1; have z2 := fun o => (ha4 o).c2; have z3 := fun o => (ha4 o).c3; have z4 := fun o => (ha4 o).c4; have z5 := fun o => (ha4 o).c5; have z6 := fun o => (ha4 o).c6; have g0 := fun o => (ha4 o).fz 0; have g1 := fun o => (ha4 o).fz 1; have g2 := fun o => (ha4 o).fz 2; have g3 := fun o => (ha4 o).fz 3; have g4 := fun o => (ha4 o).fz 4; have g5 := fun o => (ha4 o).fz 5; have g6 := fun o => (ha4 o).fz 6; have n4 : ¬ w.heap.size = w4.heap.size := (by have := hb4.size; have := HB2.out.size; have := HS1.out; omega); have n4' : ¬ w4.heap.size = w.heap.size := (fun e => n4 e.symm); clear ha4 hz4 hb4)
    | (go_at_call 114; go_must (refine HOp.out.mono ?_); rintro e w2 ⟨rfl, hb2⟩; have H2 := hide (H1h.out.keep hb2); have HB2 := hide hb2; have HZ2 := hide (HZ1.out.same (hb2.block w.heap.size (by have := HS1.out; omega))); clear hb2))
  obtain ⟨s', hs'⟩ : ∃ s', staM S.ss n = s' := ⟨_, rfl⟩
  rw [hs']
  change bodyPost _ _ _ _ _ (ResAt (w4.alloc (.cells #[.int .u64 s'.tx, .int .i64 s'.st, .int .u64 s'.ts] 80)) w.heap.size (mres1 w4.heap.size s'))
  have hI4 := H2.out.keep HB4.out
  have hlt4 : w.heap.size < w4.heap.size := by have := HB4.out.size; have := HB2.out.size; have := HS1.out; omega
  have hend := rs_close (z := z + 1) (x := ({ res0 with ss := [s'] }, S)) (mr := mres1 w4.heap.size s') HB1.out (by rw [HS1.out]; exact Nat.lt_succ_self _) (hI4.keep (new_below _ _)) ((MStep.keep a HB2.out).trans ((MStep.keep a HB4.out).trans (MStep.keep a (new_below w4 (.cells #[.int .u64 s'.tx, .int .i64 s'.st, .int .u64 s'.ts] 80))))) H0x.out H0f.out rfl (mres1_foot (w := w4) (s := s') (fun j hj => by
    rcases hj with hj | hj | hj
    · exact (hI4.xl j hj).2
    · have := H0f.out j hj; omega
    · omega))
  obtain ⟨r0, r1, r2, r3, r4, r5, r6⟩ := resAt_box (HZ4.out.same ((new_below w4 (.cells #[.int .u64 s'.tx, .int .i64 s'.st, .int .u64 s'.ts] 80)).block w.heap.size hlt4)) (mres1 w4.heap.size s')
  generalize ResAt (w4.alloc (.cells #[.int .u64 s'.tx, .int .i64 s'.st, .int .u64 s'.ts] 80)) w.heap.size (mres1 w4.heap.size s') = W at *
  exact bodyPost_ret (v := (mres1 w4.heap.size s').v) (by simp [results, Tryz.results76, go_sem, MRes.v, r0, r1, r2, r3, r4, r5, r6]) rfl hend

theorem pdecide_any {w : World} (h : IsMm F base w a z S) (n : Int) (hn : U64 n) (fl : Bool) (hz : z ≤ 1000) :
    Calls Tryz.prog 76 #[.pointer (some ⟨a.p, 0, none⟩), .int .u64 n, .bool fl] w (RsPost F base w a (z + 1) (if hasM S.ss n = true then ({ res0 with ss := [staM (decideM S n fl).ss n] }, decideM S n fl) else (errR 150, S))) := by
  by_cases hh : hasM S.ss n = true
  · rw [if_pos hh]
    by_cases hop : openM S.ss n = true
    · exact pdecide_open h n hn fl hop hz
    · have hd : decideM S n fl = S := by unfold decideM; rw [if_neg hop]
      rw [hd]
      exact pdecide_shut h n hn fl hh (by simpa using hop)
  · rw [if_neg hh]
    exact pdecide_no h n hn fl (by simpa using hh)

end Go.Proofs.YtcgiicmmfleinaaGreatDoor

namespace Go.Proofs.YtcgiicmmfleinaaGreatDoor
open Go.RowKit NumMath Go.ChangeShapes Go.WideShapes Go.Deep
set_option linter.unusedVariables false
set_option maxRecDepth 100000

variable {F : Nat → Prop} {base : Nat} {a : Mm} {z : Nat} {S : Mac}

theorem int_at {xs : List Int} {k n : Nat} (h : xs.length = n) (hk : k < n) : ∃ x, xs[k]? = some x := ⟨_, List.getElem?_eq_getElem (by omega)⟩

theorem map_more {α β : Type} {f : α → β} {xs : List α} {k : Nat} {x : α} (h : xs[k]? = some x) : (xs.take (k + 1)).map f = (xs.take k).map f ++ [f x] := by
  rw [List.take_add_one, h, List.map_append]
  rfl

/-- a result of numbers -/
def mresS (a : Option Addr) (n c : Nat) (ss : List Sta) : MRes := ⟨0, 0, 0, false, a, n, c, ss, none, 0, 0, []⟩

theorem mresS_foot {X : Nat → Prop} {w : World} {b : Nat} {sa : Option Addr} {n c : Nat} {ss : List Sta} (h : OwnY laySt w b (.slice sa n c) ss) (hX : ∀ k, X k → k < b) : Foot X w (fun V => (mresS sa n c ss).ok V) :=
  (foot_ownY h hX).imp (fun V hV => ⟨hV, isY_nil V, by simp [mresS]⟩)

set_option maxHeartbeats 2000000 in
theorem pstatus_any {w : World} (h : IsMm F base w a z S) (ta : Option Addr) (n c : Nat) (xs : List Int) (hx : IsY layU w ta n c xs) (hu : ∀ x ∈ xs, U64 x) (hn : n ≤ 1000) :
    Calls Tryz.prog 77 #[.pointer (some ⟨a.p, 0, none⟩), .slice ta n c] w (RsPost F base w a z ({ res0 with ss := xs.map (staM S.ss) }, S)) := by
  obtain ⟨W1, hW1⟩ : ∃ W1, W1 = w.alloc (.cells #[.int .i64 0, .int .u64 0, .int .u64 0, .bool false, .slice none 0 0, .slice none 0 0, .slice none 0 0] 55) := ⟨_, rfl⟩
  have hb1 : Below w.heap.size w W1 := by rw [hW1]; exact new_below _ _
  have hs1 : W1.heap.size = w.heap.size + 1 := by rw [hW1]; simp
  have hZ1 : Zero7 W1 w.heap.size := by rw [hW1]; exact zero7_new w _
  have H1 := h.box hb1 (by omega)
  have H1h := hide H1
  have HX := hide (hx.keep hb1)
  have HXl := hide hx.1
  have HU := hide hu
  have HZ1 := hide hZ1
  have HS1 := hide hs1
  have HB1 := hide hb1
  have hm : (n : Int) ≤ 9223372036854775807 := by omega
  have H0x : Hid (∀ k, a.X k → k < w.heap.size) := fun k hk => (h.xl k hk).2
  have H0f : Hid (∀ k, F k → k < w.heap.size) := h.fl
  clear h hb1 hs1 hZ1 H1 hx hu
  go_enter Tryz.func77, Tryz.ntmps77
  go_upto_region 1 with fail
  rw [← hW1]
  clear hW1
  go_wp2
  go_loopg [5, 10] n (fun gk v i wr => ∃ k : Nat, gk = n - k ∧ i = .int .i64 k ∧ k ≤ n ∧ OwnY laySt wr W1.heap.size v ((xs.take k).map (staM S.ss)) ∧ Below W1.heap.size W1 wr)
  case atStart => exact ⟨0, rfl, rfl, Nat.zero_le _, ownY_nil _ _, Below.refl _ _⟩
  case round =>
    obtain ⟨k, rfl, rfl, hk, hO, hB⟩ := hrel
    obtain ⟨la, ln, lc, rfl⟩ := hO.any3
    have HO := hide hO
    have HB := hide hB
    have hsw := hB.size
    by_cases hlt : k < n
    · have hlt' : (k : Int) < (n : Int) := by omega
      obtain ⟨x, hxk⟩ := int_at HXl.out hlt
      obtain ⟨g, off, rfl, hg, hC⟩ := (HX.out.keep hB).at hlt
      have d0 : wr.cell? ⟨g, off + k, none⟩ = some (.int .u64 x) := by simpa [layU] using hC k x hxk 0 _ rfl
      have HSt := hide (pstate_any (H1h.out.keep hB) x (HU.out x (List.mem_of_getElem? hxk)))
      have HMo := hide (map_more (f := staM S.ss) hxk)
      obtain ⟨s, hs⟩ : ∃ s, staM S.ss x = s := ⟨_, rfl⟩
      rw [hs] at HSt HMo
      clear hC hxk hs hO hB
      go_wp2_with (first
        | (at_builtin; (try rw [← HW5.out]); go_must (refine wp_joinY laySt _ rfl (.tmp 14) (.tmp 18) rfl W1.heap.size _ _ rfl HO5.out (some ⟨w4.heap.size, 0, none⟩) 1 1 [s] rfl HX5.out HBig.out HBl.out ?_); intro v6 w6 hown6 hg6 hat6; obtain ⟨va, vn, vc, rfl⟩ := hown6.any3; have HO6 := hide hown6; have HG6 := hide (HO5.out.grown hg6 HBl.out); clear hown6 hg6 hat6)
        | (go_at_call 116; go_must (refine HSt.out.mono ?_); rintro e w4 ⟨rfl, hb4⟩; obtain ⟨W5, hW5⟩ : ∃ W5, W5 = w4.alloc (.cells #[.int .u64 s.tx, .int .i64 s.st, .int .u64 s.ts] 80) := ⟨_, rfl⟩; have hb5 : Below w4.heap.size w4 W5 := (by rw [hW5]; exact new_below _ _); have HO5 := hide ((HO.out.keep hb4).keep hb5); have HX5 : Hid (SrcY laySt W5 (some ⟨w4.heap.size, 0, none⟩) 1 [s]) := (by show SrcY _ _ _ _ _; rw [hW5]; exact (isSt_box w4 s 0).is.src); have HB5 := hide (hb4.trans (hb5.mono hb4.size)); have HBig : Hid (((xs.take k).map (staM S.ss)).length + [s].length ≤ 1000000000) := (by show _ ≤ _; simp; omega); have HBl : Hid (W1.heap.size ≤ W5.heap.size) := (Nat.le_trans HB.out.size HB5.out.size); have HW5 := hide hW5; clear hb4 hb5 hW5))
      go_roundg (n - (k + 1))
      case measure => omega
      case rel => exact ⟨k + 1, rfl, by go_num, by omega, by rw [HMo.out]; exact HO6.out, (HB.out.trans (HB5.out.mono HB.out.size)).trans HG6.out⟩
    · obtain rfl : k = n := by omega
      have ek : xs.take k = xs := List.take_of_length_le (by have := HXl.out; omega)
      rw [ek] at HO
      have hwz := (HZ1.out.same (hB.block w.heap.size (by have := HS1.out; omega)))
      have HWz := hide hwz
      obtain ⟨z0, z1, z2, z3, z4, z5, z6, zf⟩ := hwz
      have g0 := zf 0; have g1 := zf 1; have g2 := zf 2; have g3 := zf 3; have g4 := zf 4; have g5 := zf 5; have g6 := zf 6
      clear zf hO hB
      go_wp2
      change bodyPost _ _ _ _ _ (ResAt wr w.heap.size (mresS la ln lc (xs.map (staM S.ss))))
      have hI := H1h.out.keep HB.out
      have hend := rs_close (z := z) (x := ({ res0 with ss := xs.map (staM S.ss) }, S)) (mr := mresS la ln lc (xs.map (staM S.ss))) HB1.out (by rw [HS1.out]; exact Nat.lt_succ_self _) hI (MStep.keep a HB.out) H0x.out H0f.out rfl (mresS_foot HO.out (fun j hj => by
        have := HS1.out
        rcases hj with hj | hj | hj
        · have := H0x.out j hj; omega
        · have := H0f.out j hj; omega
        · omega))
      obtain ⟨r0, r1, r2, r3, r4, r5, r6⟩ := resAt_box HWz.out (mresS la ln lc (xs.map (staM S.ss)))
      generalize ResAt wr w.heap.size (mresS la ln lc (xs.map (staM S.ss))) = W at *
      exact bodyPost_ret (v := (mresS la ln lc (xs.map (staM S.ss))).v) (by simp [results, Tryz.results77, go_sem, MRes.v, r0, r1, r2, r3, r4, r5, r6]) rfl hend


theorem plock_no {w : World} (h : IsMm F base w a z S) (n : Int) (hn : U64 n) (x : ML) (hop : openM S.ss n = false) :
    Calls Tryz.prog 78 #[.pointer (some ⟨a.p, 0, none⟩), .int .u64 n, .agg #[.int .u64 x.l.tx, .int .i64 x.l.lv, .int .i64 x.l.md, .slice x.la x.ln x.lc, .slice x.ha x.hn x.hc]] w (RsPost F base w a (z + 1) (errR 150, S)) := by
  obtain ⟨W0, hW0⟩ : ∃ W0, W0 = w.alloc (.cells #[.int .u64 x.l.tx, .int .i64 x.l.lv, .int .i64 x.l.md, .slice x.la x.ln x.lc, .slice x.ha x.hn x.hc] 41) := ⟨_, rfl⟩
  obtain ⟨W1, hW1⟩ : ∃ W1, W1 = W0.alloc (.cells #[.int .i64 0, .int .u64 0, .int .u64 0, .bool false, .slice none 0 0, .slice none 0 0, .slice none 0 0] 55) := ⟨_, rfl⟩
  have hb0 : Below w.heap.size w W0 := by rw [hW0]; exact new_below _ _
  have hb01 : Below W0.heap.size W0 W1 := by rw [hW1]; exact new_below _ _
  have hs0 : W0.heap.size = w.heap.size + 1 := by rw [hW0]; simp
  have hb1 : Below w.heap.size w W1 := hb0.trans (hb01.mono hb0.size)
  have hZ1 : Zero7 W1 W0.heap.size := by rw [hW1]; exact zero7_new W0 _
  have hs1 : W1.heap.size = W0.heap.size + 1 := by rw [hW1]; simp
  have HOp := hide (popen_any (h.keep hb1) n hn)
  rw [hop] at HOp
  have HE := hide (fun w' (hb : Below w.heap.size w w') => rs_plain (r := errR 150) (er := 150) (tx := 0) (ts := 0) (fl := false) (h.more (Nat.le_succ z)) hb rfl)
  have HB1 := hide hb1
  have HZ1 := hide hZ1
  have HS1 := hide hs1
  have HS0 := hide hs0
  rw [hW0] at hW1
  have es0 : (w.alloc (.cells #[.int .u64 x.l.tx, .int .i64 x.l.lv, .int .i64 x.l.md, .slice x.la x.ln x.lc, .slice x.ha x.hn x.hc] 41)).heap.size = W0.heap.size := by rw [hW0]
  clear h hb0 hb01 hb1 hZ1 hs1 hs0 hop
  go_enter Tryz.func78, Tryz.ntmps78
  go_upto_region 1 with fail
  rw [← hW1]
  clear hW1 hW0
  go_wp2_with (first
    | (go_at_call 114; go_must (refine HOp.out.mono ?_); rintro e w2 ⟨rfl, hb2⟩; have hz2 := HZ1.out.same (hb2.block W0.heap.size (by have := HS1.out; omega)); have HZ2 := hide hz2; obtain ⟨z0, z1, z2, z3, z4, z5, z6, zf⟩ := hz2; have g0 := zf 0; have g1 := zf 1; have g2 := zf 2; have g3 := zf 3; have g4 := zf 4; have g5 := zf 5; have g6 := zf 6; have HB2 := hide hb2; clear zf hb2))
  change bodyPost _ _ _ _ _ (ResAt w2 W0.heap.size (mresN 150 0 0 false))
  have hk : Keeps (fun k => k = W0.heap.size) w2 (ResAt w2 W0.heap.size (mresN 150 0 0 false)) := keepsYs _ _ _ _
  have hend := HE.out (ResAt w2 W0.heap.size (mresN 150 0 0 false)) (kp_below (kpThen (kpBelow (Below.keeps HB1.out _) HB2.out) (fun k (e : k = W0.heap.size) => .inl (by have := HS0.out; omega)) hk))
  obtain ⟨r0, r1, r2, r3, r4, r5, r6⟩ := resAt_box HZ2.out (mresN 150 0 0 false)
  generalize ResAt w2 W0.heap.size (mresN 150 0 0 false) = W at *
  exact bodyPost_ret (v := (mresN 150 0 0 false).v) (by simp [results, Tryz.results78, go_sem, MRes.v, r0, r1, r2, r3, r4, r5, r6]) rfl hend

theorem tpost_kpX {G : Nat → Prop} {w w' : World} {p : Nat} {hv wv : Value} {hs ws : List ML} (h : TPost G base w p hv wv hs ws w') : Keeps (Xt p hv wv) w w' := by
  obtain ⟨_, _, _, hk, _, _⟩ := h
  exact hk

theorem mapU {hs ws : List ML} {t : Tab} (h2 : hs.map ML.l = t.held) (h3 : ws.map ML.l = t.wait) {P : Lck → Prop} (h : ∀ x ∈ t.held ++ t.wait, P x) : ∀ m ∈ hs ++ ws, P m.l := by
  intro m hm
  refine h m.l ?_
  rw [← h2, ← h3, ← List.map_append]
  exact List.mem_map.2 ⟨m, hm, rfl⟩

/-- a call's end, whatever boxes it made -/
theorem rs_close2 {G' : Nat → Prop} {w V : World} {a' : Mm} {x : Res × Mac} {mr : MRes} {b : Nat} (hF : ∀ k, F k → G' k) (hG : ∀ k, G' k → F k ∨ w.heap.size ≤ k) (hb : w.heap.size ≤ b) (hGb : G' b) (h : IsMm G' base V a' z x.2) (hp : a'.p = a.p) (kp : Keeps a.X w V) (st : ∀ k, a'.X k → a.X k ∨ w.heap.size ≤ k) (hr : mr.r = x.1) (hf : Foot (fun k => a'.X k ∨ G' k) V (fun U => mr.ok U)) :
    RsPost F base w a z x (.returned (MRes.v mr)) (ResAt V b mr) := by
  have hk : Keeps (fun k => k = b) V (ResAt V b mr) := keepsYs _ _ _ _
  refine ⟨a', mr, rfl, hr, ?_, ?_, ⟨hp, kpThen kp (fun k (e : k = b) => .inr (by omega)) hk, st⟩⟩
  · exact hf.step (Keeps.wider hk (fun k (e : k = b) => .inr (by rw [e]; exact hGb))) (fun k hk2 => by
      rcases hk2 with hk2 | hk2
      · exact .inl (.inl hk2)
      · exact .inl (.inr (hF k hk2)))
  · exact h.other (Keeps.wider hk (fun k (e : k = b) => by rw [e]; exact hGb)) (fun k hk2 => ⟨.inl (hF k hk2), Nat.lt_of_lt_of_le (h.fl k (hF k hk2)) hk.size⟩) (fun e => h.f0 (hF 0 e))

/-- a lock asked for by n -/
def ML.by' (x : ML) (n : Int) : ML := ⟨⟨n, x.l.lv, x.l.md, x.l.lo, x.l.hi⟩, x.la, x.ln, x.lc, x.ha, x.hn, x.hc⟩

set_option maxHeartbeats 4000000 in
theorem plock_yes {w : World} (h : IsMm F base w a z S) (n : Int) (hn : U64 n) (x : ML) (hx : Foot (fun k => a.X k ∨ F k) w (fun V => x.ok V)) (hlo : x.ln ≤ 200) (hhi : x.hn ≤ 200) (hz : z ≤ 160) (hop : openM S.ss n = true) :
    Calls Tryz.prog 78 #[.pointer (some ⟨a.p, 0, none⟩), .int .u64 n, .agg #[.int .u64 x.l.tx, .int .i64 x.l.lv, .int .i64 x.l.md, .slice x.la x.ln x.lc, .slice x.ha x.hn x.hc]] w (RsPost F base w a (z + 1) (⟨(askL S.tab { x.l with tx := n }).2.2, 0, 0, (askL S.tab { x.l with tx := n }).2.1, [], []⟩, { S with tab := (askL S.tab { x.l with tx := n }).1 })) := by
  obtain ⟨ar, har⟩ : ∃ ar, askL S.tab { x.l with tx := n } = ar := ⟨_, rfl⟩
  rw [har]
  obtain ⟨W0, hW0⟩ : ∃ W0, W0 = w.alloc (.cells #[.int .u64 x.l.tx, .int .i64 x.l.lv, .int .i64 x.l.md, .slice x.la x.ln x.lc, .slice x.ha x.hn x.hc] 41) := ⟨_, rfl⟩
  obtain ⟨W1, hW1⟩ : ∃ W1, W1 = W0.alloc (.cells #[.int .i64 0, .int .u64 0, .int .u64 0, .bool false, .slice none 0 0, .slice none 0 0, .slice none 0 0] 55) := ⟨_, rfl⟩
  have hb0 : Below w.heap.size w W0 := by rw [hW0]; exact new_below _ _
  have hb01 : Below W0.heap.size W0 W1 := by rw [hW1]; exact new_below _ _
  have hs0 : W0.heap.size = w.heap.size + 1 := by rw [hW0]; simp
  have hs1 : W1.heap.size = W0.heap.size + 1 := by rw [hW1]; simp
  have hX0 : At5 W0 w.heap.size 0 x := by rw [hW0]; exact at5_new w x
  have hf0 : ∀ j, W0.frozen? ⟨w.heap.size, j, none⟩ = false := by rw [hW0]; exact fzY_new _ _ _
  have hX1 := hX0.same (hb01.block w.heap.size (by omega))
  have hf1 : ∀ j, W1.frozen? ⟨w.heap.size, j, none⟩ = false := fun j => (World.frozen?_of_block (a := ⟨w.heap.size, j, none⟩) (hb01.block w.heap.size (by omega))).trans (hf0 j)
  have hZ1 : Zero7 W1 W0.heap.size := by rw [hW1]; exact zero7_new W0 _
  have H0 := h.box hb0 (by omega)
  have H1 := H0.box hb01 (by omega)
  have hx1 : Foot (fun k => a.X k ∨ ((F k ∨ k = w.heap.size) ∨ k = W0.heap.size)) W1 (fun V => x.ok V) := hx.step (Below.keeps (hb0.trans (hb01.mono hb0.size)) _) (fun k hk => by
    rcases hk with hk | (hk | hk) | hk
    · exact .inl (.inl hk)
    · exact .inl (.inr hk)
    · exact .inr (by omega)
    · exact .inr (by omega))
  have HOp := hide (popen_any H1 n hn)
  rw [hop] at HOp
  have H1h := hide H1
  have HX1 := hide hX1
  have Hf1 := hide hf1
  have HXf := hide hx1
  have HU := hide hn
  have HZ1 := hide hZ1
  have HS1 := hide hs1
  have HS0 := hide hs0
  have HB0 := hide hb0
  have HB01 := hide hb01
  have HA := hide har
  have hnp : ¬ a.p = w.heap.size := by have := h.lt; omega
  have H0x : Hid (∀ k, a.X k → k < w.heap.size) := fun k hk => (h.xl k hk).2
  have H0f : Hid (∀ k, F k → k < w.heap.size) := h.fl
  rw [hW0] at hW1
  clear h hb0 hb01 hs1 hs0 hX0 hf0 hX1 hf1 hZ1 H0 H1 hx1 hx hop har
  go_enter Tryz.func78, Tryz.ntmps78
  go_upto_region 1 with fail
  rw [← hW1]
  clear hW1 hW0
  go_upto_region 4 with (first
    | (go_at_call 114; go_must (refine HOp.out.mono ?_); rintro e w2 ⟨rfl, hb2⟩; have hs2 := HB01.out.size; have hbk := hb2.block w.heap.size (by have := HS0.out; omega); have x0 := (HX1.out.same hbk).zero.1; have f0 := (World.frozen?_of_block (a := ⟨w.heap.size, 0, none⟩) hbk).trans (Hf1.out 0); have HX2 := hide (HX1.out.same hbk); have HZ2 := hide (HZ1.out.same (hb2.block W0.heap.size (by have := HS1.out; omega))); have HB2 := hide hb2; clear hb2 hbk))
  obtain ⟨W3, hW3⟩ : ∃ W3, W3 = w2.setCell ⟨w.heap.size, 0, none⟩ (.int .u64 n) := ⟨_, rfl⟩
  rw [← hW3]
  have hk3 : Keeps (fun k => k = w.heap.size) w2 W3 := by rw [hW3]; exact keepsY_cell _
  have hl2 : w.heap.size < w2.heap.size := by have := HB2.out.size; have := HS0.out; omega
  have hI3 := (H1h.out.keep HB2.out).other (Keeps.wider hk3 (fun k hk => .inl (.inr hk))) (fun k hk => ⟨.inl hk, by
    have := hk3.size
    rcases hk with (hk | hk) | hk
    · have := H0f.out k hk; omega
    · omega
    · have := HB2.out.size; have := HS1.out; omega⟩) (fun e => (H1h.out.f0 e))
  have hx3 : Foot (fun k => a.X k ∨ ((F k ∨ k = w.heap.size) ∨ k = W0.heap.size)) W3 (fun V => x.ok V) := (HXf.out.keep HB2.out).step (Keeps.wider hk3 (fun k hk => .inr (.inl (.inr hk)))) (fun k hk => .inl hk)
  have HX3 : Hid (At5 W3 w.heap.size 0 (x.by' n)) := by
    show At5 _ _ _ _
    obtain ⟨y0, y1, y2, y3, y4⟩ := HX2.out.zero
    rw [hW3]
    exact at5_of0 ⟨World.cell?_setCell_same' _ _ _ (by rw [y0]; rfl), (cell_offY (by decide)).trans y1, (cell_offY (by decide)).trans y2, (cell_offY (by decide)).trans y3, (cell_offY (by decide)).trans y4⟩
  have HC2 := hide hI3.c2
  have HI3 := hide hI3
  have HZ3 := hide (HZ2.out.same (hk3.block W0.heap.size (by have := HB2.out.size; have := HS1.out; omega) (fun (e : W0.heap.size = w.heap.size) => by have := HS0.out; omega)))
  have HK3 := hide hk3
  have hd : Below W3.heap.size W3 W3.drew := (Below.refl _ _).drew
  have HAs := hide (pask_any (hI3.tb.keep hd) (x.by' n) (((hx3.keep hd).more (fun k (hk : Xt a.q a.hv a.wv k) => .inl (.inl (.inr hk)))).imp (fun V hV => (⟨hV.lo, hV.hi⟩ : (x.by' n).ok V))) (by show x.ln ≤ _; omega) (by show x.hn ≤ _; omega) HU.out (fun m hm => (mapU hI3.th hI3.tw hI3.i.tu m hm).1) (by
    have := hI3.i.ti.one
    rw [← hI3.tw, List.map_map] at this
    exact this) (by have := hI3.i.nh; rw [← hI3.th, List.length_map] at this; omega) (by have := hI3.i.nw; rw [← hI3.tw, List.length_map] at this; omega))
  rw [hI3.th, hI3.tw, show (x.by' n).l = { x.l with tx := n } from rfl, HA.out] at HAs
  have HXg : Hid (∀ k, Xt a.q a.hv a.wv k → k ≠ w.heap.size ∧ k ≠ a.p ∧ k < w.heap.size) := fun k hk => ⟨fun e => by have := H0x.out k (.inr hk); omega, fun e => hI3.tb.gx k hk (.inl (.inl e)), H0x.out k (.inr hk)⟩
  have HIa := hide (hI3.i.asked (x := { x.l with tx := n }) HU.out (by show x.l.lo.length ≤ _; rw [hx3.now.lo.1]; exact hlo) (by show x.l.hi.length ≤ _; rw [hx3.now.hi.1]; exact hhi))
  rw [HA.out] at HIa
  clear hW3 hk3 hI3 hx3 hd x0 f0
  refine startG (fun V => V.heap[w.heap.size]? = W3.heap[w.heap.size]? ∧ V.heap[a.p]? = W3.heap[a.p]?) (fun i => false) (by kernel_rfl) ?_
  refine' takeG (i := 0) (v := _) rfl (by kernel_rfl) (by kernel_rfl) (by kernel_rfl) (by kernel_rfl) (fun _ _ _ h => h) (by rfl) (⟨rfl, rfl⟩) ?_ ?_; rotate_left
  · (intro V hSV; have q2 := (World.cell?_of_block (a := ⟨a.p, 2, none⟩) hSV.2).trans HC2.out; obtain ⟨y0, y1, y2, y3, y4⟩ := (HX3.out.same hSV.1).zero; go_simp; all_goals (with_reducible rfl))
  (try simp only [Act.put, List.setIfInBounds_toArray, List.set_cons_zero, List.set_cons_succ])
  refine' takeG (i := 1) (v := _) rfl (by kernel_rfl) (by kernel_rfl) (by kernel_rfl) (by kernel_rfl) (fun _ _ _ h => h) (by rfl) (⟨rfl, rfl⟩) ?_ ?_; rotate_left
  · (intro V hSV; have q2 := (World.cell?_of_block (a := ⟨a.p, 2, none⟩) hSV.2).trans HC2.out; obtain ⟨y0, y1, y2, y3, y4⟩ := (HX3.out.same hSV.1).zero; go_simp; all_goals (with_reducible rfl))
  (try simp only [Act.put, List.setIfInBounds_toArray, List.set_cons_zero, List.set_cons_succ])
  refine' takeG (i := 2) (v := _) rfl (by kernel_rfl) (by kernel_rfl) (by kernel_rfl) (by kernel_rfl) (fun _ _ _ h => h) (by rfl) (⟨rfl, rfl⟩) ?_ ?_; rotate_left
  · (intro V hSV; have q2 := (World.cell?_of_block (a := ⟨a.p, 2, none⟩) hSV.2).trans HC2.out; obtain ⟨y0, y1, y2, y3, y4⟩ := (HX3.out.same hSV.1).zero; go_simp; all_goals (with_reducible rfl))
  (try simp only [Act.put, List.setIfInBounds_toArray, List.set_cons_zero, List.set_cons_succ])
  refine' takeG (i := 3) (v := _) rfl (by kernel_rfl) (by kernel_rfl) (by kernel_rfl) (by kernel_rfl) (fun _ _ _ h => h) (by rfl) (⟨rfl, rfl⟩) ?_ ?_; rotate_left
  · (intro V hSV; have q2 := (World.cell?_of_block (a := ⟨a.p, 2, none⟩) hSV.2).trans HC2.out; obtain ⟨y0, y1, y2, y3, y4⟩ := (HX3.out.same hSV.1).zero; go_simp; all_goals (with_reducible rfl))
  (try simp only [Act.put, List.setIfInBounds_toArray, List.set_cons_zero, List.set_cons_succ])
  refine' takeG (i := 4) (v := _) rfl (by kernel_rfl) (by kernel_rfl) (by kernel_rfl) (by kernel_rfl) (fun _ _ _ h => h) (by rfl) (⟨rfl, rfl⟩) ?_ ?_; rotate_left
  · (intro V hSV; have q2 := (World.cell?_of_block (a := ⟨a.p, 2, none⟩) hSV.2).trans HC2.out; obtain ⟨y0, y1, y2, y3, y4⟩ := (HX3.out.same hSV.1).zero; go_simp; all_goals (with_reducible rfl))
  (try simp only [Act.put, List.setIfInBounds_toArray, List.set_cons_zero, List.set_cons_succ])
  refine callE (i := 5) rfl (by kernel_rfl) (fun K hK => ?_)
  go_simp
  refine HAs.out.mono ?_
  rintro e w4 ⟨rfl, hs', ws', e1, e2, hT⟩
  have hkT := tpost_kpX hT
  have hS4 : w4.heap[w.heap.size]? = W3.heap[w.heap.size]? ∧ w4.heap[a.p]? = W3.heap[a.p]? := ⟨hkT.block w.heap.size (by have := HK3.out.size; show w.heap.size < W3.heap.size; omega) (fun hx => (HXg.out _ hx).1 rfl), hkT.block a.p HI3.out.lt (fun hx => (HXg.out _ hx).2.1 rfl)⟩
  have HT := hide hT
  have HE1 := hide e1
  have HE2 := hide e2
  refine hK.out _ _ (fun _ => hS4) ?_
  have hz4 := HZ3.out.same (hkT.block W0.heap.size (by have := HB2.out.size; have := HS1.out; have := HK3.out.size; show W0.heap.size < W3.heap.size; omega) (fun hx => by have := (HXg.out _ hx).2.2; have := HS0.out; omega))
  have HZ4 := hide hz4
  clear hK K hT e1 e2 hkT hz4
  (try simp only [Act.put, List.setIfInBounds_toArray, List.set_cons_zero, List.set_cons_succ])
  refine' takeG (i := 6) (v := _) rfl (by kernel_rfl) (by kernel_rfl) (by kernel_rfl) (by kernel_rfl) (fun _ _ _ h => h) (by rfl) (hS4) ?_ ?_; rotate_left
  · (intro V hSV; go_simp; all_goals (with_reducible rfl))
  (try simp only [Act.put, List.setIfInBounds_toArray, List.set_cons_zero, List.set_cons_succ])
  refine' takeG (i := 7) (v := _) rfl (by kernel_rfl) (by kernel_rfl) (by kernel_rfl) (by kernel_rfl) (fun _ _ _ h => h) (by rfl) (hS4) ?_ ?_; rotate_left
  · (intro V hSV; go_simp; all_goals (with_reducible rfl))
  (try simp only [Act.put, List.setIfInBounds_toArray, List.set_cons_zero, List.set_cons_succ])
  refine' takeG (i := 8) (v := _) rfl (by kernel_rfl) (by kernel_rfl) (by kernel_rfl) (by kernel_rfl) (fun _ _ _ h => h) (by rfl) (hS4) ?_ ?_; rotate_left
  · (intro V hSV; go_simp; all_goals (with_reducible rfl))
  (try simp only [Act.put, List.setIfInBounds_toArray, List.set_cons_zero, List.set_cons_succ])
  refine callE (i := 9) rfl (by kernel_rfl) (fun K hK => ?_)
  go_simp
  refine hK.out _ _ (fun _ => hS4) ?_
  clear hK K
  (try simp only [Act.put, List.setIfInBounds_toArray, List.set_cons_zero, List.set_cons_succ])
  refine callE (i := 10) rfl (by kernel_rfl) (fun K hK => ?_)
  go_simp
  refine hK.out _ _ (fun _ => hS4) ?_
  clear hK K
  (try simp only [Act.put, List.setIfInBounds_toArray, List.set_cons_zero, List.set_cons_succ])
  refine doneE (by kernel_rfl) ?_ _
  have hz4 := HZ4.out
  rw [HS0.out] at hz4
  have HZ5 := hide hz4
  obtain ⟨z0, z1, z2, z3, z4, z5, z6, zf⟩ := hz4
  have g0 := zf 0
  have g1 := zf 1
  have g2 := zf 2
  have g3 := zf 3
  have g4 := zf 4
  have g5 := zf 5
  have g6 := zf 6
  clear zf hS4
  go_wp2
  change bodyPost _ _ _ _ _ (ResAt w4 (w.heap.size + 1) (mresN ar.2.2 0 0 ar.2.1))
  obtain ⟨a', hI', hst⟩ := (HI3.out.keep (Below.refl _ _).drew).tabbed HT.out HE1.out HE2.out (Nat.le_succ z) HIa.out
  have hk01 : Keeps a.X w w2 := Below.keeps (HB0.out.trans ((HB01.out.trans (HB2.out.mono HB01.out.size)).mono HB0.out.size)) _
  have hend := rs_close2 (F := F) (b := w.heap.size + 1) (z := z + 1) (x := (⟨ar.2.2, 0, 0, ar.2.1, [], []⟩, { S with tab := ar.1 })) (mr := mresN ar.2.2 0 0 ar.2.1) (fun k hk => .inl (.inl hk)) (fun k hk => by
    have := HS0.out
    rcases hk with (hk | hk) | hk
    · exact .inl hk
    · exact .inr (by omega)
    · exact .inr (by omega)) (Nat.le_succ _) (.inr HS0.out.symm) hI' hst.p (kpThen (kpThen (kpThen hk01 (fun k (e : k = w.heap.size) => .inr (by omega)) HK3.out) (fun k hk => .inl hk) (Below.keeps (Below.refl _ _).drew a.X)) (fun k hk => .inl hk) hst.kp) (fun k hk => by
      rcases hst.st k hk with h1 | h1
      · exact .inl h1
      · exact .inr (Nat.le_trans (Nat.le_trans hk01.size HK3.out.size) h1)) rfl (foot_pure (fun V => mresN_ok _ _ _ _ V))
  obtain ⟨r0, r1, r2, r3, r4, r5, r6⟩ := resAt_box HZ5.out (mresN ar.2.2 0 0 ar.2.1)
  generalize ResAt w4 (w.heap.size + 1) (mresN ar.2.2 0 0 ar.2.1) = W at *
  exact bodyPost_ret (v := (mresN ar.2.2 0 0 ar.2.1).v) (by simp [results, Tryz.results78, go_sem, MRes.v, r0, r1, r2, r3, r4, r5, r6]) rfl hend

theorem plock_any {w : World} (h : IsMm F base w a z S) (n : Int) (hn : U64 n) (x : ML) (hx : Foot (fun k => a.X k ∨ F k) w (fun V => x.ok V)) (hlo : x.ln ≤ 200) (hhi : x.hn ≤ 200) (hz : z ≤ 160) :
    Calls Tryz.prog 78 #[.pointer (some ⟨a.p, 0, none⟩), .int .u64 n, .agg #[.int .u64 x.l.tx, .int .i64 x.l.lv, .int .i64 x.l.md, .slice x.la x.ln x.lc, .slice x.ha x.hn x.hc]] w (RsPost F base w a (z + 1) (if openM S.ss n = true then (⟨(askL S.tab { x.l with tx := n }).2.2, 0, 0, (askL S.tab { x.l with tx := n }).2.1, [], []⟩, { S with tab := (askL S.tab { x.l with tx := n }).1 }) else (errR 150, S))) := by
  by_cases hop : openM S.ss n = true
  · rw [if_pos hop]
    exact plock_yes h n hn x hx hlo hhi hz hop
  · rw [if_neg hop]
    exact plock_no h n hn x (by simpa using hop)

end Go.Proofs.YtcgiicmmfleinaaGreatDoor
