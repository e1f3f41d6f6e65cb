/- MetaAgain: for every list of commands, every command and every two results plenumlaw15.MetaAgain returns true (of more than 40 commands, or one that is not small, or results of more than 5 cells or tables or 10 states, it asks nothing): the program and the reference find the same results alike, a machine that nobody made does nothing, and a command that is told again is answered the same and does nothing more. The program's table of modes is laid by its own text (the tied card). No condition. -/
import Derived.Test.YtcgiicmmfleinaaGreatDoorRows
import Derived.Test.YtcgiicmmfleinaaGreatDoorCards
import Derived.Test.YtcgiicmmfleinaaGreatDoorTie
import Derived.SevenTiedAt
import Derived.LaidMore
import Derived.Stop.Joined
import Derived.WalkKit
import Derived.ProofKit
import Derived.OpenShut
import Derived.ShutString
import Derived.ChangeOld
import Derived.Below
import Derived.SizedLaws
import Derived.Test.YtcgiicmmfleinaaGreatDoorMqJ
import Derived.Test.YtcgiicmmfleinaaGreatDoorDrA
namespace Go.Proofs.YtcgiicmmfleinaaGreatDoor.metaAgain
open Go.ChangeShapes Go.WideShapes Go.ChangeAt Go.RowKit
open Go.ChangeMaps (open_string shut_string)
set_option linter.unusedVariables false

theorem own : ownKnob Tryz.prog.godebug = none := by kernel_rfl
theorem laidOut : laidOutB Tryz.prog = true := by kernel_rfl

open NumMath

set_option maxRecDepth 100000 in
set_option maxHeartbeats 1000000 in
theorem walk (a0 : Option Addr) (len0 cap0 : Nat) (x0 : List MCmd) (y1 : MCmd) (y2 : MRr) (y3 : MRr) (w : World) (w0 : IsCmL w a0 len0 cap0 x0) (w1 : y1.handed w) (w2 : y2.ok w) (w3 : y3.ok w) (wl : FitW w) :
    Calls Tryz.prog 5 #[.slice a0 len0 cap0, .agg #[.int .u64 y1.cl, .int .u64 y1.sq, .int .i64 y1.kd, .int .u64 y1.tx, .int .u64 y1.ts, .bool y1.fl, .int .u64 y1.lk.l.tx, .int .i64 y1.lk.l.lv, .int .i64 y1.lk.l.md, .slice y1.lk.la y1.lk.ln y1.lk.lc, .slice y1.lk.ha y1.lk.hn y1.lk.hc, .slice y1.lo.a y1.lo.n y1.lo.c, .slice y1.hi.a y1.hi.n y1.hi.c, .slice y1.txs.a y1.txs.n y1.txs.c, .slice y1.ws.a y1.ws.n y1.ws.c, .slice y1.ks.a y1.ks.n y1.ks.c, .int .i64 y1.tb.id, .string (strB y1.tb.nm), .slice y1.tb.cs.a y1.tb.cs.n y1.tb.cs.c, .int .i64 y1.tb.ky, .slice y1.tb.ix.a y1.tb.ix.n y1.tb.ix.c], .agg #[.int .i64 y2.er, .int .u64 y2.tx, .int .u64 y2.ts, .bool y2.fl, .slice y2.ss.a y2.ss.n y2.ss.c, .slice y2.ce.a y2.ce.n y2.ce.c, .slice y2.tb.a y2.tb.n y2.tb.c], .agg #[.int .i64 y3.er, .int .u64 y3.tx, .int .u64 y3.ts, .bool y3.fl, .slice y3.ss.a y3.ss.n y3.ss.c, .slice y3.ce.a y3.ce.n y3.ce.c, .slice y3.tb.a y3.tb.n y3.tb.c]] w fun e w' => e = .returned (.bool true) ∧ Below w.heap.size w w' := by
  exact magain_any a0 len0 cap0 x0 y1 y2 y3 w w0.1 w0.2.1 w0.2.2 w1 w2 w3 wl

set_option maxRecDepth 100000 in
theorem lifted (os : Os) (started : os.Started) (H : Type) (enc : TypeId × Value → H) :
    ReturnsInHanded {} Tryz.checked os 5 .any (fun w args => (Rows.metaAgainSpec.pre enc Tryz.prog Tryz.f5 [] false w args ∧ laidMetH Tryz.prog laidFit w) ∧ sizedMet enc Tryz.prog Tryz.f5 (OpenSpec.ofChange Rows.metaAgainSpec) false w args) (Rows.metaAgainSpec.post enc Tryz.prog Tryz.f5 false true false false) := by
  refine returnsInHanded_of_change_and (C := Tryz.checked) (X := fun w _ => laidMetH Tryz.prog laidFit w) (fun _ _ _ hh h => h.of_heap hh) own started (by kernel_rfl) Tryz.func5
    (ChangeSpec.witness_shaped (enc := enc) (C := Tryz.checked) (os := os) (X := fun w _ => laidMetH Tryz.prog laidFit w) false (World.doorLaid Tryz.prog 400 os) #[.slice none 0 0, .agg #[.int .u64 0, .int .u64 0, .int .i64 0, .int .u64 0, .int .u64 0, .bool false, .int .u64 0, .int .i64 0, .int .i64 0, .slice none 0 0, .slice none 0 0, .slice none 0 0, .slice none 0 0, .slice none 0 0, .slice none 0 0, .slice none 0 0, .int .i64 0, .string ⟨#[]⟩, .slice none 0 0, .int .i64 0, .slice none 0 0], .agg #[.int .i64 0, .int .u64 0, .int .u64 0, .bool false, .slice none 0 0, .slice none 0 0, .slice none 0 0], .agg #[.int .i64 0, .int .u64 0, .int .u64 0, .bool false, .slice none 0 0, .slice none 0 0, .slice none 0 0]] 8 rfl (World.shaped_of_RefB (by kernel_rfl) (by kernel_rfl)) (by kernel_rfl) (by kernel_rfl) (by kernel_rfl) (door_met14 os _)) ?_
  intro W base args ds gs before hval0 hW hcnd hsz0 hL0 _
  have hval : ∀ (j : Nat) t v, Tryz.f5.params[j]? = some t → args[j]? = some v → Value.okWide Tryz.prog W .any base t v := hval0
  have hW' := hW
  obtain ⟨p, q, hA0, hV, rfl, hfz, hnd⟩ := hW
  have hA : DataW.TrodAll enc Tryz.prog W 0 (fun _ => true) true Tryz.f5.params.toList args.toList ds p := hA0
  have hsz : (DataW.weightsEach Tryz.prog (Tryz.f5.params.toList ++ Rows.metaAgainSpec.plain.varTypes Tryz.prog) (ds ++ gs)).all (fun x => decide (x ≤ reachBytes)) = true := hsz0
  rw [Tryz.params5] at hA hval hsz
  obtain ⟨v0, vs0, d0, ds0, p0, q0, hargs, rfl, rfl, h0, r0⟩ := trodAll_cons hA
  obtain ⟨v1, vs1, d1, ds1, p1, q1, rfl, rfl, rfl, h1, r1⟩ := trodAll_cons r0
  obtain ⟨v2, vs2, d2, ds2, p2, q2, rfl, rfl, rfl, h2, r2⟩ := trodAll_cons r1
  obtain ⟨v3, vs3, d3, ds3, p3, q3, rfl, rfl, rfl, h3, r3⟩ := trodAll_cons r2
  obtain ⟨rfl, rfl, rfl⟩ := trodAll_nil r3
  obtain rfl : args = #[v0, v1, v2, v3] := by cases args; simp_all
  obtain ⟨rfl, rfl⟩ := trodVars_none hV
  obtain ⟨a0, len0, cap0, rfl⟩ := okWide_slice Tryz.underlying22 (hval 0 22 v0 rfl rfl)
  have k0 := h0
  have lt0 : ∀ x ∈ p0, x.block < W.heap.size := by obtain ⟨m, hm⟩ := k0; exact DataW.trod_lt m _ _ _ hm
  obtain ⟨x0, w0⟩ : ∃ xs, IsCmL W a0 len0 cap0 xs := by
    obtain ⟨fuel, hf⟩ := h0
    exact open_cmL (by simpa [Value.cells] using hf) (fun n hn => by have := List.all_eq_true.1 hsz n (DataW.weights_mem_each (j := 0) (t := 22) (d := d0) rfl rfl n hn); simpa using this)
  have k1 := h1
  have lt1 : ∀ x ∈ p1, x.block < W.heap.size := by obtain ⟨m, hm⟩ := k1; exact DataW.trod_lt m _ _ _ hm
  obtain ⟨cs1, rfl, hz1⟩ := okWide_struct Tryz.underlying50 (hval 1 50 v1 rfl rfl)
  obtain ⟨fuel1, hf1⟩ := h1
  obtain ⟨y1, rfl, w1⟩ := open_cmd15 (hz1.trans (by kernel_rfl)) (by simpa [Value.cells] using hf1) (fun n hn => by have := List.all_eq_true.1 hsz n (DataW.weights_mem_each (j := 1) (t := 50) (d := d1) rfl rfl n hn); simpa using this)
  have k2 := h2
  have lt2 : ∀ x ∈ p2, x.block < W.heap.size := by obtain ⟨m, hm⟩ := k2; exact DataW.trod_lt m _ _ _ hm
  obtain ⟨cs2, rfl, hz2⟩ := okWide_struct Tryz.underlying55 (hval 2 55 v2 rfl rfl)
  obtain ⟨fuel2, hf2⟩ := h2
  obtain ⟨y2, rfl, w2⟩ := open_res15 (hz2.trans (by kernel_rfl)) (by simpa [Value.cells] using hf2) (fun n hn => by have := List.all_eq_true.1 hsz n (DataW.weights_mem_each (j := 2) (t := 55) (d := d2) rfl rfl n hn); simpa using this)
  have k3 := h3
  have lt3 : ∀ x ∈ p3, x.block < W.heap.size := by obtain ⟨m, hm⟩ := k3; exact DataW.trod_lt m _ _ _ hm
  obtain ⟨cs3, rfl, hz3⟩ := okWide_struct Tryz.underlying55 (hval 3 55 v3 rfl rfl)
  obtain ⟨fuel3, hf3⟩ := h3
  obtain ⟨y3, rfl, w3⟩ := open_res15 (hz3.trans (by kernel_rfl)) (by simpa [Value.cells] using hf3) (fun n hn => by have := List.all_eq_true.1 hsz n (DataW.weights_mem_each (j := 3) (t := 55) (d := d3) rfl rfl n hn); simpa using this)
  clear hA0 hval0
  refine (walk a0 len0 cap0 x0 y1 y2 y3 W w0 w1 w2 w3 (fit_of_laid hL0)).mono fun e W' ⟨he, bel⟩ => ?_
  subst he
  exact ⟨_, rfl, _, _, _, [], _, [], hW', trodAll_mk1 (shut_bool Tryz.underlying4 _), (trodAll_cons_mk (Below.trod laidOut (by kernel_rfl) (of_decide_eq_true (by kernel_rfl)) k0 bel lt0) (trodAll_cons_mk (Below.trod laidOut (by kernel_rfl) (of_decide_eq_true (by kernel_rfl)) k1 bel lt1) (trodAll_cons_mk (Below.trod laidOut (by kernel_rfl) (of_decide_eq_true (by kernel_rfl)) k2 bel lt2) (trodAll_cons_mk (Below.trod laidOut (by kernel_rfl) (of_decide_eq_true (by kernel_rfl)) k3 bel lt3) trodAll_mk0)))), rfl, bel.frame _, fun h => by cases h⟩

theorem over : Rows.metaAgainRow.holds Tryz.pinned (OpenSpec.ofChange Rows.metaAgainSpec) :=
  OpenClaim.holds_of_wide 5 Tryz.f5 rfl rfl rfl rfl rfl rfl rfl ⟨rfl, rfl, rfl, rfl, rfl⟩ rfl rfl rfl rfl rfl (by kernel_rfl) Tryz.func5 (by kernel_rfl)
    (of_decide_eq_true (by kernel_rfl)) (by unfold Func.isWrapper; first | (rw [if_pos (by decide +kernel)]; kernel_rfl) | (rw [if_neg (by decide +kernel)]; exact ⟨rfl, rfl⟩))
    (fun os started H enc _ => lifted os started H enc)

theorem proved : Rows.MetaAgainCardSaid :=
  Claim7.holds_tied_plain_at .later [] [.data] true (true, "6028c3fbc21ef06f69e63296497a4f3dc00949627585897f607b6362a29e0ea6") false
    over (fun _ h => by cases h) (by kernel_rfl) (fun _ h => by cases h) metaAgain_row_tie rfl ⟨rfl, rfl⟩ (by kernel_rfl) rfl
    (fun f fn hf hfn => by
      obtain rfl : f = 5 := Option.some.inj ((show Tryz.prog.funcNamed "plenum/plenumlaw15.MetaAgain" = some 5 by kernel_rfl).symm.trans hf) |>.symm
      obtain rfl : fn = Tryz.f5 := (Option.some.inj (Tryz.func5.symm.trans hfn)).symm
      exact ⟨by kernel_rfl, fun j t ht => by
        rw [Tryz.params5] at ht
        have hm : t ∈ [22, 50, 55, 55] := by simpa using Array.mem_of_getElem? ht
        have hall : ([22, 50, 55, 55].all fun u => !Tryz.prog.wantsStandIn u) = true := by kernel_rfl
        exact (show Tryz.prog.wantsStandIn t = false by simpa using List.all_eq_true.1 hall t hm)⟩)
    (by kernel_rfl)
end Go.Proofs.YtcgiicmmfleinaaGreatDoor.metaAgain
namespace Go.Proofs.YtcgiicmmfleinaaGreatDoor
theorem metaAgain_holds : Rows.MetaAgainCardSaid := metaAgain.proved
#print axioms metaAgain_holds
end Go.Proofs.YtcgiicmmfleinaaGreatDoor
