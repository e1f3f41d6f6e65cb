/- The program's machine: New, Clock, Locks; the laws' awake. The laws of layer 15: awake. Decided once: what became of a transaction stays so; no two commits have one time (pure). Commands that a law is handed: few, and kept. Statuses held against each other; a made list of them. -/
import Derived.Test.YtcgiicmmfleinaaGreatDoorMfI
import Derived.Laws.StructEq
import Derived.Laws.OwnMore
namespace Go.Proofs.YtcgiicmmfleinaaGreatDoor
open Go.RowKit NumMath Go.ChangeShapes Go.WideShapes Go.Deep
set_option linter.unusedVariables false
set_option maxRecDepth 100000

/-- the machine's parts where it is new: no map of answers yet -/
def mm0 (N M : Nat) (hv wv : Value) : Mm := ⟨M + 1, .slice none 0 0, N, .slice none 0 0, true, M + 1, hv, wv, [], [], [], fun _ => none⟩

set_option maxHeartbeats 1000000 in
theorem pnewM_any {F : Nat → Prop} (w : World) (hF : FitW w) (hFl : ∀ k, F k → k < w.heap.size) (hf0 : ¬ F 0) :
    Calls Tryz.prog 8 #[] w fun e w' => ∃ M hv wv, e = .returned (.pointer (some ⟨M + 1, 0, none⟩)) ∧ IsMm F w.heap.size w' (mm0 w.heap.size M hv wv) 0 mac0 ∧ w.heap.size ≤ M ∧ Below w.heap.size w w' := by
  have HN := hide (pnew_any w hF F hFl)
  have hw0 : 0 < w.heap.size := hF.2
  clear hF
  go_enter Tryz.func8, Tryz.ntmps8
  go_wp2_with (first
    | (go_at_call 23; go_must (refine HN.out.mono ?_); rintro e w1 ⟨hv, wv, rfl, hi1, hb1⟩; have HI1 := hide hi1; have HB1 := hide hb1; clear hi1 hb1))
  go_ret
  have hl1 := HB1.out.size
  have hx := HI1.out.xl w.heap.size (.inl rfl)
  obtain ⟨M, hM1⟩ : ∃ M, w1.heap.size = M + 1 := ⟨w1.heap.size - 1, by omega⟩
  obtain ⟨W3, hW3⟩ : ∃ W3, W3 = w1.alloc (.cells #[.int .u64 0, .slice none 0 0, .pointer (some ⟨w.heap.size, 0, none⟩), .slice none 0 0, .map none] 78) := ⟨_, rfl⟩
  have hb13 : Below w1.heap.size w1 W3 := by rw [hW3]; exact new_below _ _
  have hs3 : W3.heap.size = w1.heap.size + 1 := by rw [hW3]; simp
  have hr := rangeY_new w1 w1.heap.size #[.int .u64 0, .slice none 0 0, .pointer (some ⟨w.heap.size, 0, none⟩), .slice none 0 0, .map none] 78 rfl
  rw [← hW3] at hr
  have q : ∀ (j : Nat) (v : Value), #[Value.int .u64 0, .slice none 0 0, .pointer (some ⟨w.heap.size, 0, none⟩), .slice none 0 0, .map none].toList[j]? = some v → W3.cell? ⟨M + 1, j, none⟩ = some v := fun j v hv => by
    have := hr j v hv
    rw [hM1, Nat.zero_add] at this
    exact this
  have hX : ∀ k, Xt w.heap.size hv wv k → k < w1.heap.size := fun k hk => (HI1.out.xl k hk).2
  have hT : IsT (fun k => (mm0 w.heap.size M hv wv).G k ∨ F k) w.heap.size W3 w.heap.size hv wv [] [] := HI1.out.other (Below.keeps hb13 F) (fun k hk => by
    rcases hk with (hk | hk | hk | hk) | hk
    · have hk : k = M + 1 := hk
      exact ⟨.inr (by omega), by omega⟩
    · cases hk
    · cases hk
    · have hk : k = M + 1 := hk
      exact ⟨.inr (by omega), by omega⟩
    · exact ⟨.inl hk, by have := hFl k hk; omega⟩) hf0
  have hI : IsMm F w.heap.size W3 (mm0 w.heap.size M hv wv) 0 mac0 := by
    refine ⟨q 0 _ rfl, q 1 _ rfl, q 2 _ rfl, q 3 _ rfl, q 4 _ rfl, fun j => ?_, by show M + 1 < _; omega, by show _ ≤ M + 1; omega, ownY_nil _ _, ownY_nil _ _, rfl, (by intro e; cases e), (fun _ _ => rfl), (by show M + 1 < _; omega), (by show _ ≤ M + 1; omega), hT, rfl, rfl, (by intro e; cases e), (by intro e; cases e), (by intro e; cases e), (by intro g e; cases e), (by intro e; cases e), (by intro e; cases e), (by intro m hm; cases hm), (fun c _ => .inl ⟨rfl, rfl⟩), (fun k hk hf => ?_), hf0, macI_new⟩
    · rw [hW3]
      have := fzY_new w1 #[.int .u64 0, .slice none 0 0, .pointer (some ⟨w.heap.size, 0, none⟩), .slice none 0 0, .map none] 78 j
      rw [hM1] at this
      exact this
    · have hk2 := hFl k hf
      rcases hk with hk | hk | hk | hk
      · have hk : k = M + 1 := hk
        omega
      · cases hk
      · cases hk
      · have hk : k = M + 1 := hk
        omega
  have hend : ∃ M' hv wv, Ending.returned (.pointer (some ⟨w1.heap.size, 0, none⟩)) = Ending.returned (.pointer (some ⟨M' + 1, 0, none⟩)) ∧ IsMm F w.heap.size W3 (mm0 w.heap.size M' hv wv) 0 mac0 ∧ w.heap.size ≤ M' ∧ Below w.heap.size w W3 := ⟨M, hv, wv, by rw [hM1], hI, by omega, HB1.out.trans (hb13.mono hl1)⟩
  rw [hW3] at hend
  simpa using hend

theorem pclock_any {F : Nat → Prop} {base : Nat} {a : Mm} {z : Nat} {S : Mac} {w : World} (h : IsMm F base w a z S) : Calls Tryz.prog 12 #[.pointer (some ⟨a.p, 0, none⟩)] w fun e w' => e = .returned (.int .u64 S.ck) ∧ w' = w := by
  have HM := hide (madeM_any h)
  have c0 := h.c0
  clear h
  go_enter Tryz.func12, Tryz.ntmps12
  go_wp2_with (first
    | (go_at_call 26; go_must (refine HM.out.mono ?_); rintro e w' ⟨rfl, hw⟩; have hw := hw.symm; subst hw))
  go_ret
  exact ⟨rfl, rfl⟩

theorem plocks_any {F : Nat → Prop} {base : Nat} {a : Mm} {z : Nat} {S : Mac} {w : World} (h : IsMm F base w a z S) : Calls Tryz.prog 13 #[.pointer (some ⟨a.p, 0, none⟩)] w fun e w' => e = .returned (.pointer (some ⟨a.q, 0, none⟩)) ∧ w' = w := by
  have HM := hide (madeM_any h)
  have c2 := h.c2
  clear h
  go_enter Tryz.func13, Tryz.ntmps13
  go_wp2_with (first
    | (go_at_call 26; go_must (refine HM.out.mono ?_); rintro e w' ⟨rfl, hw⟩; have hw := hw.symm; subst hw))
  go_ret
  exact ⟨rfl, rfl⟩

/-- a command with a Kind alone -/
def cmK (k : Int) : MCmd := ⟨0, 0, k, 0, 0, false, ⟨⟨0, 0, 0, [], []⟩, none, 0, 0, none, 0, 0⟩, ⟨[], none, 0, 0⟩, ⟨[], none, 0, 0⟩, ⟨none, 0, 0, []⟩, ⟨none, 0, 0, []⟩, ⟨none, 0, 0, []⟩, ⟨0, [], ⟨none, 0, 0, []⟩, 0, ⟨none, 0, 0, []⟩⟩⟩

theorem isBn (w : World) : IsBytes w none 0 0 [] := ⟨rfl, Nat.le_refl _, Nat.zero_le _, by simp, .inl rfl⟩

theorem cmK_ok (k : Int) (w : World) : (cmK k).ok w := ⟨⟨isBn w, isBn w⟩, isBn w, isBn w, isY_nil w, isY_nil w, by simp [cmK], isY_nil w, by simp [cmK], ⟨isY_nil w, isY_nil w⟩⟩

theorem u64_zero : U64 0 := ⟨by decide, by decide⟩

theorem cmK_few (k : Int) : (cmK k).c.Few := ⟨u64_zero, u64_zero, u64_zero, by simp [cmK, MCmd.c], by simp [cmK, MCmd.c], by simp [cmK, MCmd.c], by simp [cmK, MCmd.c], by simp [cmK, MCmd.c, MTb.t], by simp [cmK, MCmd.c, MTb.t]⟩

end Go.Proofs.YtcgiicmmfleinaaGreatDoor

namespace Go.Proofs.YtcgiicmmfleinaaGreatDoor
open Go.RowKit NumMath Go.ChangeShapes Go.WideShapes Go.Deep
set_option linter.unusedVariables false
set_option maxRecDepth 100000

/-- Do with a command of a Kind alone -/
theorem pdoK_any {F : Nat → Prop} {base : Nat} {a : Mm} {z : Nat} {S : Mac} {w : World} (h : IsMm F base w a z S) (k : Int) (p : Nat) (hp : a.p = p) (hz : z ≤ 159) :
    Calls Tryz.prog 10 #[.pointer (some ⟨p, 0, none⟩), .agg #[.int .u64 0, .int .u64 0, .int .i64 k, .int .u64 0, .int .u64 0, .bool false, .int .u64 0, .int .i64 0, .int .i64 0, .slice none 0 0, .slice none 0 0, .slice none 0 0, .slice none 0 0, .slice none 0 0, .slice none 0 0, .slice none 0 0, .int .i64 0, .string ⟨#[]⟩, .slice none 0 0, .int .i64 0, .slice none 0 0]] w (RsPost F base w a (z + 2) (doM S (cmK k).c)) := by
  subst hp
  exact pdo_any h (cmK k) (foot_pure (fun V => cmK_ok k V)) (cmK_few k) hz

theorem mstep_kp {w w' : World} {a a' : Mm} (h : MStep w w' a a') {n : Nat} (hx : ∀ k, a.X k → n ≤ k) (hn : n ≤ w.heap.size) {w0 : World} (hb : Below n w0 w) : Below n w0 w' :=
  ⟨h.kp.os.trans hb.os, h.kp.tape.trans hb.tape, h.kp.output.trans hb.output, Nat.le_trans hb.size h.kp.size, fun k hk => (h.kp.block k (Nat.lt_of_lt_of_le hk hn) (fun e => by have := hx k e; omega)).trans (hb.block k hk)⟩

set_option maxHeartbeats 2000000 in
theorem awake15_any (w : World) (hF : FitW w) : Calls Tryz.prog 6 #[] w fun e w' => e = .returned (.bool true) ∧ Below w.heap.size w w' := by
  have HN := hide (pnewM_any (F := fun _ => False) w hF (fun _ h => h.elim) (fun h => h))
  clear hF
  go_enter Tryz.func6, Tryz.ntmps6
  go_wp2_with (first
    | (go_at_call 10; refine (pdoK_any (HI2.out.keep (new_below w2 (.cells #[.int .i64 mr.er, .int .u64 mr.tx, .int .u64 mr.ts, .bool mr.fl, .slice mr.sa mr.sn mr.sc, .slice none 0 0, .slice mr.ta mr.tn mr.tc] 55))) 1 (M + 1) HP2.out (by omega)).mono ?_; rintro e w3 ⟨a3, mr3, rfl, hr3, hf3, hI3, hst3⟩; have e2 : mr3.tx = 2 := (congrArg Res.tx hr3).trans (by decide); have e2' : (mr3.tx == 2) = true := (by rw [e2]; rfl); clear e2; unfold MRes.v; have hbw := (new_below w2 (.cells #[.int .i64 mr.er, .int .u64 mr.tx, .int .u64 mr.ts, .bool mr.fl, .slice mr.sa mr.sn mr.sc, .slice none 0 0, .slice mr.ta mr.tn mr.tc] 55)); have hx3 := (HI2.out.xl); have y1 : w3.cell? ⟨w2.heap.size, 1, none⟩ = some (.int .u64 mr.tx) := ((World.cell?_of_block (a := ⟨w2.heap.size, 1, none⟩) (hst3.kp.block w2.heap.size (by simp) (fun e => by have := (hx3 _ e).2; omega))).trans (by simp)); have l23 : w2.heap.size < w3.heap.size := (by have := hst3.kp.size; simp at this; omega); have y1' := fun o => ((new_below w3 o).cell (p := ⟨w2.heap.size, 1, none⟩) l23).trans y1; have n23 : ¬ w2.heap.size = w3.heap.size := (by omega); have n32 : ¬ w3.heap.size = w2.heap.size := (by omega); clear y1; have HI3 := hide hI3; have HSt3 := hide hst3; clear hr3 hf3 hI3 hst3 hx3 hbw)
    | (go_at_call 10; refine (pdoK_any HI1.out 1 (M + 1) rfl (by omega)).mono ?_; rintro e w2 ⟨a', mr, rfl, hr, hf, hI, hst⟩; have e1 : mr.tx = 1 := (congrArg Res.tx hr).trans (by decide); have e1' : (mr.tx == 1) = true := (by rw [e1]; rfl); clear e1; unfold MRes.v; have HP2 : Hid (a'.p = M + 1) := hst.p; have HI2 := hide hI; have HSt2 := hide hst; clear hr hf hI hst)
    | (go_at_call 8; go_must (refine HN.out.mono ?_); rintro e w1 ⟨M, hv, wv, rfl, hi1, hm1, hb1⟩; have HI1 := hide hi1; have HB1 := hide hb1; clear hi1 hb1 hm1))
  go_ret
  have x1 : ∀ k, (mm0 w.heap.size M hv wv).X k → w.heap.size ≤ k := fun k hk => (HI1.out.xl k hk).1
  have x2 : ∀ k, a'.X k → w.heap.size ≤ k := fun k hk => (HI2.out.xl k hk).1
  have b2 : Below w.heap.size w w2 := mstep_kp HSt2.out x1 HB1.out.size HB1.out
  have b2' := b2.trans ((new_below w2 (.cells #[.int .i64 mr.er, .int .u64 mr.tx, .int .u64 mr.ts, .bool mr.fl, .slice mr.sa mr.sn mr.sc, .slice none 0 0, .slice mr.ta mr.tn mr.tc] 55)).mono b2.size)
  have b3 : Below w.heap.size w w3 := mstep_kp HSt3.out x2 b2'.size b2'
  exact ⟨rfl, b3.trans ((new_below w3 _).mono b3.size)⟩

end Go.Proofs.YtcgiicmmfleinaaGreatDoor

namespace Go.Proofs.YtcgiicmmfleinaaGreatDoor
open Go.RowKit NumMath Go.ChangeShapes Go.WideShapes Go.Deep
set_option linter.unusedVariables false
set_option maxRecDepth 100000

/-- a command that a law is handed -/
theorem MCmd.handed.ok {m : MCmd} {w : World} (h : m.handed w) : m.ok w :=
  ⟨h.lk.1.1, h.lo.1, h.hi.1, h.txs, h.ws, fun x hx => ⟨(h.wok x hx).1.1, (h.wok x hx).2.1⟩, h.ks, fun x hx => (h.kok x hx).1, h.tb.1⟩

theorem few_of {m : MCmd} {w : World} (h : m.handed w) (hs : m.small) : m.c.Few := by
  have h1 := h.lk.1.1.lo.1
  have h2 := h.lk.1.1.hi.1
  have h3 := h.txs.1
  have h4 := h.tb.1.cs.1
  have h5 := h.tb.1.ix.1
  have k1 := hs.keys
  have k2 := hs.txs
  have k3 := hs.cs
  have k4 := hs.ix
  exact ⟨h.cl, h.sq, h.tx, h.txr, by show m.txs.xs.length ≤ _; omega, by show m.lk.l.lo.length ≤ _; omega, by show m.lk.l.hi.length ≤ _; omega, by show m.tb.cs.xs.length ≤ _; omega, by show m.tb.ix.xs.length ≤ _; omega⟩

theorem outB {X : Nat → Prop} {w : World} {a : Option Addr} {n c : Nat} {xs : List Int} (h : IsBytes w a n c xs) (hX : ∀ k, X k → w.heap.size ≤ k) : Foot X w (fun V => IsBytes V a n c xs) := foot_bytes h (out_ltB h hX)

theorem outY {α : Type} {L : Lay α} {X : Nat → Prop} {w : World} {a : Option Addr} {n c : Nat} {xs : List α} (h : IsY L w a n c xs) (hX : ∀ k, X k → w.heap.size ≤ k) : Foot X w (fun V => IsY L V a n c xs) := foot_isY h (out_ltY h hX)

/-- a command that stood at first hangs on nothing that was made since -/
theorem foot_cmd {w0 w : World} {X : Nat → Prop} {m : MCmd} (h : m.ok w0) (hb : Below w0.heap.size w0 w) (hX : ∀ k, X k → w0.heap.size ≤ k) : Foot X w (fun V => m.ok V) := by
  have f : Foot X w0 (fun V => m.ok V) := by
    have a1 := (outB h.lk.lo hX).and (outB h.lk.hi hX)
    have a2 := (outB h.lo hX).and (outB h.hi hX)
    have a3 := ((outY h.txs hX).and (outY h.ws hX)).and (outY h.ks hX)
    have a4 : Foot X w0 (fun V => ∀ x ∈ m.ws.xs, x.ok V) := foot_all (fun x hx => ((outB (h.wok x hx).k hX).and (outB (h.wok x hx).v hX)).imp (fun V hV => ⟨hV.1, hV.2⟩))
    have a5 : Foot X w0 (fun V => ∀ x ∈ m.ks.xs, x.is V) := foot_all (fun x hx => outB (h.kok x hx) hX)
    have a6 := (outY h.tb.cs hX).and (outY h.tb.ix hX)
    exact ((((a1.and a2).and a3).and (a4.and a5)).and a6).imp (fun V hV => ⟨⟨hV.1.1.1.1.1, hV.1.1.1.1.2⟩, hV.1.1.1.2.1, hV.1.1.1.2.2, hV.1.1.2.1.1, hV.1.1.2.1.2, hV.1.2.1, hV.1.1.2.2, hV.1.2.2, ⟨hV.2.1, hV.2.2⟩⟩)
  exact f.keep hb

end Go.Proofs.YtcgiicmmfleinaaGreatDoor

namespace Go.Proofs.YtcgiicmmfleinaaGreatDoor
open Go.RowKit NumMath Go.ChangeShapes Go.WideShapes Go.Deep
set_option linter.unusedVariables false
set_option maxRecDepth 100000

theorem neSt (a b c a' b' c' : Int) (w : World) : (binOp .neq 80 (.agg #[.int .u64 a, .int .i64 b, .int .u64 c]) (.agg #[.int .u64 a', .int .i64 b', .int .u64 c'])).run Tryz.prog w = .ok (.bool (!(a == a' && (b == b' && c == c')))) w := by
  have u3 := Tryz.underlying3
  have a3 := Tryz.isAgg3
  have z3 := Tryz.sizeOf3
  have u4 := Tryz.underlying31
  have a4 := Tryz.isAgg31
  have z4 := Tryz.sizeOf31
  have hS : Tryz.prog.underlying 80 = some (.struct (Tryz.prog.fieldsOf 80)) := by kernel_rfl
  have hp : Tryz.prog.stoodInHeld 80 = false := by kernel_rfl
  rw [run_neq_struct, show (10000 : Nat) = 9999 + 1 from rfl, run_equalIn_agg w 9999 80 _ _ hS hp]
  simp only [Program.fieldsOf, Tryz.underlying80]
  go_simp
  by_cases h1 : a = a' <;> by_cases h2 : b = b' <;> by_cases h3 : c = c' <;> simp [h1, h2, h3]

end Go.Proofs.YtcgiicmmfleinaaGreatDoor
