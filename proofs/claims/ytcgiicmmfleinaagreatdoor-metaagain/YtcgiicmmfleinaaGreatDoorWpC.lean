/- The program's steps: an iterator that tells the edges by which nodes are come to, in order. The program's steps and After: the iterators that they answer. slices.Reverse of numbers; the program's ring. The program's Cycle and Reaches: what they answer. -/
import Derived.Test.YtcgiicmmfleinaaGreatDoorWpM
import Derived.Test.YtcgiicmmfleinaaGreatDoorSgA
import Derived.Test.YtcgiicmmfleinaaGreatDoorRgM
import Derived.Sort.LoopGhostIn
import Derived.Sort.QuietIn
import Derived.Test.YtcgiicmmfleinaaGreatDoorTxR
namespace Go.Proofs.YtcgiicmmfleinaaGreatDoor
open Go.RowKit NumMath Go.ChangeShapes Go.WideShapes Go.Deep
set_option linter.unusedVariables false
set_option maxRecDepth 100000

attribute [local go_sem] Oper.semAt_some

theorem GoodW.pe {l : List (Int × Int)} {st : WSt} (h : GoodW l st) (e : Int × Int) (he : e ∈ l) : GoodW l (pedge st e) := by
  have := h.qe e.1 e he
  unfold qedge at this
  rwa [if_pos rfl] at this

theorem pedge_met {st : WSt} {e : Int × Int} (h : metW st.1 e.2 = true) : pedge st e = st := by unfold pedge; rw [if_pos h]

theorem pedge_new {st : WSt} {e : Int × Int} (h : metW st.1 e.2 = false) : pedge st e = (st.1 ++ [(e.2, e.1)], st.2 ++ [e.2]) := by unfold pedge; rw [if_neg (by simp [h])]

theorem pfold_drop {row : List (Int × Int)} {k : Nat} {e : Int × Int} (h : row[k]? = some e) (st : WSt) : (row.drop k).foldl pedge st = (row.drop (k + 1)).foldl pedge (pedge st e) := by
  have hk := (List.getElem?_eq_some_iff.1 h).1
  rw [List.drop_eq_getElem_cons hk, List.foldl_cons]
  have := (List.getElem?_eq_some_iff.1 h).2
  rw [this]

theorem pre_at {a b : List (Int × Int)} {s : Int × Int} (h : a ++ [s] <+: b) : b[a.length]? = some s := by
  obtain ⟨c, rfl⟩ := h
  rw [List.append_assoc, List.getElem?_append_right (Nat.le_refl _)]
  simp

theorem metW_add (out : List (Int × Int)) (s : Int × Int) (n : Int) : metW (out ++ [s]) n = (metW out n || n == s.1) := by
  have : (s.1 == n) = (n == s.1) := by
    by_cases h : s.1 = n
    · rw [h]
    · have h2 : ¬ n = s.1 := fun e => h e.symm
      rw [beq_eq_false_iff_ne.2 h, beq_eq_false_iff_ne.2 h2]
  unfold metW
  rw [List.any_append, List.any_cons, List.any_nil, Bool.or_false, this]

/-- an append at its operation, inside a fence -/
theorem wpIn_segY {F : Fence} {nF : Nat} {ops : Array Oper} {rest : List Oper} {o : Oper} {a : Act} {Q : Exit → Act → World → Prop} {α : Type} (L : Lay α) (w : World) (hg : o.guard = none) (s x : Operand)
    (ho : o.op = .call { callee := .builtin .append, args := #[s, x], argTypes := #[L.t, L.t] }) (v : Value) (xs : List α) (hs : a.eval s = v) (h : Seg w L.k v xs.length (flatY L xs)) (sa : Option Addr) (m c : Nat) (ys : List α) (hx : a.eval x = .slice sa m c) (hB : SrcY L w sa m ys) (hbig : xs.length + ys.length ≤ 1000000000)
    (hK : ∀ v' w', Seg w' L.k v' (xs ++ ys).length (flatY L (xs ++ ys)) → Keeps (fun k => v.ownBlock = some k) w w' → AtB w v v' → wpListIn F nF Tryz.prog ops Q rest (a.put o.dst v') w') : wpListIn F nF Tryz.prog ops Q (o :: rest) a w := by
  refine wpListIn_plain hg fun K' hK' => ?_
  obtain ⟨v', w', hrun, r1, r2, r3⟩ := run_segY L w o.type v xs h sa m c ys hB hbig
  unfold Oper.wpIn
  refine ⟨by simp [Oper.about, ho, resolve, Target.leads, Sem.run_pure], ?_⟩
  rw [Oper.semAt_plain F _ _ (by rw [ho]; intro c hc'; cases hc')]
  simp [execOp, ho, resolve, invoke, builtin, hs, hx, hrun, Result.andThen]
  exact hK' _ _ (hK v' w' r1 r2 r3)

/-- the iterator's state: come at B, the queue, what the consumer has -/
structure StepAt (B : Nat) (I : Nat → (Nat → Prop) → World → Prop) (W : World) (l : List (Int × Int)) (i : Nat) (st : WSt) (v : Value) (S : Nat → Prop) (wr : World) : Prop where
  set : SetU wr B st.1.length (metW st.1)
  q : Seg wr 1 v (st.2.drop i).length (flatY layU (st.2.drop i))
  own : ∀ g, v.ownBlock = some g → B + 1 ≤ g ∧ ¬ S g
  inv : I st.1.length S wr
  nb : ¬ S B
  ss : ∀ k, S k → k < wr.heap.size
  kp : Keeps (fun k => k < B) W wr
  good : GoodW l st
  u : ∀ x ∈ st.2, U64 x
  sz : B + 1 ≤ wr.heap.size

theorem StepAt.move {B : Nat} {I : Nat → (Nat → Prop) → World → Prop} {W : World} {l : List (Int × Int)} {i : Nat} {st : WSt} {v : Value} {S : Nat → Prop} {wr w' : World} (h : StepAt B I W l i st v S wr) (hI : ∀ j S W W', I j S W → Keeps (fun k => ¬ S k) W W' → I j S W') (hb : Below wr.heap.size wr w') : StepAt B I W l i st v S w' :=
  ⟨h.set.same (hb.block _ h.set.lt), h.q.keep hb, h.own, hI _ _ _ _ h.inv (Below.keeps hb _), h.nb, fun k hk => Nat.lt_of_lt_of_le (h.ss k hk) hb.size, kp_then h.kp (fun k hk _ => hk) (Below.keeps hb _), h.good, h.u, Nat.le_trans h.sz hb.size⟩

theorem kpWide {X X' : Nat → Prop} {w w' : World} (h : Keeps X w w') (hx : ∀ k, X k → X' k) : Keeps X' w w' := ⟨h.os, h.tape, h.output, h.size, fun k hk hn => h.block k hk (fun e => hn (hx k e))⟩

theorem mem_rowsE {d : List (Int × Int)} {q : Int} {e : Int × Int} (h : e ∈ rowsE d q) : e ∈ d ∧ e.1 = q := by
  unfold rowsE at h
  have := List.mem_filter.1 h
  exact ⟨this.1, by simpa using this.2⟩

set_option maxHeartbeats 4000000 in
theorem stepsJ (Bf Bw base mb z : Nat) (f : Lit → Option Value) (l : List (Int × Int)) (fr : Int) (hfr : U64 fr) (hU : ∀ e ∈ l, U64 e.1 ∧ U64 e.2) (hl : l.length ≤ 100000) :
    SeqJ 1 187 #[.pointer (some ⟨Bf, 0, none⟩), .pointer (some ⟨Bw, 0, none⟩)] (fun x v _ => v = #[.agg #[.int .u64 x.2, .int .u64 x.1]]) (walkW l fr) (fun W => W.cell? ⟨Bf, 0, none⟩ = some (.int .u64 fr) ∧ W.cell? ⟨Bw, 0, none⟩ = some (.map (some mb)) ∧ RowsW W base mb z f (ddL l)) := by
  intro n hn y I Ix W hI hIx hR hY h0
  refine callsIn_of_wp Tryz.func187 rfl trivial ?_ rfl
  simp only [Tryz.ntmps187, List.size_toArray, List.length_cons, List.length_nil, Nat.reduceAdd, Nat.reduceSub, Array.replicate_succ, Array.replicate_zero, List.push_toArray, List.append_toArray, List.nil_append, List.cons_append]
  have hmm := @run_makeMap Tryz.prog
  have hc0 := (hR 0 _ _ (hI 0 _ W (W.alloc (.map #[] 0)) h0 (Below.keeps (new_below _ _) _))).1
  have HI := hide hI
  have HIx := hide hIx
  have HR := hide hR
  have HY := hide hY
  have HH0 := hide h0
  clear hI hIx hR hY h0
  gi_wp2
  gi_loopg [5] (l.length + 2) (fun gk v wr => ∃ (i : Nat) (st : WSt) (S : Nat → Prop), gk = l.length + 2 - i ∧ StepAt W.heap.size I W l i st v S wr ∧ (pit (ddL l) (l.length + 2 - i) i st).1 = walkW l fr)
  case atStart =>
    refine ⟨0, ([], [fr]), fun k => k < W.heap.size, rfl, ?_, pit_walk l fr⟩
    have hb : Below W.heap.size W ((W.alloc (.map #[] 0)).alloc (.cells #[.int .u64 fr] 31)) := ((Below.refl _ W).alloc (Nat.le_refl _) _).alloc (by simp) _
    refine ⟨(setU_new W _ rfl W.heap.size rfl).same ((new_below _ _).block _ (by simp)), ?_, ?_, HI.out 0 _ _ _ HH0.out (Below.keeps hb _), by omega, fun k hk => by simp; omega, Below.keeps hb _, goodW_new l fr, by simpa using hfr, by simp⟩
    · have h1 := ownY_one (L := layU) (W.alloc (.map #[] 0)) 0 #[.int .u64 fr] fr (Nat.zero_le _) rfl
      rw [World.size_alloc] at h1
      exact seg_of_row h1
    · intro g hg; cases hg; simp
  case round =>
    obtain ⟨i, st, S, rfl, hS, hF⟩ := hrel
    obtain ⟨qa, qc, rfl, hqc1, hqc2⟩ := hS.q.form
    have HS := hide hS
    have HF := hide hF
    have hqm : (qc : Int) ≤ 9223372036854775807 := by unfold maxLen at hqc2; omega
    have hql := hS.good.qle
    by_cases hi : i < st.2.length
    · have hdi : st.2.drop i = st.2.getD i 0 :: st.2.drop (i + 1) := by
        rw [List.drop_eq_getElem_cons hi, List.getD_eq_getElem?_getD, List.getElem?_eq_getElem hi]; rfl
      have hqm0 : U64 (st.2.getD i 0) := hS.u _ (List.mem_of_getElem? (getD_of hi))
      have HF1 : Hid ((pit (ddL l) (l.length + 2 - (i + 1)) (i + 1) ((rowsE (ddL l) (st.2.getD i 0)).foldl pedge st)).1 = walkW l fr) := by
        have h1 := hF
        obtain ⟨g, hg⟩ : ∃ g, l.length + 2 - i = g + 1 := ⟨l.length + 2 - i - 1, by omega⟩
        rw [hg, pit, if_pos hi] at h1
        rw [show l.length + 2 - (i + 1) = g by omega]
        exact h1
      have HGq : Hid (st.2[i]? = some (st.2.getD i 0)) := getD_of hi
      have hnl : (st.2.drop i).length = (st.2.length - i - 1) + 1 := by rw [List.length_drop]; omega
      generalize st.2.getD i 0 = q at *
      have HQ := hide hqm0
      obtain ⟨R1, R2, R3⟩ := HR.out _ _ _ hS.inv
      obtain ⟨g0, off0, rfl, hg0, hcell, -⟩ := hS.q.at (by omega)
      have e0 : wr.cell? ⟨g0, off0, none⟩ = some (.int .u64 q) := by
        have := hcell 0 (.int .u64 q) (by rw [hdi]; rfl)
        simpa using this
      obtain ⟨ra, rn, rc, hrv⟩ := (R3.row q hqm0).any3
      have hrl := (R3.row q hqm0)
      rw [hrv] at hrl
      have HRl := hide hrl.len
      have HRv := hide hrv
      have q0 := fun nd => ((below_drewN (Below.refl _ wr) nd).cell (p := ⟨g0, off0, none⟩) hg0).trans e0
      have q1 : ∀ nd, (wr.drewN nd).cell? ⟨Bw, 0, none⟩ = some (.map (some mb)) := fun nd => R2
      have q2 : ∀ nd, (Instr.lookup 235 (.map (some mb)) (.int .u64 q) false).run Tryz.prog (wr.drewN nd) = .ok (.slice ra rn rc) (wr.drewN nd) := fun nd => by
        have := R3.map.look keyedU Tryz.underlying235 zeroR (keyU HQ.out) (wr.drewN nd) rfl
        rw [HRv.out] at this
        exact this
      have hpos : (0 : Int) < ((st.2.drop i).length : Int) := by omega
      have hpos2 : ((st.2.drop i).length : Int) ≠ 0 := by omega
      obtain ⟨nq0, hnq0⟩ : ∃ m, m = (st.2.drop i).length := ⟨_, rfl⟩
      rw [← hnq0] at hpos hpos2 hqc1 ⊢
      have hposN : 0 < nq0 := by omega
      have hdec : decide (0 < nq0) = true := decide_eq_true hposN
      have HNq := hide hnq0
      clear hF hS R1 R2 R3 hrv hrl hcell hdi hnl hqm0 hnq0
      gi_wp2
      gi_quiet (fail)
      gi_wp2
      (try rw [hdec])
      obtain ⟨wo, hwo⟩ : ∃ wo, wo = wr.drewN nq := ⟨_, rfl⟩
      rw [← hwo]
      have HSo := hide (HS.out.move HI.out (show Below wr.heap.size wr wo by rw [hwo]; exact below_drewN (Below.refl _ wr) nq))
      clear q0 q1 q2 hwo HS HF e0
      gi_loopg [5, 24] rn (fun gk v i2 wx => ∃ (k : Nat) (sj : WSt) (S : Nat → Prop), gk = rn - k ∧ i2 = .int .i64 k ∧ k ≤ rn ∧ StepAt W.heap.size I W l i sj v S wx ∧ (pit (ddL l) (l.length + 2 - (i + 1)) (i + 1) (((rowsE (ddL l) q).drop k).foldl pedge sj)).1 = walkW l fr ∧ i < sj.2.length)
      case atStart => exact ⟨0, st, S, rfl, rfl, Nat.zero_le _, by rw [HNq.out] at *; exact HSo.out, HF1.out, hi⟩
      case round =>
        clear HSo hpos hpos2 hposN hdec hqc1 hqc2 hqm HNq HF1 hql
        clear S
        obtain ⟨k, sj, S, rfl, rfl, hk, hS, hF, hij⟩ := hrel
        obtain ⟨qa, qc, rfl, hqc1, hqc2⟩ := hS.q.form
        have hqm : (qc : Int) ≤ 9223372036854775807 := by unfold maxLen at hqc2; omega
        have HS := hide hS
        have HF := hide hF
        have hrm : (rn : Int) ≤ 9223372036854775807 := by have := HRl.out.2; unfold maxLen at this; omega
        by_cases hkr : k < rn
        · have hkr' : (k : Int) < (rn : Int) := by omega
          obtain ⟨R1, R2, R3⟩ := HR.out _ _ _ hS.inv
          have hrl := R3.row q HQ.out
          rw [HRv.out] at hrl
          obtain ⟨x, y', hxy⟩ := pair_at (l := rowsE (ddL l) q) (j := k) (by have := HRl.out.1; omega)
          obtain ⟨hmd, hxq⟩ := mem_rowsE (List.mem_of_getElem? hxy)
          have hml := mem_ddL.1 hmd
          have hxq : x = q := hxq
          subst hxq
          obtain ⟨-, hUy⟩ := hU _ hml
          have hUy : U64 y' := hUy
          obtain ⟨g1, off1, rfl, hg1, hC1⟩ := hrl.is.at hkr
          have d := hC1 k _ hxy
          have d0 : wr.cell? ⟨g1, off1 + k * 2, none⟩ = some (.int .u64 x) := d 0 _ rfl
          have d1 : wr.cell? ⟨g1, off1 + k * 2 + 1, none⟩ = some (.int .u64 y') := d 1 _ rfl
          have HFd := hide (pfold_drop hxy sj)
          obtain ⟨W1, hW1⟩ : ∃ W1, W1 = wr.alloc (.cells #[.int .u64 x, .int .u64 y'] 222) := ⟨_, rfl⟩
          have hb1 : Below wr.heap.size wr W1 := by rw [hW1]; exact new_below _ _
          have hs1 : W1.heap.size = wr.heap.size + 1 := by rw [hW1]; simp
          have hlk := hS.set.look hUy W1 (hb1.block _ hS.set.lt)
          rw [hW1] at hlk
          have HUy := hide hUy
          have HMl := hide hml
          obtain ⟨nj, hnj⟩ : ∃ m, m = (sj.2.drop i).length := ⟨_, rfl⟩
          rw [← hnj] at hqc1 ⊢
          have HNj := hide hnj
          clear hF hS R1 R2 R3 hrl hC1 d hxy hmd hml hUy hnj
          cases hin : metW sj.1 y' with
          | true =>
            rw [hin] at hlk
            have HIn := hide hin
            clear hin hW1 hb1 hs1
            gi_wp2
            gi_roundg (rn - (k + 1))
            case measure => omega
            case rel =>
              have hb2 := (new_below wr (.cells #[.int .u64 x, .int .u64 y'] 222)).trans ((new_below _ (.cells #[] 249)).mono (by simp))
              refine ⟨k + 1, sj, S, rfl, by go_num, by omega, ?_, ?_, hij⟩
              · rw [HNj.out]; exact HS.out.move HI.out hb2
              · rw [← HF.out, HFd.out, pedge_met HIn.out]
          | false =>
            rw [hin] at hlk
            have HIn := hide hin
            clear hin
            have hle := HS.out.good.le
            obtain ⟨W2, hW2⟩ : ∃ W2, W2 = W1.alloc (.cells #[] 249) := ⟨_, rfl⟩
            have hb2 : Below W1.heap.size W1 W2 := by rw [hW2]; exact new_below _ _
            have hb12 := hb1.trans (hb2.mono hb1.size)
            have hs2 : W2.heap.size = wr.heap.size + 2 := by rw [hW2, World.size_alloc, hs1]
            obtain ⟨w3, hup, hset3, hg3⟩ := (HS.out.set.same (hb12.block _ HS.out.set.lt)).put (by omega) HUy.out
            have hs3 := hg3.size
            have hc2 : W2.rangeAt wr.heap.size 0 [.int .u64 x, .int .u64 y'] := by
              have := rangeY_new wr wr.heap.size #[.int .u64 x, .int .u64 y'] 222 rfl
              rw [← hW1] at this
              exact rangeY_same this (hb2.block _ (by omega))
            have hwB := HS.out.sz
            have hc3 := rangeY_same hc2 (hg3.block wr.heap.size (by omega) (fun e => by have := Option.some.inj e; omega))
            have c31 : w3.cell? ⟨wr.heap.size, 1, none⟩ = some (.int .u64 y') := hc3 1 _ rfl
            have hqB : ∀ g, (Value.slice qa nj qc).ownBlock = some g → W.heap.size + 1 ≤ g ∧ g < wr.heap.size ∧ ¬ S g := fun g hg => by
              rw [HNj.out] at hg
              exact ⟨(HS.out.own g hg).1, HS.out.q.lt g hg, (HS.out.own g hg).2⟩
            have hq3 : Seg w3 1 (.slice qa nj qc) (sj.2.drop i).length (flatY layU (sj.2.drop i)) := by
              have h1 := HS.out.q
              rw [← HNj.out] at h1
              have h2 := h1.same (w' := w3) (fun g hg => (hg3.block g (by have := (hqB g hg).2.1; omega) (fun e => by have := Option.some.inj e; have := (hqB g hg).1; omega)).trans (hb12.block g (hqB g hg).2.1))
              rw [← HNj.out]; exact h2
            have hkp3 : Keeps (fun k => k = W.heap.size) wr w3 := kp_then (Below.keeps hb12 _) (X' := fun k => k = W.heap.size) (fun k e _ => e) ⟨hg3.os, hg3.tape, hg3.output, hg3.size, fun k hk hn => hg3.block k hk (fun e => hn (Option.some.inj e))⟩
            obtain ⟨w4, hw4⟩ : ∃ w4, w4 = w3.alloc (.cells #[.int .u64 y'] 31) := ⟨_, rfl⟩
            have hb4 : Below w3.heap.size w3 w4 := by rw [hw4]; exact new_below _ _
            have hs4 : w4.heap.size = w3.heap.size + 1 := by rw [hw4]; simp
            have HQ4 : Hid (Seg (w3.alloc (.cells #[.int .u64 y'] 31)) 1 (.slice qa nj qc) (sj.2.drop i).length (flatY layU (sj.2.drop i))) := by rw [← hw4]; exact hq3.keep hb4
            have HSr4 : Hid (SrcY layU (w3.alloc (.cells #[.int .u64 y'] 31)) (some ⟨w3.heap.size, 0, none⟩) 1 [y']) := (ownY_one (L := layU) w3 0 #[.int .u64 y'] y' (Nat.zero_le _) rfl).is.src
            have HBig : Hid ((sj.2.drop i).length + [y'].length ≤ 1000000000) := by
              show _ ≤ _
              have := HS.out.good.qle
              rw [List.length_drop]; simp; omega
            have HGet : Hid ((walkW l fr)[sj.1.length]? = some (y', x)) := by
              refine pre_at ?_
              rw [← HF.out, HFd.out]
              refine List.IsPrefix.trans ?_ ((pfold_pre _ _).trans (pit_pre _ _ _ _))
              rw [pedge_new HIn.out]
              exact List.prefix_refl _
            have HC3 := hide hc3
            have HSt3 := hide hset3
            have HKp3 := hide hkp3
            have HQB := hide hqB
            have HS34 := hide (And.intro hs2 (And.intro hs3 (And.intro hs4 hwB)))
            have HB4 := hide hb4
            rw [hW2, hW1] at hup
            clear hset3 hg3 hc2 hc3 hb12 hb2 hb1 hs1 hs2 hs3 hkp3 hqB hq3 hW1 hW2 hle hs4 hb4
            gi_wp2_with (first
              | (gi_at_builtin; go_must (refine wpIn_segY layU _ rfl (.tmp 40) (.tmp 43) rfl (.slice qa nj qc) (sj.2.drop i) rfl HQ4.out (some ⟨w3.heap.size, 0, none⟩) 1 1 [y'] rfl HSr4.out HBig.out ?_); intro v5 w5 hq5 hk5 hat5; obtain ⟨m5, hm5⟩ : ∃ m, m = (sj.2.drop i ++ [y']).length := ⟨_, rfl⟩; rw [← hm5] at hq5; have HM5 := hide hm5; clear hm5; obtain ⟨xa, xc, rfl, hx1, hx2⟩ := hq5.form; rw [← hw4] at hk5 hat5; obtain ⟨hs2, hs3, hs4, hwB⟩ := HS34.out; have hc5 := rangeY_same (rangeY_same HC3.out (HB4.out.block _ (by omega))) (hk5.block wr.heap.size (by omega) (fun e => by have := (HQB.out _ e).2.1; omega)); have c50 : w5.cell? ⟨wr.heap.size, 0, none⟩ = some (.int .u64 x) := hc5 0 _ rfl; have c51 : w5.cell? ⟨wr.heap.size, 1, none⟩ = some (.int .u64 y') := hc5 1 _ rfl; have HQ5 := hide hq5; have HK5 := hide hk5; have HAt5 := hide hat5; have HS5 := hide hk5.size; have hkB : Keeps (fun k => ¬ S k) wr w5 := (kp_then (kp_then (kpWide HKp3.out (fun k (e : k = W.heap.size) => e ▸ HS.out.nb)) (X' := fun _ => False) (fun k e _ => e.elim) (Below.keeps HB4.out _)) (X' := fun k => (Value.slice qa nj qc).ownBlock = some k) (fun k e _ => (HQB.out k e).2.2) hk5); have HKB := hide hkB; obtain ⟨fn, tmps, assign, body, hy, hRd⟩ := HY.out sj.1.length (y', x) #[.agg #[.int .u64 x, .int .u64 y']] S w5 HGet.out (HI.out _ _ _ _ HS.out.inv hkB) rfl (fun k hk => Nat.lt_of_lt_of_le (HS.out.ss k hk) hkB.size); clear hkB hq5 hk5 hat5 hc5 hs2 hs3 hs4 hwB))
            refine hRd.mono ?_
            rintro e W6 ⟨hk6, S', hS', hSs, (⟨rfl, hJ6⟩ | ⟨rfl, hJ6⟩)⟩
            · have HK6 := hide hk6
              have HSp := hide hS'
              have HSs := hide hSs
              clear hk6 hRd hy hS' hSs
              gi_wp2
              gi_roundg (rn - (k + 1))
              case measure => omega
              case rel =>
                obtain ⟨hs2, hs3, hs4, hwB⟩ := HS34.out
                have hs5 := HS5.out
                have hs6 := HK6.out.size
                have hm5 := HM5.out
                have hB : W6.heap[W.heap.size]? = w3.heap[W.heap.size]? := (HK6.out.block W.heap.size (by omega) HS.out.nb).trans ((HK5.out.block W.heap.size (by omega) (fun e => by have := (HQB.out _ e).1; omega)).trans (HB4.out.block _ (by omega)))
                have hd : (sj.2 ++ [y']).drop i = sj.2.drop i ++ [y'] := List.drop_append_of_le_length (by omega)
                have hown5 : ∀ g, (Value.slice xa m5 xc).ownBlock = some g → W.heap.size + 1 ≤ g ∧ g < w5.heap.size ∧ ¬ S g := fun g hg => by
                  have hlt := HQ5.out.lt g hg
                  rcases HAt5.out with e | ⟨g2, e, hg2⟩
                  · rw [e] at hg; exact ⟨(HQB.out g hg).1, hlt, (HQB.out g hg).2.2⟩
                  · rw [e] at hg; have := Option.some.inj hg; exact ⟨by omega, hlt, fun h => by have := HS.out.ss g h; omega⟩
                have hnew : ∀ k, k < w5.heap.size → ¬ S k → ¬ S' k := fun k hk hn h => by
                  rcases HSp.out k h with h | h
                  · exact hn h
                  · omega
                refine ⟨k + 1, pedge sj (x, y'), S', rfl, by go_num, by omega, ?_, by rw [← HF.out, HFd.out], ?_⟩
                · rw [pedge_new HIn.out]
                  refine ⟨?_, ?_, fun g hg => ⟨(hown5 g hg).1, hnew g (hown5 g hg).2.1 (hown5 g hg).2.2⟩, ?_, hnew _ (by omega) HS.out.nb, HSs.out, ?_, ?_, ?_, by omega⟩
                  · rw [List.length_append]
                    exact (HSt3.out.same hB).like (Nat.le_refl _) (fun p => metW_add _ _ _)
                  · dsimp only
                    rw [hd, ← hm5]
                    exact HQ5.out.same (fun g hg => HK6.out.block g (hown5 g hg).2.1 (hown5 g hg).2.2)
                  · rw [List.length_append]; exact hJ6
                  · exact kp_then (kp_then HS.out.kp (X' := fun k => ¬ S k) (fun k _ h => h) HKB.out) (X' := S) (fun k _ h => h) HK6.out
                  · have := HS.out.good.pe (x, y') HMl.out
                    rw [pedge_new HIn.out] at this
                    exact this
                  · intro u hu
                    rcases List.mem_append.1 hu with h | h
                    · exact HS.out.u u h
                    · rw [List.mem_singleton.1 h]; exact HUy.out
                · rw [pedge_new HIn.out]; dsimp only; rw [List.length_append]; omega
            · have HK6 := hide hk6
              have HSs := hide hSs
              clear hk6 hRd hy hS' hSs
              gi_wp2
              refine bodyPost_ret (results_none rfl _ _ _) rfl ?_
              exact ⟨⟨_, rfl⟩, kp_then (kp_then HS.out.kp (X' := fun k => ¬ S k) (fun k _ h => h) HKB.out) (X' := S) (fun k _ h => h) HK6.out, S', HSs.out, .inr hJ6⟩
        · obtain rfl : k = rn := by omega
          have hF2 := hF
          rw [List.drop_of_length_le (by have := HRl.out.1; omega)] at hF2
          have HF2 := hide hF2
          have hdi : sj.2.drop i = sj.2.getD i 0 :: sj.2.drop (i + 1) := by
            rw [List.drop_eq_getElem_cons hij, List.getD_eq_getElem?_getD, List.getElem?_eq_getElem hij]; rfl
          have hnl : (sj.2.drop i).length = (sj.2.drop (i + 1)).length + 1 := by rw [hdi]; rfl
          have hq1 := HS.out.q
          rw [hnl, hdi] at hq1
          obtain ⟨b, c', hsl, hbk, hq2⟩ := Seg.tailY layU hq1
          have hsl2 : ∀ W, (Instr.sliceAt 42 (.slice qa ((sj.2.drop (i + 1)).length + 1) qc) (some (.int .i64 1)) none none).run Tryz.prog W = .ok (.slice b (sj.2.drop (i + 1)).length c') W := hsl
          clear hsl
          have HQ2 := hide hq2
          have HBk := hide hbk
          rw [hnl]
          generalize hnj : (sj.2.drop (i + 1)).length = nj at *
          have HNj := hide hnj
          have hql := HS.out.good.qle
          clear hF hF2 hS hq1 hq2 hbk hdi hnl hnj hqc1
          gi_wp2
          gi_roundg (l.length + 2 - (i + 1))
          case measure => omega
          case rel =>
            refine ⟨i + 1, sj, S, rfl, ⟨HS.out.set, by rw [HNj.out]; exact HQ2.out, fun g hg => ?_, HS.out.inv, HS.out.nb, HS.out.ss, HS.out.kp, HS.out.good, HS.out.u, HS.out.sz⟩, HF2.out⟩
            rw [HBk.out] at hg
            exact HS.out.own g (by rw [show (sj.2.drop i).length = nj + 1 by rw [List.length_drop]; have := HNj.out; rw [List.length_drop] at this; omega]; exact hg)
    · have hd0 : st.2.drop i = [] := List.drop_of_length_le (by omega)
      have hF2 := hF
      have hend : pit (ddL l) (l.length + 2 - i) i st = st := by
        cases l.length + 2 - i with
        | zero => rfl
        | succ g => rw [pit, if_neg hi]
      rw [hend] at hF2
      have HF2 := hide hF2
      rw [hd0]
      clear hF hF2 hS hend hd0
      gi_wp2
      go_end0
      exact ⟨⟨_, rfl⟩, HS.out.kp, S, HS.out.ss, .inl (by rw [← HF2.out]; exact HS.out.inv)⟩

end Go.Proofs.YtcgiicmmfleinaaGreatDoor

namespace Go.Proofs.YtcgiicmmfleinaaGreatDoor
open Go.RowKit NumMath Go.ChangeShapes Go.WideShapes Go.Deep
set_option linter.unusedVariables false
set_option maxRecDepth 100000

attribute [local go_sem] Oper.semAt_some

theorem RowsW.lies {w w' : World} {base mb z : Nat} {f : Lit → Option Value} {d : List (Int × Int)} {X : Nat → Prop} (h : RowsW w base mb z f d) (hk : Keeps X w w') (hX : ∀ k, mb ≤ k → k < w.heap.size → ¬ X k) : RowsW w' base mb z f d :=
  ⟨h.map.same (hk.block mb h.map.lt (hX mb (Nat.le_refl _) h.map.lt)), fun q hq => (h.row q hq).lies (fun g hv => by
    have := (h.row q hq).lt g hv
    have hm := h.mb
    exact hk.block g this.2 (hX g (by omega) this.2)), h.off, h.mb⟩

theorem steps_any (mb : Nat) (fr : Int) (w : World) :
    Calls Tryz.prog 172 #[.map (some mb), .int .u64 fr] w fun e w' => e = .returned (.func (.func 187) #[] #[.pointer (some ⟨w.heap.size + 1, 0, none⟩), .pointer (some ⟨w.heap.size, 0, none⟩)]) ∧ w' = (w.alloc (.cells #[.map (some mb)] 235)).alloc (.cells #[.int .u64 fr] 31) := by
  go_enter Tryz.func172, Tryz.ntmps172
  go_wp2
  go_ret
  exact ⟨rfl, rfl⟩

/-- a range over steps: each edge lies in a box -/
theorem loopE {g : Operand} {ps : Array Tmp} {assign body : Code} {Q : Exit → Act → World → Prop} {a : Act} {w : World} {n : Nat} {k : Nat} {gf : Nat} {lb : Array Value} {xs : List (Int × Int)} {R : World → Prop}
    (hseq : SeqJ k gf lb (fun x v _ => v = #[.agg #[.int .u64 x.2, .int .u64 x.1]]) xs R) (hk : k + 1 ≤ n) (hg : a.eval g = .func (.func gf) #[] lb) (eg : ∀ args w, (callFunc gf args).run Tryz.prog w = .ok (.enter gf args) w) (hps : ps.size = 1)
    (J : Nat → (Nat → Prop) → World → Prop) (Jx : (Nat → Prop) → World → Prop) (hJ : ∀ j S W W', J j S W → Keeps (fun k => ¬ S k) W W' → J j S W') (hJx : ∀ S W W', Jx S W → Keeps (fun k => ¬ S k) W W' → Jx S W') (hR : ∀ j S W, J j S W → R W) (h0 : J 0 (fun k => k < w.heap.size) w) (a₁ : Int → Int → Nat → Act)
    (hasg : ∀ x y W N (K : Act → World → Prop), W.heap.size = N → K (a₁ x y N) (W.alloc (.cells #[.int .u64 y, .int .u64 x] 222)) → assign.wpIn (Fence.wide.inRound (w.heap.size + 1)) (n - 1 - 1) Tryz.prog (Exit.then K (fun _ _ _ => False)) { tmps := (ps.zip #[.agg #[.int .u64 y, .int .u64 x]]).foldl (fun t (p, v) => t.setIfInBounds p v) a.tmps, defers := [] } W)
    (hbody : ∀ j x y N S W, xs[j]? = some (x, y) → J j S W → W.rangeAt N 0 [.int .u64 y, .int .u64 x] → w.heap.size + 1 < N → N < W.heap.size → (∀ k, S k → k < W.heap.size) → body.wpIn (Fence.wide.inRound (w.heap.size + 1)) (n - 1 - 1) Tryz.prog (leftJ S W (J (j + 1)) Jx) (a₁ x y N) W)
    (hdone : ∀ S W, J xs.length S W → (∀ k, S k → k < W.heap.size) → ¬ S w.heap.size → W.heap[w.heap.size]? = some (.deferred (some [])) → w.heap.size < W.heap.size → Q .normal { a with defers := { target := .collected w.heap.size, args := #[] } :: a.defers } W)
    (hstop : ∀ S W, Jx S W → (∀ k, S k → k < W.heap.size) → ¬ S w.heap.size → W.heap[w.heap.size]? = some (.deferred (some [])) → w.heap.size < W.heap.size → Code.ret.wpIn Fence.wide n Tryz.prog Q { a with defers := { target := .collected w.heap.size, args := #[] } :: a.defers } W) :
    (Code.rangeFunc g ps assign body).wpIn Fence.wide n Tryz.prog Q a w :=
  loopJ hseq hk hg eg (fun x v W h => by rw [h, hps]; rfl) J Jx hJ hJx hR h0 (fun x a' W' => ∃ N, a' = a₁ x.1 x.2 N ∧ W'.rangeAt N 0 [.int .u64 x.2, .int .u64 x.1] ∧ w.heap.size + 1 < N ∧ N < W'.heap.size)
    (fun x a' W o h => by
      obtain ⟨N, h1, h2, h3, h4⟩ := h
      exact ⟨N, h1, rangeY_same h2 (World.putObj_heap_other (by omega)), h3, by simpa [World.putObj] using h4⟩)
    (fun j x v S W K hx hj hv hl hlt hK => by
      subst hv
      exact hasg x.1 x.2 W _ _ rfl (hK _ _ (new_below _ _) ⟨W.heap.size, rfl, rangeY_new W W.heap.size #[.int .u64 x.2, .int .u64 x.1] _ rfl, hlt, by simp⟩))
    (fun j x a' S W hx hj ha hs hl _ _ => by
      obtain ⟨N, rfl, h2, h3, h4⟩ := ha
      exact hbody j x.1 x.2 N S W hx hj h2 h3 h4 hs) hdone hstop

/-- After's iterator at work: its consumer's blocks S, its own three behind those of W -/
structure AftAt (I : (Nat → Prop) → World → Prop) (W : World) (y mb : Nat) (fr : Int) (T S : Nat → Prop) (V : World) : Prop where
  sub : ∀ k, S k → T k
  own : ∀ k, W.heap.size ≤ k → k < W.heap.size + 3 → T k ∧ ¬ S k
  inv : I S V
  f : V.cell? ⟨W.heap.size + 1 + 1, 0, none⟩ = some (.int .u64 fr)
  w : V.cell? ⟨W.heap.size + 1, 0, none⟩ = some (.map (some mb))
  y : V.cell? ⟨W.heap.size, 0, none⟩ = some (.func (.yield y) #[] #[])
  ss : ∀ k, S k → k < V.heap.size
  kp : Keeps (fun k => k < W.heap.size) W V
  sz : W.heap.size + 3 ≤ V.heap.size

theorem AftAt.move {I I' : (Nat → Prop) → World → Prop} {W : World} {y mb : Nat} {fr : Int} {T T' S S' : Nat → Prop} {V V' : World} (h : AftAt I W y mb fr T S V) {X : Nat → Prop} (hk : Keeps X V V') (hX : ∀ k, W.heap.size ≤ k → k < W.heap.size + 3 → ¬ X k) (hi : I' S' V') (hs : ∀ k, S' k → S k ∨ V.heap.size ≤ k) (hss : ∀ k, S' k → k < V'.heap.size) (h1 : ∀ k, S' k → T' k) (h2 : ∀ k, W.heap.size ≤ k → k < W.heap.size + 3 → T' k) : AftAt I' W y mb fr T' S' V' := by
  have hz := h.sz
  exact ⟨h1, fun k a b => ⟨h2 k a b, fun hn => by
      rcases hs k hn with e | e
      · exact (h.own k a b).2 e
      · omega⟩, hi, (hk.cell (g := W.heap.size + 1 + 1) (i := 0) (by omega) (hX _ (by omega) (by omega))).trans h.f, (hk.cell (g := W.heap.size + 1) (i := 0) (by omega) (hX _ (by omega) (by omega))).trans h.w, (hk.cell (g := W.heap.size) (i := 0) (by omega) (hX _ (by omega) (by omega))).trans h.y, hss, kp_then h.kp (fun k _ hk => hk) hk, Nat.le_trans hz hk.size⟩

end Go.Proofs.YtcgiicmmfleinaaGreatDoor

namespace Go.Proofs.YtcgiicmmfleinaaGreatDoor
open Go.RowKit NumMath Go.ChangeShapes Go.WideShapes Go.Deep
set_option linter.unusedVariables false
set_option maxRecDepth 100000

theorem rev_of {xs ys : List Int} {n p q : Nat} (hx : xs.length = n) (hy : ys.length = n) (hpq : p + q + 1 = n) (h : ∀ t, t < n → ys[t]? = if t < p ∨ q < t then xs[n - 1 - t]? else xs[t]?) (hle : q ≤ p) : ys = xs.reverse := by
  apply List.ext_getElem?
  intro t
  by_cases ht : t < n
  · rw [h t ht, List.getElem?_reverse (by omega), hx]
    split
    · rfl
    · have : n - 1 - t = t := by omega
      rw [this]
  · rw [List.getElem?_eq_none (by omega), List.getElem?_eq_none (by rw [List.length_reverse]; omega)]

theorem rev_step {xs ys : List Int} {n p q1 : Nat} {X Y : Int} (hx : xs.length = n) (hy : ys.length = n) (hpq : p + (q1 + 1) + 1 = n) (h : ∀ t, t < n → ys[t]? = if t < p ∨ q1 + 1 < t then xs[n - 1 - t]? else xs[t]?) (hlt : p < q1 + 1) (hX : ys[p]? = some X) (hY : ys[q1 + 1]? = some Y) :
    ∀ t, t < n → ((ys.set p Y).set (q1 + 1) X)[t]? = if t < p + 1 ∨ q1 < t then xs[n - 1 - t]? else xs[t]? := by
  intro t ht
  have hp := h p (by omega)
  have hq := h (q1 + 1) (by omega)
  rw [if_neg (by omega)] at hp hq
  rw [List.getElem?_set, List.getElem?_set]
  by_cases e1 : q1 + 1 = t
  · subst e1
    rw [if_pos rfl, if_pos (by rw [List.length_set]; omega), if_pos (by omega), ← hX, hp]
    congr 1; omega
  · rw [if_neg e1]
    by_cases e2 : p = t
    · subst e2
      rw [if_pos rfl, if_pos (by omega), if_pos (by omega), ← hY, hq]
      congr 1; omega
    · rw [if_neg e2, h t ht]
      by_cases e3 : t < p ∨ q1 + 1 < t
      · rw [if_pos e3, if_pos (by omega)]
      · rw [if_neg e3, if_neg (by omega)]

theorem OwnY.setU {w : World} {base g n cap : Nat} {xs : List Int} (h : OwnY layU w base (.slice (some ⟨g, 0, none⟩) n cap) xs) (i : Nat) (x y : Int) (hi : xs[i]? = some x) : OwnY layU (w.setCell ⟨g, i, none⟩ (.int .u64 y)) base (.slice (some ⟨g, 0, none⟩) n cap) (xs.set i y) :=
  h.cell i 0 x y (.int .u64 y) hi (by decide) rfl i (by show i = i * 1 + 0; omega)

set_option maxHeartbeats 2000000 in
theorem revU_any (base g n cap : Nat) (xs : List Int) (w : World) (h : OwnY layU w base (.slice (some ⟨g, 0, none⟩) n cap) xs) (h1 : 1 ≤ n) (hn : n ≤ 1000000) :
    Calls Tryz.prog 188 #[.slice (some ⟨g, 0, none⟩) n cap] w fun e w' => e = .returned (.tuple #[]) ∧ OwnY layU w' base (.slice (some ⟨g, 0, none⟩) n cap) xs.reverse ∧ Keeps (fun k => k = g) w w' := by
  have H := hide h
  have HL := hide h.len.1
  have hc := h.len.2
  have hm : (cap : Int) ≤ 9223372036854775807 := by have := hc.2; unfold maxLen at this; omega
  clear h
  go_enter Tryz.func188, Tryz.ntmps188
  go_wp2
  go_loopw [2, 3] (fun i j wr => ∃ (p q : Nat) (ys : List Int), i = .int .i64 p ∧ j = .int .i64 q ∧ p + q + 1 = n ∧ ys.length = n ∧ (∀ t, t < n → ys[t]? = if t < p ∨ q < t then xs[n - 1 - t]? else xs[t]?) ∧ OwnY layU wr base (.slice (some ⟨g, 0, none⟩) n cap) ys ∧ Keeps (fun k => k = g) w wr) (fun i j _ => (intOf j + 1 - intOf i).toNat)
  case atStart => exact ⟨0, n - 1, xs, rfl, by go_num, by omega, HL.out, fun t ht => by rw [if_neg (by omega)], H.out, Below.keeps (Below.refl _ _) _⟩
  case round =>
    obtain ⟨p, q, ys, rfl, rfl, hpq, hyl, hI, hO, hK⟩ := hrel
    have HO := hide hO
    have HI := hide hI
    have HK := hide hK
    have HPq := hide hpq
    have HYl := hide hyl
    clear hO hI hK H
    by_cases hlt : (p : Int) < (q : Int)
    · obtain ⟨q1, hq1⟩ : ∃ q1 : Nat, q = q1 + 1 := ⟨q - 1, by omega⟩
      subst hq1
      obtain ⟨X, hX⟩ : ∃ X, ys[p]? = some X := ⟨_, List.getElem?_eq_getElem (by omega)⟩
      obtain ⟨Y, hY⟩ : ∃ Y, ys[q1 + 1]? = some Y := ⟨_, List.getElem?_eq_getElem (by omega)⟩
      rcases HO.out.form with ⟨e, -⟩ | ⟨g', cap', e, -, hg2, -, -, hC, hF⟩
      · cases e
      cases e
      have cp := cellU hC hX
      have cq := cellU hC hY
      have fp := hF p
      have fq := hF (q1 + 1)
      have HX := hide hX
      have HY := hide hY
      have e1 : ¬ p = q1 + 1 := by omega
      have e2 : ¬ q1 + 1 = p := by omega
      have i1 : (p : Int) < (ys.length : Int) := by omega
      have i2 : (q1 : Int) + 1 < (ys.length : Int) := by omega
      clear hC hF hX hY hpq hyl
      go_wp2
      go_region
      all_goals
        go_wp2
        go_roundw
        case rel =>
          refine ⟨p + 1, q1, (ys.set p Y).set (q1 + 1) X, by go_num, by go_num, by have := HPq.out; omega, by simp, ?_, ?_, ?_⟩
          · exact rev_step HL.out rfl HPq.out HI.out (by omega) HX.out HY.out
          · exact (((HO.out.keep (below_drewN (Below.refl _ wr) _)).setU p X Y HX.out).setU (q1 + 1) Y X (by rw [List.getElem?_set]; rw [if_neg e1]; exact HY.out))
          · exact kp_then (kp_then (kp_then HK.out (fun k hk _ => hk) (Below.keeps (below_drewN (Below.refl _ wr) _) _)) (fun k hk _ => hk) (keepsY_cell _)) (fun k hk _ => hk) (keepsY_cell _)
        case measure => simp [intOf]; omega
    · have HE : Hid (ys = xs.reverse) := rev_of HL.out HYl.out HPq.out HI.out (by omega)
      rw [HE.out] at HO
      clear hpq hyl
      go_wp2
      go_end0
      exact ⟨rfl, HO.out, HK.out⟩

/-- by which edge each node of ws was come to -/
def CameAt (w : World) (b z : Nat) (ws : List (Int × Int)) : Prop := ∃ f, MapV w 31 b z f ∧ ∀ x y, (x, y) ∈ ws → f (.int .u64 x) = some (.agg #[.int .u64 y, .int .u64 x])

theorem CameAt.same {w w' : World} {b z : Nat} {ws : List (Int × Int)} (h : CameAt w b z ws) (e : w'.heap[b]? = w.heap[b]?) : CameAt w' b z ws := by
  obtain ⟨f, h1, h2⟩ := h
  exact ⟨f, h1.same e, h2⟩

theorem CameAt.lt {w : World} {b z : Nat} {ws : List (Int × Int)} (h : CameAt w b z ws) : b < w.heap.size := by
  obtain ⟨f, h1, _⟩ := h
  exact h1.lt

theorem came_new (w : World) (o : Obj) (ho : o = .map #[] 0) (g : Nat) (hg : w.heap.size = g) : CameAt (w.alloc o) g 0 [] :=
  ⟨_, mapV_new w _ o ho g hg, fun x y h => by simp at h⟩

theorem CameAt.look {w : World} {b z : Nat} {ws : List (Int × Int)} (h : CameAt w b z ws) {x y : Int} (hx : U64 x) (hm : (x, y) ∈ ws) : ∀ W : World, W.heap[b]? = w.heap[b]? → (Instr.lookup 231 (.map (some b)) (.int .u64 x) false).run Tryz.prog W = .ok (.agg #[.int .u64 y, .int .u64 x]) W := by
  intro W hW
  obtain ⟨f, h1, h2⟩ := h
  rw [h1.look keyedU Tryz.underlying231 zeroE (keyU hx) W hW, h2 x y hm]
  rfl

theorem CameAt.put {w : World} {b z : Nat} {ws : List (Int × Int)} (h : CameAt w b z ws) (hz : z ≤ 1000000) {x y : Int} (hx : U64 x) (hn : ∀ y, (x, y) ∉ ws) : ∃ w', (Instr.mapUpdate 231 (.map (some b)) (.int .u64 x) (.agg #[.int .u64 y, .int .u64 x])).run Tryz.prog w = .ok () w' ∧ CameAt w' b (z + 1) (ws ++ [(x, y)]) ∧ w.grownBy w' (some b) := by
  obtain ⟨f, h1, h2⟩ := h
  obtain ⟨w', r1, r2, r3⟩ := h1.put hz keyedU Tryz.underlying231 (keyU hx) (.agg #[.int .u64 y, .int .u64 x])
  refine ⟨w', r1, ⟨_, r2, fun u v hm => ?_⟩, r3⟩
  rcases List.mem_append.1 hm with hm | hm
  · have hne : u ≠ x := fun e => hn v (e ▸ hm)
    rw [setF_other _ _ (fun h => hne (by simpa using h))]
    exact h2 u v hm
  · have := List.mem_singleton.1 hm
    cases this
    rw [setF_same]

theorem field0E (u v : Int) (W : World) : (Instr.field 222 (.agg #[.int .u64 u, .int .u64 v]) 0).run Tryz.prog W = .ok (.int .u64 u) W := by rfl

/-- where ring stands: at z, with acc behind it -/
def RingI (l : List (Int × Int)) (fr : Int) (k : Nat) (z : Int) (acc : List Int) : Prop :=
  (z = fr ∧ acc = cycleW l fr) ∨ (z ≠ fr ∧ (∃ i t, i < k ∧ (walkW l fr)[i]? = some (z, t)) ∧ cycW fr ((walkW l fr).take k).reverse z acc = cycleW l fr)

theorem ringI_step {l : List (Int × Int)} {fr : Int} {k i : Nat} {z t : Int} {acc : List Int} (hi : i < k) (hk : k ≤ (walkW l fr).length) (hz : (walkW l fr)[i]? = some (z, t)) (hc : cycW fr ((walkW l fr).take k).reverse z acc = cycleW l fr) : RingI l fr i t (t :: acc) := by
  have nd := (walkW_good l fr).1
  rw [cyc_find fr _ nd i z t hz k acc hi hk] at hc
  by_cases ht : t = fr
  · rw [if_pos ht] at hc
    exact .inl ⟨ht, hc⟩
  · rw [if_neg ht] at hc
    refine .inr ⟨ht, ?_, hc⟩
    rcases walkW_ord l fr i _ hz with h1 | ⟨j, t', hj, h1⟩
    · exact absurd h1 ht
    · exact ⟨j, t', hj, h1⟩

set_option maxHeartbeats 4000000 in
theorem ring_any (l : List (Int × Int)) (fr : Int) (hfr : U64 fr) (hU : ∀ e ∈ l, U64 e.1 ∧ U64 e.2) (hl : l.length ≤ 100000) (j : Nat) (t : Int) (hj : (walkW l fr)[j]? = some (fr, t)) (mc z : Nat) (w : World) (h : CameAt w mc z ((walkW l fr).take (j + 1))) :
    Calls Tryz.prog 173 #[.map (some mc), .int .u64 fr] w fun e w' => ∃ v, e = .returned v ∧ OwnY layU w' w.heap.size v (cycleW l fr) ∧ Below w.heap.size w w' := by
  have hwl := (walkW_good l fr).2.2
  have hjl := (List.getElem?_eq_some_iff.1 hj).1
  have hmem : ∀ i x y, i ≤ j → (walkW l fr)[i]? = some (x, y) → (x, y) ∈ (walkW l fr).take (j + 1) ∧ U64 x := fun i x y hi hx => by
    refine ⟨List.mem_of_getElem? (i := i) (by rw [List.getElem?_take, if_pos (by omega)]; exact hx), ?_⟩
    have := (walkW_good l fr).2.1 _ (List.mem_of_getElem? hx)
    exact (hU _ this).2
  have HM := hide hmem
  have H := hide h
  have HR0 : Hid (RingI l fr j t [t]) := ringI_step (k := (walkW l fr).length) hjl (Nat.le_refl _) hj (by rw [List.take_length]; rfl)
  have hlk0 := h.look hfr (hmem j fr t (Nat.le_refl _) hj).1 w rfl
  have hfl := field0E
  clear h hmem hj
  go_enter Tryz.func173, Tryz.ntmps173
  go_wp2
  go_loopg [5, 6] j (fun gk v nv wr => ∃ (z : Int) (acc : List Int), nv = .int .u64 z ∧ RingI l fr gk z acc ∧ OwnY layU wr w.heap.size v acc.reverse ∧ Below w.heap.size w wr ∧ gk ≤ j ∧ acc.length + gk ≤ j + 1 ∧ 1 ≤ acc.length)
  case atStart =>
    exact ⟨t, [t], rfl, HR0.out, ownY_one w w.heap.size #[.int .u64 t] t (Nat.le_refl _) rfl, new_below _ _, Nat.le_refl _, by simp; omega, by simp⟩
  case round =>
    obtain ⟨z, acc, rfl, hI, hO, hB, hk, hla, hl1⟩ := hrel
    obtain ⟨va, vn, vc, rfl⟩ := hO.any3
    have hvl := hO.len
    have HO := hide hO
    have HB := hide hB
    rw [List.length_reverse] at hvl
    have hvc : (vc : Int) ≤ 9223372036854775807 := by have := hvl.2.2; unfold maxLen at this; omega
    have hsz := hB.size
    clear hO hB hlk0 HR0
    rcases hI with ⟨rfl, hac⟩ | ⟨hne, ⟨i, t', hi, hzt⟩, hcy⟩
    · rcases HO.out.form with ⟨e, e0⟩ | ⟨g, cap, e, hg1, hg2, -⟩
      · exfalso; rw [List.reverse_eq_nil_iff] at e0; rw [e0] at hl1; simp at hl1
      cases e
      have HV := hide (revU_any w.heap.size g acc.reverse.length vc acc.reverse wr HO.out (by rw [List.length_reverse]; omega) (by rw [List.length_reverse]; omega))
      have HAc := hide hac
      generalize hgn : acc.reverse.length = vn at *
      clear hac hgn
      go_wp2_with (first
        | (go_at_call 188; go_must (refine HV.out.mono ?_); rintro e w5 ⟨rfl, ho5, hk5⟩; have HO5 := hide ho5; have HK5 := hide hk5; clear ho5 hk5))
      go_ret
      have ho5 := HO5.out
      rw [List.reverse_reverse, HAc.out] at ho5
      exact ⟨_, rfl, ho5, HB.out.trans (HK5.out.below hsz (fun k (e : k = g) => by omega))⟩
    · have hne' : (z == fr) = false := by simp [hne]
      obtain ⟨hm, hz⟩ := HM.out i z t' (by omega) hzt
      have hlk := H.out.look hz hm wr (HB.out.block _ H.out.lt)
      have HS := hide (ringI_step hi (by omega) hzt hcy)
      have HK1 := hide (new_below wr (.cells #[.int .u64 t'] 31))
      have HN1 := hide (ownY_one (L := layU) wr w.heap.size #[.int .u64 t'] t' hsz rfl)
      have HO1 := hide (HO.out.keep HK1.out)
      have HBig : Hid (acc.reverse.length + [t'].length ≤ 1000000000) := by show _ ≤ _; rw [List.length_reverse]; simp; omega
      clear hcy hm hz hzt hne
      go_wp2_with (first
        | (at_builtin; go_must (refine wp_joinY layU _ rfl (.tmp 22) (.tmp 24) rfl w.heap.size _ acc.reverse rfl HO1.out (some ⟨wr.heap.size, 0, none⟩) 1 1 [t'] rfl HN1.out.is.src HBig.out (by simp; omega) ?_); intro v5 w5 hown5 hg5 hat5; have HO5 := hide hown5; have HB5 := hide ((HK1.out.mono hsz).trans (HO1.out.grown hg5 (by simp; omega))); obtain ⟨xa, xn, xc, rfl⟩ := hown5.any3; clear hown5 hg5 hat5))
      go_roundg i
      case measure => exact hi
      case rel =>
        refine ⟨t', t' :: acc, rfl, HS.out, ?_, HB.out.trans HB5.out, by omega, by simp; omega, by simp⟩
        rw [List.reverse_cons]
        exact HO5.out

end Go.Proofs.YtcgiicmmfleinaaGreatDoor

namespace Go.Proofs.YtcgiicmmfleinaaGreatDoor
open Go.RowKit NumMath Go.ChangeShapes Go.WideShapes Go.Deep
set_option linter.unusedVariables false
set_option maxRecDepth 100000

attribute [local go_sem] Oper.semAt_some

theorem res_cellC {tmps : Array Value} {N : Nat} {v : Value} {W : World} (hp : tmps.getD 4 undef = .pointer (some ⟨N, 0, none⟩)) (c : W.cell? ⟨N, 0, none⟩ = some v) : (results Tryz.f145 tmps).run Tryz.prog W = .ok v W := by
  have hp' : tmps[4]?.getD undef = .pointer (some ⟨N, 0, none⟩) := by simpa using hp
  simp [results, Tryz.results145, hp', go_sem, c]

theorem fz_new (w : World) (cs : Array Value) (ty : TypeId) (i : Nat) : (w.alloc (.cells cs ty)).frozen? ⟨w.heap.size, i, none⟩ = false := by
  simp

set_option maxHeartbeats 4000000 in
theorem pcycleN_any (a : Option Addr) (len cap : Nat) (l : List (Int × Int)) (fr : Int) (w : World) (h : IsEdges w a len cap l) (hl : len ≤ 100000) (hfr : U64 fr) :
    Calls Tryz.prog 145 #[.slice a len cap, .int .u64 fr] w fun e w' => ∃ v, e = .returned v ∧ OwnY layU w' w.heap.size v (cycleW l fr) ∧ Below w.heap.size w w' ∧ (cycleW l fr = [] → v = .slice none 0 0) := by
  refine (callsIn_wide (n := 12)).1 ?_
  refine callsIn_of_wp_marks Tryz.func145 rfl trivial ?_ rfl
  simp only [Tryz.ntmps145, List.size_toArray, List.length_cons, List.length_nil, Nat.reduceAdd, Nat.reduceSub, Array.replicate_succ, Array.replicate_zero, List.push_toArray, List.append_toArray, List.nil_append, List.cons_append]
  obtain ⟨W0, hW0⟩ : ∃ W0, W0 = (((w.alloc (.cells #[.int .u64 fr] 31)).alloc (.cells #[.slice none 0 0] 42)).alloc (.map #[] 0)).alloc (.cells #[.map (some (w.heap.size + 1 + 1))] 231) := ⟨_, rfl⟩
  have hb0 : Below w.heap.size w W0 := by rw [hW0]; exact ((((Below.refl _ w).alloc (Nat.le_refl _) _).alloc (by simp) _).alloc (by simp; omega) _).alloc (by simp; omega) _
  have hs0 : W0.heap.size = w.heap.size + 4 := by rw [hW0]; simp
  have hN0 : W0.cell? ⟨w.heap.size, 0, none⟩ = some (.int .u64 fr) := by rw [hW0]; exact ((((new_below _ _).trans ((new_below _ _).mono (by simp))).trans ((new_below _ _).mono (by simp))).cell (p := ⟨w.heap.size, 0, none⟩) (by simp)).trans (rangeY_new w w.heap.size _ _ rfl 0 _ rfl)
  have hN3 : W0.cell? ⟨w.heap.size + 1 + 1 + 1, 0, none⟩ = some (.map (some (w.heap.size + 1 + 1))) := by rw [hW0]; exact rangeY_new _ _ _ _ (by simp) 0 _ rfl
  have hmm := @run_makeMap Tryz.prog
  have HE := hide h
  clear h
  have HS0 := hide hs0
  have HB0 := hide hb0
  have HN0 := hide hN0
  have HN3 := hide hN3
  have HN1 : Hid (W0.cell? ⟨w.heap.size + 1, 0, none⟩ = some (.slice none 0 0) ∧ W0.frozen? ⟨w.heap.size + 1, 0, none⟩ = false) := by
    have hbb : Below (w.heap.size + 2) ((w.alloc (.cells #[.int .u64 fr] 31)).alloc (.cells #[.slice none 0 0] 42)) W0 := by rw [hW0]; exact ((Below.refl _ _).alloc (by simp) _).alloc (by simp) _
    refine ⟨(hbb.cell (p := ⟨w.heap.size + 1, 0, none⟩) (Nat.lt_succ_self (w.heap.size + 1))).trans (rangeY_new _ _ _ _ (by simp) 0 _ rfl), (hbb.frozen (p := ⟨w.heap.size + 1, 0, none⟩) (Nat.lt_succ_self (w.heap.size + 1))).trans ?_⟩
    have := fz_new (w.alloc (.cells #[.int .u64 fr] 31)) #[.slice none 0 0] 42 0
    rwa [World.size_alloc] at this
  have HM2 : Hid (CameAt W0 (w.heap.size + 1 + 1) 0 []) := by
    rw [hW0]
    exact (came_new _ _ rfl _ (by simp)).same ((new_below _ _).block _ (by simp))
  clear hs0 hb0 hN3 hN0
  gi_wp2_with fail
  rw [← hW0]
  clear hmm hW0
  refine startRW (fun V => V.cell? ⟨w.heap.size, 0, none⟩ = some (.int .u64 fr)) 99 (by kernel_rfl) (by kernel_rfl) ?_
  refine' takeR (E := 99) (i := 0) (v := _) rfl (by kernel_rfl) (by kernel_rfl) (by kernel_rfl) (by kernel_rfl) (by rfl) HN0.out ?_ ?_; rotate_left
  · (intro V' hSw; have y0 : V'.cell? ⟨w.heap.size, 0, none⟩ = some (.int .u64 fr) := hSw; go_simp; all_goals (with_reducible rfl))
  (try simp only [Act.put, List.setIfInBounds_toArray, List.set_cons_zero, List.set_cons_succ])
  refine' takeR (E := 99) (i := 2) (v := _) rfl (by kernel_rfl) (by kernel_rfl) (by kernel_rfl) (by kernel_rfl) (by rfl) HN0.out ?_ ?_; rotate_left
  · (intro V' hSw; have y0 : V'.cell? ⟨w.heap.size, 0, none⟩ = some (.int .u64 fr) := hSw; go_simp; all_goals (with_reducible rfl))
  (try simp only [Act.put, List.setIfInBounds_toArray, List.set_cons_zero, List.set_cons_succ])
  refine callX (i := 1) rfl (by kernel_rfl) (fun K hK => ?_)
  go_simp
  refine (waitsOf_any a len cap l W0.drew (HE.out.keep HB0.out.drew) hl).mono ?_
  rintro e w4 ⟨f, rfl, hr4, hb4⟩
  have hs4 : w.heap.size + 4 ≤ w4.heap.size := by have h1 := hb4.size; have h2 : W0.drew.heap.size = w.heap.size + 4 := HS0.out; omega
  have hmb : W0.drew.heap.size = w.heap.size + 4 := HS0.out
  rw [hmb] at hr4 hb4
  refine hK.out _ _ (fun _ => (hb4.cell (p := ⟨w.heap.size, 0, none⟩) (by show w.heap.size < _; omega)).trans HN0.out) ?_
  have HR4 := hide hr4
  have HB4 := hide hb4
  clear hK K hr4 hb4
  rw [hmb]
  (try simp only [Act.put, List.setIfInBounds_toArray, List.set_cons_zero, List.set_cons_succ])
  refine callX (i := 3) rfl (by kernel_rfl) (fun K hK => ?_)
  go_simp
  refine (steps_any (w.heap.size + 4) fr w4).mono ?_
  rintro e w5 ⟨rfl, hw5⟩
  have hb5 : Below w4.heap.size w4 w5 := by rw [hw5]; exact ((Below.refl _ w4).alloc (Nat.le_refl _) _).alloc (by simp) _
  refine hK.out _ _ (fun _ => (hb5.cell (p := ⟨w.heap.size, 0, none⟩) (by show w.heap.size < _; omega)).trans ((HB4.out.cell (p := ⟨w.heap.size, 0, none⟩) (by show w.heap.size < _; omega)).trans HN0.out)) ?_
  clear hK K
  (try simp only [Act.put, List.setIfInBounds_toArray, List.set_cons_zero, List.set_cons_succ])
  refine doneX (by kernel_rfl) ?_ _
  simp only [calmV]
  gi_wp2_with fail
  have hs5 : w5.heap.size = w4.heap.size + 2 := by rw [hw5]; simp
  have hsf : w5.cell? ⟨w4.heap.size + 1, 0, none⟩ = some (.int .u64 fr) := by rw [hw5]; exact rangeY_new _ _ _ _ (by simp) 0 _ rfl
  have hsw : w5.cell? ⟨w4.heap.size, 0, none⟩ = some (.map (some (w.heap.size + 4))) := by rw [hw5]; exact ((new_below _ _).cell (p := ⟨w4.heap.size, 0, none⟩) (by simp)).trans (rangeY_new _ _ _ _ rfl 0 _ rfl)
  have hd05 := HB4.out.trans (hb5.mono hs4)
  have hb05 : Below (w.heap.size + 4) W0 w5 := ⟨hd05.os, hd05.tape, hd05.output, hd05.size, hd05.block⟩
  clear hd05
  have HR5 := hide (HR4.out.keep hb5)
  obtain ⟨hN1c, hN1f⟩ := HN1.out
  have hc0 := (hb05.cell (p := ⟨w.heap.size, 0, none⟩) (by show w.heap.size < _; omega)).trans HN0.out
  have hc1 := (hb05.cell (p := ⟨w.heap.size + 1, 0, none⟩) (by show w.heap.size + 1 < _; omega)).trans hN1c
  have hf1 := (hb05.frozen (p := ⟨w.heap.size + 1, 0, none⟩) (by show w.heap.size + 1 < _; omega)).trans hN1f
  have hc3 := (hb05.cell (p := ⟨w.heap.size + 1 + 1 + 1, 0, none⟩) (by show w.heap.size + 1 + 1 + 1 < _; omega)).trans HN3.out
  have HM5 := hide (HM2.out.same (hb05.block (w.heap.size + 1 + 1) (by omega)))
  have HBw : Hid (Below w.heap.size w w5) := HB0.out.trans (hb05.mono (by omega))
  have hcell : ∀ V, Keeps (fun k => k = w.heap.size + 1 + 1) w5 V → V.cell? ⟨w.heap.size, 0, none⟩ = some (.int .u64 fr) ∧ V.cell? ⟨w.heap.size + 1, 0, none⟩ = some (.slice none 0 0) ∧ V.frozen? ⟨w.heap.size + 1, 0, none⟩ = false ∧ V.cell? ⟨w.heap.size + 1 + 1 + 1, 0, none⟩ = some (.map (some (w.heap.size + 1 + 1))) ∧ V.cell? ⟨w4.heap.size + 1, 0, none⟩ = some (.int .u64 fr) ∧ V.cell? ⟨w4.heap.size, 0, none⟩ = some (.map (some (w.heap.size + 4))) := fun V hV => ⟨(hV.cell (g := w.heap.size) (i := 0) (by omega) (by omega)).trans hc0, (hV.cell (g := w.heap.size + 1) (i := 0) (by omega) (by omega)).trans hc1, (World.frozen?_of_block (a := ⟨w.heap.size + 1, 0, none⟩) (hV.block (w.heap.size + 1) (by omega) (by omega))).trans hf1, (hV.cell (g := w.heap.size + 1 + 1 + 1) (i := 0) (by omega) (by omega)).trans hc3, (hV.cell (g := w4.heap.size + 1) (i := 0) (by omega) (by omega)).trans hsf, (hV.cell (g := w4.heap.size) (i := 0) (by omega) (by omega)).trans hsw⟩
  have HCell := hide hcell
  obtain ⟨ws, hws⟩ : ∃ ws, ws = walkW l fr := ⟨_, rfl⟩
  have HU := hide HE.out.2
  have hll : l.length ≤ 100000 := by have := HE.out.1.1; omega
  clear hcell hc0 hc1 hf1 hc3 hsf hsw hb05 hN1c hN1f HM2 HN0 HN1 HN3 HR4 hw5 hb5
  refine' loopE (a₁ := _) (stepsJ (w4.heap.size + 1) w4.heap.size (w.heap.size + 4 + 2) (w.heap.size + 4) len f l fr hfr HU.out hll) (by omega) rfl (fun args w => rfl) rfl
    (fun j S V => (∀ k, k < w5.heap.size → S k) ∧ CameAt V (w.heap.size + 1 + 1) j ((walkW l fr).take j) ∧ Keeps (fun k => k = w.heap.size + 1 + 1) w5 V ∧ ∀ i s, i < j → (walkW l fr)[i]? = some s → s.1 ≠ fr)
    (fun S V => (∀ k, k < w5.heap.size → S k) ∧ Keeps (fun k => k = w.heap.size + 1 + 1 ∨ k = w.heap.size + 1) w5 V ∧ ∃ v, V.cell? ⟨w.heap.size + 1, 0, none⟩ = some v ∧ OwnY layU V w.heap.size v (cycleW l fr) ∧ (∀ g, v.ownBlock = some g → S g) ∧ cycleW l fr ≠ []) _ _ _ _ _ _ _ _
  case refine'_1 =>
    rintro j S V V' ⟨h1, h2, h3, h4⟩ hk
    exact ⟨h1, h2.same (hk.block _ h2.lt (fun e => e (h1 _ (by omega)))), kp_then h3 (fun k hn hlt => absurd (h1 k hlt) hn) hk, h4⟩
  case refine'_2 =>
    rintro S V V' ⟨h1, h2, v, h3, h4, h5, h6⟩ hk
    exact ⟨h1, kp_then h2 (fun k hn hlt => absurd (h1 k hlt) hn) hk, v, (hk.cell (g := w.heap.size + 1) (i := 0) (by have := h2.size; omega) (fun e => e (h1 _ (by omega)))).trans h3, h4.lies (fun g hg => hk.block g (h4.lt g hg).2 (fun e => e (h5 g hg))), h5, h6⟩
  case refine'_3 =>
    rintro j S V ⟨h1, h2, h3, h4⟩
    obtain ⟨-, -, -, -, c4, c5⟩ := HCell.out V h3
    exact ⟨c4, c5, HR5.out.lies h3 (fun k hk1 hk2 e => by omega)⟩
  case refine'_4 => exact ⟨fun k hk => hk, HM5.out, Below.keeps (Below.refl _ _) _, fun i s hi => by omega⟩
  case refine'_6 =>
    intro x x2 V N K hN hK
    gi_wp2
    exact hK
  case refine'_7 =>
    rintro j x x2 N S V hx ⟨h1, h2, h3, h4⟩ hr hN1 hN2 hS
    have hjl := (List.getElem?_eq_some_iff.1 hx).1
    have hgd := walkW_good l fr
    have hUx : U64 x := (HU.out _ (hgd.2.1 _ (List.mem_of_getElem? hx))).2
    have hnot : ∀ y, (x, y) ∉ (walkW l fr).take j := fun y hm => by
      obtain ⟨i, hi, hiy⟩ := List.mem_iff_getElem.1 hm
      rw [List.length_take] at hi
      have h9 : (walkW l fr)[i]? = some (x, y) := by
        rw [List.getElem_take] at hiy
        rw [List.getElem?_eq_getElem (by omega), hiy]
      have := nd_at hgd.1 h9 hx
      omega
    obtain ⟨w6, hup, hm6, hg6⟩ := h2.put (y := x2) (by have := hgd.2.2; omega) hUx hnot
    have htk : (walkW l fr).take (j + 1) = (walkW l fr).take j ++ [(x, x2)] := by rw [List.take_add_one, hx]; rfl
    rw [← htk] at hm6
    obtain ⟨c0, c1, f1, c3, -, -⟩ := HCell.out V h3
    have hk6 : Keeps (fun k => k = w.heap.size + 1 + 1) V w6 := ⟨hg6.os, hg6.tape, hg6.output, hg6.size, fun k hk hn => hg6.block k hk (fun e => hn (Option.some.inj e))⟩
    have hk56 := kp_then h3 (fun k hk _ => hk) hk6
    obtain ⟨d0, d1, g1, d3, -, -⟩ := HCell.out w6 hk56
    have r0 : V.cell? ⟨N, 0, none⟩ = some (.int .u64 x2) := hr 0 _ rfl
    have r1 : V.cell? ⟨N, 1, none⟩ = some (.int .u64 x) := hr 1 _ rfl
    have r6 : w6.cell? ⟨N, 1, none⟩ = some (.int .u64 x) := (hk6.cell (g := N) (i := 1) hN2 (by omega)).trans r1
    have H1 := hide h1
    have H4 := hide h4
    have HSs := hide hS
    have HM6 := hide hm6
    have HK6 := hide hk6
    have HK56 := hide hk56
    have hsV := h3.size
    have hs6 := hg6.size
    clear h1 h2 h3 h4 hm6 hk6 hk56 hg6 hnot hr htk hgd hS
    by_cases hxf : x = fr
    · subst hxf
      have HNe : Hid (cycleW l x ≠ []) := fun e => by
        have hm : x ∈ afterW l x := List.mem_map.2 ⟨_, List.mem_of_getElem? hx, rfl⟩
        have := (cycleW_some l x hm).1
        rw [e] at this
        cases this
      have HRing := hide (ring_any l x hfr HU.out hll j x2 hx (w.heap.size + 1 + 1) (j + 1) w6 HM6.out)
      clear hx
      gi_wp2_with (first
        | (refine ⟨trivial, ?_⟩; gi_at_call 173; refine (CallsIn.inRound _ (callsIn_wide.2 HRing.out)).mono ?_; rintro e w7 ⟨v7, rfl, ho7, hb7⟩; have HO7 := hide ho7; have HB7 := hide hb7; obtain ⟨va, vn, vc, rfl⟩ := ho7.any3; have e1 := (hb7.cell (p := ⟨w.heap.size + 1, 0, none⟩) (by show w.heap.size + 1 < _; omega)).trans d1; have e2 := (hb7.frozen (p := ⟨w.heap.size + 1, 0, none⟩) (by show w.heap.size + 1 < _; omega)).trans g1; clear ho7 hb7))
      have hk7 : Keeps (fun k => k = w.heap.size + 1 + 1) V w7 := kp_then HK6.out (X' := fun _ => False) (fun k e _ => e.elim) (Below.keeps HB7.out _)
      have hk8 := kp_then (kpWide hk7 (X' := fun k => k = w.heap.size + 1 + 1 ∨ k = w.heap.size + 1) (fun k e => .inl e)) (X' := fun k => k = w.heap.size + 1) (fun k e _ => .inr e) (keepsY_cell (w := w7) (g := w.heap.size + 1) (i := 0) (.slice va vn vc))
      have hk58 := kp_then (kpWide (kp_then HK56.out (X' := fun _ => False) (fun k e _ => e.elim) (Below.keeps HB7.out _)) (X' := fun k => k = w.heap.size + 1 + 1 ∨ k = w.heap.size + 1) (fun k e => .inl e)) (X' := fun k => k = w.heap.size + 1) (fun k e _ => .inr e) (keepsY_cell (w := w7) (g := w.heap.size + 1) (i := 0) (.slice va vn vc))
      have hs7 := HB7.out.size
      have hlt := fun g hg => HO7.out.lt g hg
      refine ⟨kpWide hk8 (fun k e => H1.out k (by omega)), fun k => S k ∨ (Value.slice va vn vc).ownBlock = some k, fun k hk => ?_, fun k hk => ?_, fun k hk => .inl (H1.out k hk), hk58, _, World.cell?_setCell_same' _ _ _ (by rw [e1]; rfl), ?_, fun g hg => .inr hg, HNe.out⟩
      · rcases hk with hk | hk
        · exact .inl hk
        · exact .inr (by have := (hlt k hk).1; omega)
      · have hs8 := (keepsY_cell (w := w7) (g := w.heap.size + 1) (i := 0) (.slice va vn vc)).size
        rcases hk with hk | hk
        · have := HSs.out k hk; omega
        · have := (hlt k hk).2; omega
      · exact (HO7.out.mono (by omega)).lies (fun g hg => (keepsY_cell (w := w7) (g := w.heap.size + 1) (i := 0) (.slice va vn vc)).block g (hlt g hg).2 (by have := (hlt g hg).1; omega))
    · have hxf' : (x == fr) = false := by simp [hxf]
      have HXf := hide hxf
      have HX := hide hx
      clear hxf hx
      gi_wp2
      refine ⟨kpWide HK6.out (fun k e => H1.out k (by omega)), S, fun k hk => .inl hk, fun k hk => by have := HSs.out k hk; omega, H1.out, HM6.out, HK56.out, fun i s hi hs => ?_⟩
      by_cases e : i = j
      · subst e
        rw [HX.out] at hs
        cases hs
        exact HXf.out
      · exact H4.out i s (by omega) hs
  case refine'_8 =>
    rintro S V ⟨h1, h2, h3, h4⟩ hS hSn hD hlt
    obtain ⟨c0, c1, f1, c3, -, -⟩ := HCell.out V h3
    have HNo : Hid (cycleW l fr = []) := cycleW_none l fr (fun hm => by
      unfold afterW at hm
      obtain ⟨s, hs, e⟩ := List.mem_map.1 hm
      obtain ⟨i, hi, his⟩ := List.mem_iff_getElem.1 hs
      exact h4 i s hi (by rw [List.getElem?_eq_getElem hi, his]) e)
    have hset := keepsY_cell (w := V) (g := w.heap.size + 1) (i := 0) (.slice none 0 0)
    have HD := hide ((hset.block w5.heap.size hlt (by omega)).trans hD)
    have HC := hide (World.cell?_setCell_same' V ⟨w.heap.size + 1, 0, none⟩ (.slice none 0 0) (by rw [c1]; rfl))
    have HK := hide (kp_then (kp_then (kpWide h3 (X' := fun k => k = w.heap.size + 1 + 1 ∨ k = w.heap.size + 1) (fun k e => .inl e)) (X' := fun k => k = w.heap.size + 1) (fun k e _ => .inr e) hset) (X' := fun k => k = w5.heap.size) (fun k e h => by omega) (kp_put (V.setCell ⟨w.heap.size + 1, 0, none⟩ (.slice none 0 0)) w5.heap.size (.deferred none)))
    clear hD hset h1 h2 h3 h4 hS hSn
    gi_wp2
    refine ⟨by simp, .inl ⟨_, _, rfl, run_takeDeferred HD.out, ?_⟩⟩
    refine ⟨_, res_cellC rfl ?_, _, rfl, by rw [HNo.out]; exact ownY_nil _ _, HBw.out.trans (HK.out.below (by have := HBw.out.size; omega) (fun k e => by omega)), fun _ => rfl⟩
    exact (World.cell?_of_block (a := ⟨w.heap.size + 1, 0, none⟩) (World.putObj_heap_other (by show w.heap.size + 1 ≠ w5.heap.size; omega))).trans HC.out
  case refine'_9 =>
    rintro S V ⟨h1, h2, v, h3, h4, h5, h6⟩ hS hSn hD hlt
    have HD := hide hD
    have HK := hide (kp_then h2 (X' := fun k => k = w5.heap.size) (fun k e h => by omega) (kp_put V w5.heap.size (.deferred none)))
    have HO := hide (h4.lies (w' := V.putObj w5.heap.size (.deferred none)) (fun g hg => World.putObj_heap_other (fun e => hSn (e ▸ h5 g hg))))
    have HC := hide h3
    have HNe := hide h6
    clear hD h1 h2 h3 h4 h5 h6 hS hSn
    gi_wp2
    refine ⟨by simp, .inl ⟨_, _, rfl, run_takeDeferred HD.out, ?_⟩⟩
    refine ⟨_, res_cellC rfl ?_, _, rfl, HO.out, HBw.out.trans (HK.out.below (by have := HBw.out.size; omega) (fun k e => by omega)), fun e => absurd e HNe.out⟩
    exact (World.cell?_of_block (a := ⟨w.heap.size + 1, 0, none⟩) (World.putObj_heap_other (by show w.heap.size + 1 ≠ w5.heap.size; omega))).trans HC.out

end Go.Proofs.YtcgiicmmfleinaaGreatDoor
