/- The program's steps: an iterator that tells the edges by which nodes are come to, in order. -/
import Derived.Test.YtepaflofbcokaaaDoorWpM
import Derived.Test.YtepaflofbcokaaaDoorSgA
import Derived.Test.YtepaflofbcokaaaDoorRgM
import Derived.Sort.LoopGhostIn
import Derived.Sort.QuietIn
namespace Go.Proofs.YtepaflofbcokaaaDoor
open Go.RowKit NumMath Go.ChangeShapes Go.WideShapes Go.Deep
set_option linter.unusedVariables false
set_option maxRecDepth 100000

attribute [local go_sem] Oper.semAt_some

theorem GoodW.pe {l : List (Int × Int)} {st : WSt} (h : GoodW l st) (e : Int × Int) (he : e ∈ l) : GoodW l (pedge st e) := by
  have := h.qe e.1 e he
  unfold qedge at this
  rwa [if_pos rfl] at this

theorem pedge_met {st : WSt} {e : Int × Int} (h : metW st.1 e.2 = true) : pedge st e = st := by unfold pedge; rw [if_pos h]

theorem pedge_new {st : WSt} {e : Int × Int} (h : metW st.1 e.2 = false) : pedge st e = (st.1 ++ [(e.2, e.1)], st.2 ++ [e.2]) := by unfold pedge; rw [if_neg (by simp [h])]

theorem pfold_drop {row : List (Int × Int)} {k : Nat} {e : Int × Int} (h : row[k]? = some e) (st : WSt) : (row.drop k).foldl pedge st = (row.drop (k + 1)).foldl pedge (pedge st e) := by
  have hk := (List.getElem?_eq_some_iff.1 h).1
  rw [List.drop_eq_getElem_cons hk, List.foldl_cons]
  have := (List.getElem?_eq_some_iff.1 h).2
  rw [this]

theorem pre_at {a b : List (Int × Int)} {s : Int × Int} (h : a ++ [s] <+: b) : b[a.length]? = some s := by
  obtain ⟨c, rfl⟩ := h
  rw [List.append_assoc, List.getElem?_append_right (Nat.le_refl _)]
  simp

theorem metW_add (out : List (Int × Int)) (s : Int × Int) (n : Int) : metW (out ++ [s]) n = (metW out n || n == s.1) := by
  have : (s.1 == n) = (n == s.1) := by
    by_cases h : s.1 = n
    · rw [h]
    · have h2 : ¬ n = s.1 := fun e => h e.symm
      rw [beq_eq_false_iff_ne.2 h, beq_eq_false_iff_ne.2 h2]
  unfold metW
  rw [List.any_append, List.any_cons, List.any_nil, Bool.or_false, this]

theorem flatU (xs : List Int) : flatY layU xs = xs.map (Value.int .u64) := by
  unfold flatY
  induction xs with
  | nil => rfl
  | cons x r ih => rw [List.flatMap_cons, ih]; rfl

/-- an append at its operation, inside a fence -/
theorem wpIn_segY {F : Fence} {nF : Nat} {ops : Array Oper} {rest : List Oper} {o : Oper} {a : Act} {Q : Exit → Act → World → Prop} {α : Type} (L : Lay α) (w : World) (hg : o.guard = none) (s x : Operand)
    (ho : o.op = .call { callee := .builtin .append, args := #[s, x], argTypes := #[L.t, L.t] }) (v : Value) (xs : List α) (hs : a.eval s = v) (h : Seg w L.k v xs.length (flatY L xs)) (sa : Option Addr) (m c : Nat) (ys : List α) (hx : a.eval x = .slice sa m c) (hB : SrcY L w sa m ys) (hbig : xs.length + ys.length ≤ 1000000000)
    (hK : ∀ v' w', Seg w' L.k v' (xs ++ ys).length (flatY L (xs ++ ys)) → Keeps (fun k => v.ownBlock = some k) w w' → AtB w v v' → wpListIn F nF Tryd.prog ops Q rest (a.put o.dst v') w') : wpListIn F nF Tryd.prog ops Q (o :: rest) a w := by
  refine wpListIn_plain hg fun K' hK' => ?_
  obtain ⟨v', w', hrun, r1, r2, r3⟩ := run_segY L w o.type v xs h sa m c ys hB hbig
  unfold Oper.wpIn
  refine ⟨by simp [Oper.about, ho, resolve, Target.leads, Sem.run_pure], ?_⟩
  rw [Oper.semAt_plain F _ _ (by rw [ho]; intro c hc'; cases hc')]
  simp [execOp, ho, resolve, invoke, builtin, hs, hx, hrun, Result.andThen]
  exact hK' _ _ (hK v' w' r1 r2 r3)

/-- the iterator's state: come at B, the queue, what the consumer has -/
structure StepAt (B : Nat) (I : Nat → (Nat → Prop) → World → Prop) (W : World) (l : List (Int × Int)) (i : Nat) (st : WSt) (v : Value) (S : Nat → Prop) (wr : World) : Prop where
  set : SetU wr B st.1.length (metW st.1)
  q : Seg wr 1 v (st.2.drop i).length (flatY layU (st.2.drop i))
  own : ∀ g, v.ownBlock = some g → B + 1 ≤ g ∧ ¬ S g
  inv : I st.1.length S wr
  nb : ¬ S B
  ss : ∀ k, S k → k < wr.heap.size
  kp : Keeps (fun k => k < B) W wr
  good : GoodW l st
  u : ∀ x ∈ st.2, U64 x
  sz : B + 1 ≤ wr.heap.size

theorem StepAt.move {B : Nat} {I : Nat → (Nat → Prop) → World → Prop} {W : World} {l : List (Int × Int)} {i : Nat} {st : WSt} {v : Value} {S : Nat → Prop} {wr w' : World} (h : StepAt B I W l i st v S wr) (hI : ∀ j S W W', I j S W → Keeps (fun k => ¬ S k) W W' → I j S W') (hb : Below wr.heap.size wr w') : StepAt B I W l i st v S w' :=
  ⟨h.set.same (hb.block _ h.set.lt), h.q.keep hb, h.own, hI _ _ _ _ h.inv (Below.keeps hb _), h.nb, fun k hk => Nat.lt_of_lt_of_le (h.ss k hk) hb.size, kp_then h.kp (fun k hk _ => hk) (Below.keeps hb _), h.good, h.u, Nat.le_trans h.sz hb.size⟩

theorem kpWide {X X' : Nat → Prop} {w w' : World} (h : Keeps X w w') (hx : ∀ k, X k → X' k) : Keeps X' w w' := ⟨h.os, h.tape, h.output, h.size, fun k hk hn => h.block k hk (fun e => hn (hx k e))⟩

theorem mem_rowsE {d : List (Int × Int)} {q : Int} {e : Int × Int} (h : e ∈ rowsE d q) : e ∈ d ∧ e.1 = q := by
  unfold rowsE at h
  have := List.mem_filter.1 h
  exact ⟨this.1, by simpa using this.2⟩

set_option maxHeartbeats 4000000 in
theorem stepsJ (Bf Bw base mb z : Nat) (f : Lit → Option Value) (l : List (Int × Int)) (fr : Int) (hfr : U64 fr) (hU : ∀ e ∈ l, U64 e.1 ∧ U64 e.2) (hl : l.length ≤ 100000) :
    SeqJ 1 94 #[.pointer (some ⟨Bf, 0, none⟩), .pointer (some ⟨Bw, 0, none⟩)] (fun x v _ => v = #[.agg #[.int .u64 x.2, .int .u64 x.1]]) (walkW l fr) (fun W => W.cell? ⟨Bf, 0, none⟩ = some (.int .u64 fr) ∧ W.cell? ⟨Bw, 0, none⟩ = some (.map (some mb)) ∧ RowsW W base mb z f (ddL l)) := by
  intro n hn y I Ix W hI hIx hR hY h0
  refine callsIn_of_wp Tryd.func94 rfl trivial ?_ rfl
  simp only [Tryd.ntmps94, List.size_toArray, List.length_cons, List.length_nil, Nat.reduceAdd, Nat.reduceSub, Array.replicate_succ, Array.replicate_zero, List.push_toArray, List.append_toArray, List.nil_append, List.cons_append]
  have hmm := @run_makeMap Tryd.prog
  have hc0 := (hR 0 _ _ (hI 0 _ W (W.alloc (.map #[] 0)) h0 (Below.keeps (new_below _ _) _))).1
  have HI := hide hI
  have HIx := hide hIx
  have HR := hide hR
  have HY := hide hY
  have HH0 := hide h0
  clear hI hIx hR hY h0
  gi_wp2
  gi_loopg [5] (l.length + 2) (fun gk v wr => ∃ (i : Nat) (st : WSt) (S : Nat → Prop), gk = l.length + 2 - i ∧ StepAt W.heap.size I W l i st v S wr ∧ (pit (ddL l) (l.length + 2 - i) i st).1 = walkW l fr)
  case atStart =>
    refine ⟨0, ([], [fr]), fun k => k < W.heap.size, rfl, ?_, pit_walk l fr⟩
    have hb : Below W.heap.size W ((W.alloc (.map #[] 0)).alloc (.cells #[.int .u64 fr] 28)) := ((Below.refl _ W).alloc (Nat.le_refl _) _).alloc (by simp) _
    refine ⟨(setU_new W _ rfl W.heap.size rfl).same ((new_below _ _).block _ (by simp)), ?_, ?_, HI.out 0 _ _ _ HH0.out (Below.keeps hb _), by omega, fun k hk => by simp; omega, Below.keeps hb _, goodW_new l fr, by simpa using hfr, by simp⟩
    · have h1 := ownY_one (L := layU) (W.alloc (.map #[] 0)) 0 #[.int .u64 fr] fr (Nat.zero_le _) rfl
      rw [World.size_alloc] at h1
      exact seg_of_row h1
    · intro g hg; cases hg; simp
  case round =>
    obtain ⟨i, st, S, rfl, hS, hF⟩ := hrel
    obtain ⟨qa, qc, rfl, hqc1, hqc2⟩ := hS.q.form
    have HS := hide hS
    have HF := hide hF
    have hqm : (qc : Int) ≤ 9223372036854775807 := by unfold maxLen at hqc2; omega
    have hql := hS.good.qle
    by_cases hi : i < st.2.length
    · have hdi : st.2.drop i = st.2.getD i 0 :: st.2.drop (i + 1) := by
        rw [List.drop_eq_getElem_cons hi, List.getD_eq_getElem?_getD, List.getElem?_eq_getElem hi]; rfl
      have hqm0 : U64 (st.2.getD i 0) := hS.u _ (List.mem_of_getElem? (getD_of hi))
      have HF1 : Hid ((pit (ddL l) (l.length + 2 - (i + 1)) (i + 1) ((rowsE (ddL l) (st.2.getD i 0)).foldl pedge st)).1 = walkW l fr) := by
        have h1 := hF
        obtain ⟨g, hg⟩ : ∃ g, l.length + 2 - i = g + 1 := ⟨l.length + 2 - i - 1, by omega⟩
        rw [hg, pit, if_pos hi] at h1
        rw [show l.length + 2 - (i + 1) = g by omega]
        exact h1
      have HGq : Hid (st.2[i]? = some (st.2.getD i 0)) := getD_of hi
      have hnl : (st.2.drop i).length = (st.2.length - i - 1) + 1 := by rw [List.length_drop]; omega
      generalize st.2.getD i 0 = q at *
      have HQ := hide hqm0
      obtain ⟨R1, R2, R3⟩ := HR.out _ _ _ hS.inv
      obtain ⟨g0, off0, rfl, hg0, hcell, -⟩ := hS.q.at (by omega)
      have e0 : wr.cell? ⟨g0, off0, none⟩ = some (.int .u64 q) := by
        have := hcell 0 (.int .u64 q) (by rw [hdi]; rfl)
        simpa using this
      obtain ⟨ra, rn, rc, hrv⟩ := (R3.row q hqm0).any3
      have hrl := (R3.row q hqm0)
      rw [hrv] at hrl
      have HRl := hide hrl.len
      have HRv := hide hrv
      have q0 := fun nd => ((below_drewN (Below.refl _ wr) nd).cell (p := ⟨g0, off0, none⟩) hg0).trans e0
      have q1 : ∀ nd, (wr.drewN nd).cell? ⟨Bw, 0, none⟩ = some (.map (some mb)) := fun nd => R2
      have q2 : ∀ nd, (Instr.lookup 133 (.map (some mb)) (.int .u64 q) false).run Tryd.prog (wr.drewN nd) = .ok (.slice ra rn rc) (wr.drewN nd) := fun nd => by
        have := R3.map.look keyedU Tryd.underlying133 zeroR (keyU HQ.out) (wr.drewN nd) rfl
        rw [HRv.out] at this
        exact this
      have hpos : (0 : Int) < ((st.2.drop i).length : Int) := by omega
      have hpos2 : ((st.2.drop i).length : Int) ≠ 0 := by omega
      obtain ⟨nq0, hnq0⟩ : ∃ m, m = (st.2.drop i).length := ⟨_, rfl⟩
      rw [← hnq0] at hpos hpos2 hqc1 ⊢
      have hposN : 0 < nq0 := by omega
      have hdec : decide (0 < nq0) = true := decide_eq_true hposN
      have HNq := hide hnq0
      clear hF hS R1 R2 R3 hrv hrl hcell hdi hnl hqm0 hnq0
      gi_wp2
      gi_quiet (fail)
      gi_wp2
      (try rw [hdec])
      obtain ⟨wo, hwo⟩ : ∃ wo, wo = wr.drewN nq := ⟨_, rfl⟩
      rw [← hwo]
      have HSo := hide (HS.out.move HI.out (show Below wr.heap.size wr wo by rw [hwo]; exact below_drewN (Below.refl _ wr) nq))
      clear q0 q1 q2 hwo HS HF e0
      gi_loopg [5, 24] rn (fun gk v i2 wx => ∃ (k : Nat) (sj : WSt) (S : Nat → Prop), gk = rn - k ∧ i2 = .int .i64 k ∧ k ≤ rn ∧ StepAt W.heap.size I W l i sj v S wx ∧ (pit (ddL l) (l.length + 2 - (i + 1)) (i + 1) (((rowsE (ddL l) q).drop k).foldl pedge sj)).1 = walkW l fr ∧ i < sj.2.length)
      case atStart => exact ⟨0, st, S, rfl, rfl, Nat.zero_le _, by rw [HNq.out] at *; exact HSo.out, HF1.out, hi⟩
      case round =>
        clear HSo hpos hpos2 hposN hdec hqc1 hqc2 hqm HNq HF1 hql
        clear S
        obtain ⟨k, sj, S, rfl, rfl, hk, hS, hF, hij⟩ := hrel
        obtain ⟨qa, qc, rfl, hqc1, hqc2⟩ := hS.q.form
        have hqm : (qc : Int) ≤ 9223372036854775807 := by unfold maxLen at hqc2; omega
        have HS := hide hS
        have HF := hide hF
        have hrm : (rn : Int) ≤ 9223372036854775807 := by have := HRl.out.2; unfold maxLen at this; omega
        by_cases hkr : k < rn
        · have hkr' : (k : Int) < (rn : Int) := by omega
          obtain ⟨R1, R2, R3⟩ := HR.out _ _ _ hS.inv
          have hrl := R3.row q HQ.out
          rw [HRv.out] at hrl
          obtain ⟨x, y', hxy⟩ := pair_at (l := rowsE (ddL l) q) (j := k) (by have := HRl.out.1; omega)
          obtain ⟨hmd, hxq⟩ := mem_rowsE (List.mem_of_getElem? hxy)
          have hml := mem_ddL.1 hmd
          have hxq : x = q := hxq
          subst hxq
          obtain ⟨-, hUy⟩ := hU _ hml
          have hUy : U64 y' := hUy
          obtain ⟨g1, off1, rfl, hg1, hC1⟩ := hrl.is.at hkr
          have d := hC1 k _ hxy
          have d0 : wr.cell? ⟨g1, off1 + k * 2, none⟩ = some (.int .u64 x) := d 0 _ rfl
          have d1 : wr.cell? ⟨g1, off1 + k * 2 + 1, none⟩ = some (.int .u64 y') := d 1 _ rfl
          have HFd := hide (pfold_drop hxy sj)
          obtain ⟨W1, hW1⟩ : ∃ W1, W1 = wr.alloc (.cells #[.int .u64 x, .int .u64 y'] 137) := ⟨_, rfl⟩
          have hb1 : Below wr.heap.size wr W1 := by rw [hW1]; exact new_below _ _
          have hs1 : W1.heap.size = wr.heap.size + 1 := by rw [hW1]; simp
          have hlk := hS.set.look hUy W1 (hb1.block _ hS.set.lt)
          rw [hW1] at hlk
          have HUy := hide hUy
          have HMl := hide hml
          obtain ⟨nj, hnj⟩ : ∃ m, m = (sj.2.drop i).length := ⟨_, rfl⟩
          rw [← hnj] at hqc1 ⊢
          have HNj := hide hnj
          clear hF hS R1 R2 R3 hrl hC1 d hxy hmd hml hUy hnj
          cases hin : metW sj.1 y' with
          | true =>
            rw [hin] at hlk
            have HIn := hide hin
            clear hin hW1 hb1 hs1
            gi_wp2
            gi_roundg (rn - (k + 1))
            case measure => omega
            case rel =>
              have hb2 := (new_below wr (.cells #[.int .u64 x, .int .u64 y'] 137)).trans ((new_below _ (.cells #[] 148)).mono (by simp))
              refine ⟨k + 1, sj, S, rfl, by go_num, by omega, ?_, ?_, hij⟩
              · rw [HNj.out]; exact HS.out.move HI.out hb2
              · rw [← HF.out, HFd.out, pedge_met HIn.out]
          | false =>
            rw [hin] at hlk
            have HIn := hide hin
            clear hin
            have hle := HS.out.good.le
            obtain ⟨W2, hW2⟩ : ∃ W2, W2 = W1.alloc (.cells #[] 148) := ⟨_, rfl⟩
            have hb2 : Below W1.heap.size W1 W2 := by rw [hW2]; exact new_below _ _
            have hb12 := hb1.trans (hb2.mono hb1.size)
            have hs2 : W2.heap.size = wr.heap.size + 2 := by rw [hW2, World.size_alloc, hs1]
            obtain ⟨w3, hup, hset3, hg3⟩ := (HS.out.set.same (hb12.block _ HS.out.set.lt)).put (by omega) HUy.out
            have hs3 := hg3.size
            have hc2 : W2.rangeAt wr.heap.size 0 [.int .u64 x, .int .u64 y'] := by
              have := rangeY_new wr wr.heap.size #[.int .u64 x, .int .u64 y'] 137 rfl
              rw [← hW1] at this
              exact rangeY_same this (hb2.block _ (by omega))
            have hwB := HS.out.sz
            have hc3 := rangeY_same hc2 (hg3.block wr.heap.size (by omega) (fun e => by have := Option.some.inj e; omega))
            have c31 : w3.cell? ⟨wr.heap.size, 1, none⟩ = some (.int .u64 y') := hc3 1 _ rfl
            have hqB : ∀ g, (Value.slice qa nj qc).ownBlock = some g → W.heap.size + 1 ≤ g ∧ g < wr.heap.size ∧ ¬ S g := fun g hg => by
              rw [HNj.out] at hg
              exact ⟨(HS.out.own g hg).1, HS.out.q.lt g hg, (HS.out.own g hg).2⟩
            have hq3 : Seg w3 1 (.slice qa nj qc) (sj.2.drop i).length (flatY layU (sj.2.drop i)) := by
              have h1 := HS.out.q
              rw [← HNj.out] at h1
              have h2 := h1.same (w' := w3) (fun g hg => (hg3.block g (by have := (hqB g hg).2.1; omega) (fun e => by have := Option.some.inj e; have := (hqB g hg).1; omega)).trans (hb12.block g (hqB g hg).2.1))
              rw [← HNj.out]; exact h2
            have hkp3 : Keeps (fun k => k = W.heap.size) wr w3 := kp_then (Below.keeps hb12 _) (X' := fun k => k = W.heap.size) (fun k e _ => e) ⟨hg3.os, hg3.tape, hg3.output, hg3.size, fun k hk hn => hg3.block k hk (fun e => hn (Option.some.inj e))⟩
            obtain ⟨w4, hw4⟩ : ∃ w4, w4 = w3.alloc (.cells #[.int .u64 y'] 28) := ⟨_, rfl⟩
            have hb4 : Below w3.heap.size w3 w4 := by rw [hw4]; exact new_below _ _
            have hs4 : w4.heap.size = w3.heap.size + 1 := by rw [hw4]; simp
            have HQ4 : Hid (Seg (w3.alloc (.cells #[.int .u64 y'] 28)) 1 (.slice qa nj qc) (sj.2.drop i).length (flatY layU (sj.2.drop i))) := by rw [← hw4]; exact hq3.keep hb4
            have HSr4 : Hid (SrcY layU (w3.alloc (.cells #[.int .u64 y'] 28)) (some ⟨w3.heap.size, 0, none⟩) 1 [y']) := (ownY_one (L := layU) w3 0 #[.int .u64 y'] y' (Nat.zero_le _) rfl).is.src
            have HBig : Hid ((sj.2.drop i).length + [y'].length ≤ 1000000000) := by
              show _ ≤ _
              have := HS.out.good.qle
              rw [List.length_drop]; simp; omega
            have HGet : Hid ((walkW l fr)[sj.1.length]? = some (y', x)) := by
              refine pre_at ?_
              rw [← HF.out, HFd.out]
              refine List.IsPrefix.trans ?_ ((pfold_pre _ _).trans (pit_pre _ _ _ _))
              rw [pedge_new HIn.out]
              exact List.prefix_refl _
            have HC3 := hide hc3
            have HSt3 := hide hset3
            have HKp3 := hide hkp3
            have HQB := hide hqB
            have HS34 := hide (And.intro hs2 (And.intro hs3 (And.intro hs4 hwB)))
            have HB4 := hide hb4
            rw [hW2, hW1] at hup
            clear hset3 hg3 hc2 hc3 hb12 hb2 hb1 hs1 hs2 hs3 hkp3 hqB hq3 hW1 hW2 hle hs4 hb4
            gi_wp2_with (first
              | (gi_at_builtin; go_must (refine wpIn_segY layU _ rfl (.tmp 40) (.tmp 43) rfl (.slice qa nj qc) (sj.2.drop i) rfl HQ4.out (some ⟨w3.heap.size, 0, none⟩) 1 1 [y'] rfl HSr4.out HBig.out ?_); intro v5 w5 hq5 hk5 hat5; obtain ⟨m5, hm5⟩ : ∃ m, m = (sj.2.drop i ++ [y']).length := ⟨_, rfl⟩; rw [← hm5] at hq5; have HM5 := hide hm5; clear hm5; obtain ⟨xa, xc, rfl, hx1, hx2⟩ := hq5.form; rw [← hw4] at hk5 hat5; obtain ⟨hs2, hs3, hs4, hwB⟩ := HS34.out; have hc5 := rangeY_same (rangeY_same HC3.out (HB4.out.block _ (by omega))) (hk5.block wr.heap.size (by omega) (fun e => by have := (HQB.out _ e).2.1; omega)); have c50 : w5.cell? ⟨wr.heap.size, 0, none⟩ = some (.int .u64 x) := hc5 0 _ rfl; have c51 : w5.cell? ⟨wr.heap.size, 1, none⟩ = some (.int .u64 y') := hc5 1 _ rfl; have HQ5 := hide hq5; have HK5 := hide hk5; have HAt5 := hide hat5; have HS5 := hide hk5.size; have hkB : Keeps (fun k => ¬ S k) wr w5 := (kp_then (kp_then (kpWide HKp3.out (fun k (e : k = W.heap.size) => e ▸ HS.out.nb)) (X' := fun _ => False) (fun k e _ => e.elim) (Below.keeps HB4.out _)) (X' := fun k => (Value.slice qa nj qc).ownBlock = some k) (fun k e _ => (HQB.out k e).2.2) hk5); have HKB := hide hkB; obtain ⟨fn, tmps, assign, body, hy, hRd⟩ := HY.out sj.1.length (y', x) #[.agg #[.int .u64 x, .int .u64 y']] S w5 HGet.out (HI.out _ _ _ _ HS.out.inv hkB) rfl (fun k hk => Nat.lt_of_lt_of_le (HS.out.ss k hk) hkB.size); clear hkB hq5 hk5 hat5 hc5 hs2 hs3 hs4 hwB))
            refine hRd.mono ?_
            rintro e W6 ⟨hk6, S', hS', hSs, (⟨rfl, hJ6⟩ | ⟨rfl, hJ6⟩)⟩
            · have HK6 := hide hk6
              have HSp := hide hS'
              have HSs := hide hSs
              clear hk6 hRd hy hS' hSs
              gi_wp2
              gi_roundg (rn - (k + 1))
              case measure => omega
              case rel =>
                obtain ⟨hs2, hs3, hs4, hwB⟩ := HS34.out
                have hs5 := HS5.out
                have hs6 := HK6.out.size
                have hm5 := HM5.out
                have hB : W6.heap[W.heap.size]? = w3.heap[W.heap.size]? := (HK6.out.block W.heap.size (by omega) HS.out.nb).trans ((HK5.out.block W.heap.size (by omega) (fun e => by have := (HQB.out _ e).1; omega)).trans (HB4.out.block _ (by omega)))
                have hd : (sj.2 ++ [y']).drop i = sj.2.drop i ++ [y'] := List.drop_append_of_le_length (by omega)
                have hown5 : ∀ g, (Value.slice xa m5 xc).ownBlock = some g → W.heap.size + 1 ≤ g ∧ g < w5.heap.size ∧ ¬ S g := fun g hg => by
                  have hlt := HQ5.out.lt g hg
                  rcases HAt5.out with e | ⟨g2, e, hg2⟩
                  · rw [e] at hg; exact ⟨(HQB.out g hg).1, hlt, (HQB.out g hg).2.2⟩
                  · rw [e] at hg; have := Option.some.inj hg; exact ⟨by omega, hlt, fun h => by have := HS.out.ss g h; omega⟩
                have hnew : ∀ k, k < w5.heap.size → ¬ S k → ¬ S' k := fun k hk hn h => by
                  rcases HSp.out k h with h | h
                  · exact hn h
                  · omega
                refine ⟨k + 1, pedge sj (x, y'), S', rfl, by go_num, by omega, ?_, by rw [← HF.out, HFd.out], ?_⟩
                · rw [pedge_new HIn.out]
                  refine ⟨?_, ?_, fun g hg => ⟨(hown5 g hg).1, hnew g (hown5 g hg).2.1 (hown5 g hg).2.2⟩, ?_, hnew _ (by omega) HS.out.nb, HSs.out, ?_, ?_, ?_, by omega⟩
                  · rw [List.length_append]
                    exact (HSt3.out.same hB).like (Nat.le_refl _) (fun p => metW_add _ _ _)
                  · dsimp only
                    rw [hd, ← hm5]
                    exact HQ5.out.same (fun g hg => HK6.out.block g (hown5 g hg).2.1 (hown5 g hg).2.2)
                  · rw [List.length_append]; exact hJ6
                  · exact kp_then (kp_then HS.out.kp (X' := fun k => ¬ S k) (fun k _ h => h) HKB.out) (X' := S) (fun k _ h => h) HK6.out
                  · have := HS.out.good.pe (x, y') HMl.out
                    rw [pedge_new HIn.out] at this
                    exact this
                  · intro u hu
                    rcases List.mem_append.1 hu with h | h
                    · exact HS.out.u u h
                    · rw [List.mem_singleton.1 h]; exact HUy.out
                · rw [pedge_new HIn.out]; dsimp only; rw [List.length_append]; omega
            · have HK6 := hide hk6
              have HSs := hide hSs
              clear hk6 hRd hy hS' hSs
              gi_wp2
              refine bodyPost_ret (results_none rfl _ _ _) rfl ?_
              exact ⟨⟨_, rfl⟩, kp_then (kp_then HS.out.kp (X' := fun k => ¬ S k) (fun k _ h => h) HKB.out) (X' := S) (fun k _ h => h) HK6.out, S', HSs.out, .inr hJ6⟩
        · obtain rfl : k = rn := by omega
          have hF2 := hF
          rw [List.drop_of_length_le (by have := HRl.out.1; omega)] at hF2
          have HF2 := hide hF2
          have hdi : sj.2.drop i = sj.2.getD i 0 :: sj.2.drop (i + 1) := by
            rw [List.drop_eq_getElem_cons hij, List.getD_eq_getElem?_getD, List.getElem?_eq_getElem hij]; rfl
          have hnl : (sj.2.drop i).length = (sj.2.drop (i + 1)).length + 1 := by rw [hdi]; rfl
          have hq1 := HS.out.q
          rw [hnl, hdi] at hq1
          obtain ⟨b, c', hsl, hbk, hq2⟩ := Seg.tailY layU hq1
          have hsl2 : ∀ W, (Instr.sliceAt 27 (.slice qa ((sj.2.drop (i + 1)).length + 1) qc) (some (.int .i64 1)) none none).run Tryd.prog W = .ok (.slice b (sj.2.drop (i + 1)).length c') W := hsl
          clear hsl
          have HQ2 := hide hq2
          have HBk := hide hbk
          rw [hnl]
          generalize hnj : (sj.2.drop (i + 1)).length = nj at *
          have HNj := hide hnj
          have hql := HS.out.good.qle
          clear hF hF2 hS hq1 hq2 hbk hdi hnl hnj hqc1
          gi_wp2
          gi_roundg (l.length + 2 - (i + 1))
          case measure => omega
          case rel =>
            refine ⟨i + 1, sj, S, rfl, ⟨HS.out.set, by rw [HNj.out]; exact HQ2.out, fun g hg => ?_, HS.out.inv, HS.out.nb, HS.out.ss, HS.out.kp, HS.out.good, HS.out.u, HS.out.sz⟩, HF2.out⟩
            rw [HBk.out] at hg
            exact HS.out.own g (by rw [show (sj.2.drop i).length = nj + 1 by rw [List.length_drop]; have := HNj.out; rw [List.length_drop] at this; omega]; exact hg)
    · have hd0 : st.2.drop i = [] := List.drop_of_length_le (by omega)
      have hF2 := hF
      have hend : pit (ddL l) (l.length + 2 - i) i st = st := by
        cases l.length + 2 - i with
        | zero => rfl
        | succ g => rw [pit, if_neg hi]
      rw [hend] at hF2
      have HF2 := hide hF2
      rw [hd0]
      clear hF hF2 hS hend hd0
      gi_wp2
      go_end0
      exact ⟨⟨_, rfl⟩, HS.out.kp, S, HS.out.ss, .inl (by rw [← HF2.out]; exact HS.out.inv)⟩

end Go.Proofs.YtepaflofbcokaaaDoor
