/- What a snapshot that came makes of a log, in plain values. A log laid anew: how long its records are; the node with another log. restore. -/
import Derived.Test.YtodmieehdleohaaGreatNdB
import Derived.Test.YtodmieehdleohaaGreatBkA
import Derived.Test.YtodmieehdleohaaGreatSt1
import Derived.Test.YtodmieehdleohaaGreatErA
import Derived.Test.YtodmieehdleohaaGreatKp
import Derived.Test.YtodmieehdleohaaGreatRpD
import Derived.Great.BuildSlice
import Derived.Deep.MidRow
namespace Go.Proofs.YtodmieehdleohaaGreat
open Go.RowKit NumMath
set_option linter.unusedVariables false
set_option maxRecDepth 100000

theorem repL_app : ∀ (xs : List (List Int)) (ys : List (List Int)) (h : Int × Int) (L : LogS) (h' : Int × Int) (L' : LogS), repL h L xs = (0, h', L') → repL h L (xs ++ ys) = repL h' L' ys
  | [], ys, h, L, h', L', e => by
    rw [repL] at e
    cases e
    rfl
  | x :: r, ys, h, L, h', L', e => by
    rw [repL] at e
    rw [List.cons_append, repL]
    split at e
    · rename_i h0
      rw [if_pos h0]
      exact repL_app r ys _ _ h' L' e
    · rename_i h0
      exfalso
      rw [e] at h0
      exact h0 rfl

theorem rec_snap_or (h : Int × Int) (L : LogS) (s : Snp) (hi : 0 ≤ s.i ∧ s.i ≤ 18446744073709551615) (ht : 0 ≤ s.t ∧ s.t ≤ 18446744073709551615) (hm : ∀ x ∈ s.m, 0 ≤ x ∧ x ≤ 18446744073709551615) (h9 : s.m.length ≤ 9) (hd : s.d.length ≤ 1000000) :
    (recL h L (snapB s)).1 ≠ 0 ∨ recL h L (snapB s) = (0, h, ⟨capS ⟨s.i, s.t, setL s.m, s.d⟩, restL L ⟨s.i, s.t, setL s.m, s.d⟩, 0, false⟩) := by
  cases hM : memOf (memB s.m) with
  | some l =>
    have e := mem_back h9 hm hM
    subst e
    exact .inr (rec_snap h L s hi ht hm hd hM)
  | none =>
    left
    have q : snapB s = numL 3 ++ (numL s.i ++ (numL s.t ++ ((numL ((memB s.m).length : Int) ++ memB s.m) ++ ((numL (s.d.length : Int) ++ s.d) ++ [])))) := by simp [snapB, numsL]
    have hl := memB_length hm
    have r1 := rd_num 3 3 (numL s.i ++ (numL s.t ++ ((numL ((memB s.m).length : Int) ++ memB s.m) ++ ((numL (s.d.length : Int) ++ s.d) ++ [])))) (by decide) (by decide) (by decide)
    have r2 := rd_num s.i m64 (numL s.t ++ ((numL ((memB s.m).length : Int) ++ memB s.m) ++ ((numL (s.d.length : Int) ++ s.d) ++ []))) hi.1 hi.2 hi.2
    have r3 := rd_num s.t m64 ((numL ((memB s.m).length : Int) ++ memB s.m) ++ ((numL (s.d.length : Int) ++ s.d) ++ [])) ht.1 ht.2 ht.2
    have r4 := rd_text (memB s.m) ((numL (s.d.length : Int) ++ s.d) ++ []) (by omega)
    have hs : snapOf (some (numL s.i ++ (numL s.t ++ ((numL ((memB s.m).length : Int) ++ memB s.m) ++ ((numL (s.d.length : Int) ++ s.d) ++ []))))) = none := by
      unfold snapOf
      rw [r2]
      dsimp only
      rw [r3]
      dsimp only
      rw [r4]
      dsimp only
      rw [hM]
    unfold recL
    rw [q, r1]
    dsimp only
    rw [if_neg (by decide), if_neg (by decide), if_pos rfl, hs]
    show (30 : Int) ≠ 0
    decide

theorem mem_none9 : memOf (memB []) = some [] := by
  have e : memB [] = numL 0 ++ [] := by unfold memB; rw [show setL [] = [] from rfl]; rfl
  rw [e]
  unfold memOf
  rw [rd_num 0 9 [] (by decide) (by decide) (by decide)]
  show memEnd (some ([], some [])) = _
  exact memEnd_yes rfl

theorem setL_nil : setL [] = [] := rfl

def headS9 (L : LogS) : Snp := ⟨L.s.i, L.s.t, [], []⟩

/-- the log that comes -/
def cameL (L : LogS) (s : Snp) : LogS := ⟨capS ⟨s.i, s.t, setL s.m, s.d⟩, restL ⟨headS9 L, L.es, 0, false⟩ ⟨s.i, s.t, setL s.m, s.d⟩, 0, false⟩

theorem restL_same (L2 : LogS) (s0 : Snp) (es : List Ent) (s : Snp) (h1 : L2.s = s0) (h2 : L2.es = es) : restL L2 s = restL ⟨s0, es, 0, false⟩ s := by
  subst h1 h2
  rfl

theorem good_head {L : LogS} (hG : L.Good) : LogS.Good ⟨headS9 L, L.es, 0, false⟩ :=
  ⟨hG.i0, hG.i1, hG.t0, hG.t1, (fun c h => by cases h), Nat.zero_le _, Nat.zero_le _, hG.n, hG.at_, hG.ok, Int.le_refl _, by show (0 : Int) ≤ _; decide⟩

theorem rep_came {z : Nat} {N : Nd} (hO : N.Ok z) (s : Snp) (hi : 0 ≤ s.i ∧ s.i ≤ 18446744073709551615) (ht : 0 ≤ s.t ∧ s.t ≤ 18446744073709551615) (hm : ∀ x ∈ s.m, 0 ≤ x ∧ x ≤ 18446744073709551615) (h9 : s.m.length ≤ 9) (hd : s.d.length ≤ 1000000) (hM0 : memOf (memB []) = some []) :
    (repL (0, 0) log0 ((snapB (headS9 N.L) :: N.L.es.map entB) ++ [snapB s])).1 ≠ 0 ∨ ∃ h, repL (0, 0) log0 ((snapB (headS9 N.L) :: N.L.es.map entB) ++ [snapB s]) = (0, h, cameL N.L s) := by
  have hG := hO.good
  have h62 := hO.i62
  have hc : capI N.L.s.i = N.L.s.i := by unfold capI; rw [if_neg (by omega)]
  have r1 := rec_snap (0, 0) log0 (headS9 N.L) ⟨hG.i0, by show N.L.s.i ≤ _; omega⟩ ⟨hG.t0, hG.t1⟩ (fun x h => by cases h) (by show (0 : Nat) ≤ _; omega) hM0
  have e1 : (⟨(headS9 N.L).i, (headS9 N.L).t, setL (headS9 N.L).m, (headS9 N.L).d⟩ : Snp) = headS9 N.L := rfl
  rw [e1, rest_log0 (headS9 N.L) hG.i0] at r1
  have e2 : capS (headS9 N.L) = headS9 N.L := by show (⟨capI N.L.s.i, N.L.s.t, [], []⟩ : Snp) = _; rw [hc]; rfl
  rw [e2] at r1
  obtain ⟨L2, q1, q2, q3⟩ := rep_ents N.L.es (0, 0) ⟨headS9 N.L, [], 0, false⟩ (fun j hj => by have := hG.at_ j hj; rw [this]; show _ = N.L.s.i + ((0 : Nat) : Int) + 1 + j; omega) (fun e he => ⟨(hG.ok e he).1, Nat.le_trans (hG.ok e he).2 (by decide)⟩)
  have q0 : repL (0, 0) log0 (snapB (headS9 N.L) :: N.L.es.map entB) = (0, (0, 0), L2) := by
    rw [repL, r1]
    dsimp only
    rw [if_pos rfl]
    exact q1
  rw [repL_app _ _ _ _ _ _ q0]
  have q2' : L2.s = headS9 N.L := q2
  have q3' : L2.es = N.L.es := by rw [q3]; rfl
  rcases rec_snap_or (0, 0) L2 s hi ht hm h9 hd with h1 | h1
  · left
    rw [repL, if_neg h1]
    exact h1
  · right
    refine ⟨(0, 0), ?_⟩
    rw [repL, h1]
    dsimp only
    rw [if_pos rfl, repL, restL_same L2 _ _ _ q2' q3']
    rfl

theorem came_ok {z : Nat} {N : Nd} (hO : N.Ok z) (s : Snp) (hi : 0 ≤ s.i) (ht : 0 ≤ s.t ∧ s.t ≤ 18446744073709551615) (hm : ∀ x ∈ s.m, 0 ≤ x ∧ x ≤ 18446744073709551615) (h9 : s.m.length ≤ 9) (hd : s.d.length ≤ 100000) :
    (cameL N.L s).Good ∧ (cameL N.L s).es.length ≤ z ∧ (cameL N.L s).s.m.length ≤ 9 ∧ (cameL N.L s).s.i = capI s.i ∧ ∀ e ∈ (cameL N.L s).es, e.d.length ≤ 5000 := by
  have hG := good_head hO.good
  have hsl := set_length s.m
  have hu := good_under (L := ⟨headS9 N.L, N.L.es, 0, false⟩) (s := ⟨s.i, s.t, setL s.m, s.d⟩) hG hi ht ⟨by show (setL s.m).length ≤ 1000; omega, fun x hx => hm x ((set_mem s.m x).1 hx)⟩ hd
  refine ⟨hu.1, Nat.le_trans hu.2 hO.n, by show (setL s.m).length ≤ 9; omega, rfl, ?_⟩
  intro e he
  rcases restL_drop (L := ⟨headS9 N.L, N.L.es, 0, false⟩) (s := ⟨s.i, s.t, setL s.m, s.d⟩) hG.n with h1 | ⟨k, _, _, h1⟩
  · have he' : e ∈ restL ⟨headS9 N.L, N.L.es, 0, false⟩ ⟨s.i, s.t, setL s.m, s.d⟩ := he
    rw [h1] at he'
    cases he'
  · have he' : e ∈ restL ⟨headS9 N.L, N.L.es, 0, false⟩ ⟨s.i, s.t, setL s.m, s.d⟩ := he
    rw [h1] at he'
    exact hO.d e (List.mem_of_mem_drop he')

end Go.Proofs.YtodmieehdleohaaGreat

namespace Go.Proofs.YtodmieehdleohaaGreat
open Go.RowKit NumMath
set_option linter.unusedVariables false
set_option maxRecDepth 100000

theorem entB_len9 {e : Ent} (h : e.ok) (hd : e.d.length ≤ 5000) : (entB e).length ≤ 20000 := by
  have h1 := numsL_length [2, e.i, e.t] (by
    intro x hx
    simp only [List.mem_cons, List.not_mem_nil, or_false] at hx
    rcases hx with rfl | rfl | rfl
    · decide
    · exact h.1
    · exact h.2.1)
  have hz := zigV_range e.k h.2.2.1 h.2.2.2
  have h2 := numL_length (zigV e.k) hz.1 hz.2
  have h3 := numL_length (e.d.length : Int) (by omega) (by omega)
  unfold entB
  simp only [List.length_append, List.length_cons, List.length_nil] at *
  omega

theorem snapB_len9 {s : Snp} (hi : 0 ≤ s.i ∧ s.i ≤ 18446744073709551615) (ht : 0 ≤ s.t ∧ s.t ≤ 18446744073709551615) (hm : ∀ x ∈ s.m, 0 ≤ x ∧ x ≤ 18446744073709551615) (hd : s.d.length ≤ 5000) : (snapB s).length ≤ 20000 := by
  have h1 := numsL_length [3, s.i, s.t] (by
    intro x hx
    simp only [List.mem_cons, List.not_mem_nil, or_false] at hx
    rcases hx with rfl | rfl | rfl
    · decide
    · exact hi
    · exact ht)
  have hl := memB_length hm
  have h2 := numL_length ((memB s.m).length : Int) (by omega) (by omega)
  have h3 := numL_length (s.d.length : Int) (by omega) (by omega)
  unfold snapB
  simp only [List.length_append, List.length_cons, List.length_nil] at *
  omega

/-- all entries of a log -/
theorem entsL_all9 {L : LogS} (hG : L.Good) : entsL L (L.s.i + 1) 9223372036854775807 = L.es := by
  have hn := hG.n
  cases he : L.es with
  | nil =>
    have h0 : L.es.length = 0 := by rw [he]; rfl
    exact entsL_no (.inr (.inl (by omega)))
  | cons x r =>
    have hl : 1 ≤ L.es.length := by rw [he]; simp
    rw [entsL_yes (by omega), ← he, Int.sub_self]
    show (L.es.drop 0).take _ = _
    rw [List.drop_zero, List.take_of_length_le (by omega)]

/-- .. put there once more -/
theorem appL_same {L : LogS} (hG : L.Good) : (appL L L.es).2.s = L.s ∧ (appL L L.es).2.es = L.es := by
  refine ⟨appL_s _ _, ?_⟩
  by_cases h0 : L.es = []
  · rw [h0]
    have : appL L [] = (0, L) := appL_nil L
    rw [this]
    exact h0
  · by_cases hf : Fits L L.es
    · rw [appL_yes h0 hf]
      have hl : 0 < L.es.length := List.length_pos_iff.2 h0
      have h1 := hG.at_ 0 hl
      dsimp only
      rw [h1]
      have : (L.s.i + 1 + ((0 : Nat) : Int) - (L.s.i + 1)).toNat = 0 := by omega
      rw [this]
      rfl
    · rw [appL_no h0 hf]

theorem IsN.relog {X Y : Nat → Prop} {w : World} {base b0 p z : Nat} {N : Nd} {q : Nat} {va ga : Option Nat} {out : Value} (h : IsN X w base p z N q va ga out) (hX : ∀ k, X k → k < b0) (hbb : base ≤ b0) (q2 : Nat) (L2 : LogS) (hL : IsL Y w b0 q2 L2) (hY : ∀ k, k < b0 → Y k) :
    IsN (fun k => X k ∨ SB 4 w q2 k) (w.setCell ⟨p, 3, none⟩ (.pointer (some ⟨q2, 0, none⟩))) base p z { N with L := L2 } q2 va ga out := by
  have hk : Keeps (fun k => k = p) w (w.setCell ⟨p, 3, none⟩ (.pointer (some ⟨q2, 0, none⟩))) := keeps_cell _
  have hp := h.at.2
  have hpb := hX p h.xp
  have hq : ∀ k, SB 4 w q2 k → b0 ≤ k := fun k hk => (hL.lt hk).2.1
  have hqp : ∀ k, SB 4 w q2 k → k ≠ p := fun k hk e => by have := hq k hk; omega
  have e : ∀ k, k ≠ p → (w.setCell ⟨p, 3, none⟩ (.pointer (some ⟨q2, 0, none⟩))).heap[k]? = w.heap[k]? := fun k hn => Below.heap_setCell w ⟨p, 3, none⟩ _ k hn
  have hsz : (w.setCell ⟨p, 3, none⟩ (.pointer (some ⟨q2, 0, none⟩))).heap.size = w.heap.size := by simp [World.setCell]
  have hsm : ∀ k, SB 4 (w.setCell ⟨p, 3, none⟩ (.pointer (some ⟨q2, 0, none⟩))) q2 k → SB 4 w q2 k := fun k hs => hs.same (e q2 (hqp q2 SB.at))
  refine ⟨?_, fun j => by simp [h.fz], .inl h.xp, ?_, ?_, ?_, h.hv, h.hg, ?_, ?_, h.ne, ?_, ?_⟩
  · intro j hj
    have hs : (N.cells q va ga out).set 3 (.pointer (some ⟨q2, 0, none⟩)) = ({ N with L := L2 } : Nd).cells q2 va ga out := rfl
    rw [← hs, List.getElem?_set]
    by_cases hij : 3 = j
    · subst hij
      rw [if_pos rfl, if_pos (by simp [Nd.cells])]
      exact World.cell?_setCell_same _ _ _ (h.cell 3 (by decide))
    · rw [if_neg hij]
      exact (cell_set_off _ _ _ _ _ hij).trans (h.cell j hj)
  · intro k hk
    rw [hsz]
    rcases hk with hk | hk
    · exact h.rng k hk
    · exact ⟨Nat.le_trans hbb (hq k hk), (hL.lt hk).1⟩
  · refine ((hL.more (Y := fun k => X k ∨ SB 4 w q2 k) (fun k hk => ?_) (fun k hk => .inr hk)).lies hk (fun k e => .inl (e ▸ h.xp)) hqp).mono hbb
    rcases hk with hk | hk
    · exact .inl (hY k (hX k hk))
    · exact .inl (hL.lt hk).2.2
  · intro hs
    exact hqp p (hsm p hs) rfl
  · intro b hb
    have := h.vm b hb
    exact ⟨.inl this.1, mapU_same this.2 (e b (h.vne hb).1)⟩
  · intro b hb
    have := h.gm b hb
    exact ⟨.inl this.1, mapP_same this.2 (e b (h.gne hb).1)⟩
  · exact outR_same h.om (fun g hg => e g (h.ox g hg).2.1)
  · intro k hk
    have := h.ox k hk
    refine ⟨.inl this.1, this.2.1, fun hs => ?_⟩
    have h1 := hq k (hsm k hs)
    have h2 := hX k this.1
    omega

/-- what a snapshot that came leaves of the node -/
def Nd.came (N : Nd) (L : LogS) : Nd := { N with L := L, commit := L.s.i, fresh := true, restored := true }

/-- the four cells of a node that restore sets -/
theorem came_post {X Y : Nat → Prop} {w w1 : World} {base p z : Nat} {N : Nd} (h : IsNd X w base p z N) (hb : Below w.heap.size w w1) (q2 : Nat) (L2 : LogS) (hL : IsL Y w1 w.heap.size q2 L2) (hY : ∀ k, k < w.heap.size → Y k) (R : Nd → Prop) (hR : R (N.came L2)) :
    NPost X w base p z R ((((w1.setCell ⟨p, 3, none⟩ (.pointer (some ⟨q2, 0, none⟩))).setCell ⟨p, 7, none⟩ (.int .u64 L2.s.i)).setCell ⟨p, 14, none⟩ (.bool true)).setCell ⟨p, 15, none⟩ (.bool true)) := by
  obtain ⟨q, va, ga, out, h⟩ := h
  have hlt : base ≤ w.heap.size := Nat.le_trans h.at.1 (Nat.le_of_lt h.at.2)
  have h1 := (h.keep hb).relog (b0 := w.heap.size) (fun k hk => (h.rng k hk).2) hlt q2 L2 hL hY
  have h2 := h1.set 7 (.int .u64 L2.s.i) { N with L := L2, commit := L2.s.i } (by decide) rfl rfl rfl rfl
  have h3 := h2.set 14 (.bool true) { N with L := L2, commit := L2.s.i, fresh := true } (by decide) rfl rfl rfl rfl
  have h4 := h3.set 15 (.bool true) (N.came L2) (by decide) rfl rfl rfl rfl
  refine ⟨_, _, h4.any, hR, ((((Below.keeps hb X).thenSet h.xp _).thenSet h.xp _).thenSet h.xp _).thenSet h.xp _, ?_⟩
  intro k hk
  rcases hk with hk | hk
  · exact .inl hk
  · exact .inr (hL.lt hk).2.1

theorem fwd_came {z : Nat} {N : Nd} {L2 L3 : LogS} (hO : N.Ok z) (h1 : L2.s = L3.s) (h2 : L2.es = L3.es) (hG : L2.Good) (hn : L3.es.length ≤ z) (hm : L3.s.m.length ≤ 9) (hc : N.commit < L3.s.i) (hl : N.L.s.i ≤ N.commit) (hi : L3.s.i ≤ 4611686018427387904) (hd : ∀ e ∈ L3.es, e.d.length ≤ 5000) : Fwd z N (N.came L2) := by
  rw [← h1] at hm hc hi
  rw [← h2] at hn hd
  refine ⟨⟨rfl, Int.le_refl _, by show N.commit ≤ L2.s.i; omega, fun _ _ => rfl, by show N.L.s.i ≤ L2.s.i; omega, ?_, fun _ => Int.le_refl _⟩, ⟨hG, hn, hm, hi, hd, hO.r1, hO.r2, hO.id, hO.term, hO.vote, hO.leader, hO.ticks, ⟨hG.i0, by show L2.s.i ≤ _; omega⟩, hO.given⟩⟩
  intro e he h3 h4
  have h5 : L2.s.i < e.i := h4
  omega

end Go.Proofs.YtodmieehdleohaaGreat

namespace Go.Proofs.YtodmieehdleohaaGreat
open Go.RowKit NumMath
set_option linter.unusedVariables false
set_option maxRecDepth 100000

theorem ownN_one9 {w w3 : World} {base : Nat} {a : Option Addr} {n c : Nat} {t : List Int} (hI : IsBytes w3 a n c t) (hy : ∀ y, a = some y → base ≤ y.block) (hb : base ≤ w3.heap.size) (hW : Below w3.heap.size w3 w) (g : Nat) (hg : base ≤ g) (ty : TypeId) (hh : w.heap[g]? = some (.cells #[.slice a n c] 26)) (hne : w3.heap.size ≤ g) :
    OwnN w base (.slice (some ⟨g, 0, none⟩) 1 1) [t] := by
  have hI2 := hI.keep hW
  refine ⟨[.slice a n c], ⟨rfl, .inr ⟨g, 1, #[.slice a n c], rfl, hg, hh, Nat.le_refl _, by decide, rfl, rfl⟩⟩, rfl, fun i hi => ?_⟩
  have e : i = 0 := by simpa using hi
  subst e
  refine ⟨_, rfl, a, n, c, rfl, hI2, ?_⟩
  rcases hI.2.2.2.2 with h0 | ⟨g', off, h1, h2, h3⟩
  · exact .inl h0
  · refine .inr (fun y e => ?_)
    have := hy y e
    rw [h1] at e
    cases e
    refine ⟨?_, this⟩
    intro e
    cases e
    have : g < w3.heap.size := h2
    omega

theorem infoHard : (Tryz.prog.info? 24).map (fun i => (i.zero, i.size, i.bytes)) = some (some (.agg #[.int .u64 0, .int .u64 0]), 2, 16) := by kernel_rfl

theorem run_allocH (w : World) : (Instr.alloc 24 true (.tuple #[])).run Tryz.prog w = .ok (.pointer (some ⟨w.heap.size, 0, none⟩)) (w.alloc (.cells #[.int .u64 0, .int .u64 0] 24)) := by
  obtain ⟨i0, hi, hz0, -, -⟩ := info_parts infoHard
  simp [Instr.alloc, typeInfo, zeroValue, hi, hz0, go_sem]

/-- a hard state's own block is made, at a step of a drawn region -/
theorem step_allocH {ops : Array Oper} {o : Oper} {a : Act} {K : Act → World → Prop} {Q : Exit → Act → World → Prop} {E : Prop} (w : World) (hgd : Region.wanted o (yielded ops a.tmps) = true)
    (ho : o.op = .alloc 24) (h : ∀ g w', Below w.heap.size w w' → Box2 w' g (.int .u64 0) (.int .u64 0) → g = w.heap.size → g < w'.heap.size → K (a.put o.dst (.pointer (some ⟨g, 0, none⟩))) w') :
    if Region.wanted o (yielded ops a.tmps) = true then Oper.wp Tryz.prog o a w K Q else E := by
  rw [if_pos hgd]
  have hr := run_allocH w
  unfold Oper.wp execOp
  simp only [ho, Sem.run_bind, Sem.run_pure, Result.andThen_ok, hr]
  exact h _ _ (new_below w _) (box2_new w _ _ _ _ rfl) rfl (by simp)

/-- .. and set -/
theorem step_storeH {ops : Array Oper} {o : Oper} {a : Act} {K : Act → World → Prop} {Q : Exit → Act → World → Prop} {E : Prop} (w : World) (hgd : Region.wanted o (yielded ops a.tmps) = true) (x y : Operand)
    (ho : o.op = .store 24 x y) (g : Nat) (u v : Int) (hx : a.eval x = .pointer (some ⟨g, 0, none⟩)) (hy : a.eval y = .agg #[.int .u64 u, .int .u64 v]) (hb : Box2 w g (.int .u64 0) (.int .u64 0)) (h : ∀ w', Keeps (fun k => k = g) w w' → K (a.put o.dst undef) w') :
    if Region.wanted o (yielded ops a.tmps) = true then Oper.wp Tryz.prog o a w K Q else E := by
  rw [if_pos hgd]
  obtain ⟨i0, hi, -, hz1, -⟩ := info_parts infoHard
  refine wp_store_mid 24 x y ho g 0 #[.int .u64 u, .int .u64 v] hx hy ?_ (by rw [hi]; show some i0.size = _; rw [hz1]; rfl) (all_oneCell_toArray (cs := [.int .u64 u, .int .u64 v]) (by intro v hv; simp only [List.mem_cons, List.not_mem_nil, or_false] at hv; rcases hv with rfl | rfl <;> rfl)) (h _ ?_)
  · intro j hj
    have hj' : j = 0 ∨ j = 1 := by have : j < 2 := hj; omega
    rcases hj' with rfl | rfl
    · exact ⟨by rw [hb.1]; rfl, hb.2.2 _⟩
    · exact ⟨by rw [hb.2.1]; rfl, hb.2.2 _⟩
  · show Keeps (fun k => k = g) w ((w.setCell ⟨g, 0, none⟩ (.int .u64 u)).setCell ⟨g, 1, none⟩ (.int .u64 v))
    exact ((Keeps.self (fun k => k = g) w).thenSet (i := 0) rfl _).thenSet (i := 1) rfl _

/-- a slice of one text is made, at a step of a drawn region -/
theorem step_sliceT {ops : Array Oper} {o : Oper} {a : Act} {K : Act → World → Prop} {Q : Exit → Act → World → Prop} {E : Prop} (w : World) (hgd : Region.wanted o (yielded ops a.tmps) = true) (x : Operand)
    (ho : o.op = .buildSlice 66 1 #[(0, x)]) (b : Nat) (a3 : Option Addr) (n3 c3 : Nat) (t : List Int) (hx : a.eval x = .slice a3 n3 c3) (hI : IsBytes w a3 n3 c3 t) (hy : ∀ y, a3 = some y → b ≤ y.block) (hb : b ≤ w.heap.size)
    (h : ∀ g w', Below w.heap.size w w' → OwnN w' b (.slice (some ⟨g, 0, none⟩) 1 1) [t] → K (a.put o.dst (.slice (some ⟨g, 0, none⟩) 1 1)) w') :
    if Region.wanted o (yielded ops a.tmps) = true then Oper.wp Tryz.prog o a w K Q else E := by
  rw [if_pos hgd]
  have hr : (Instr.buildSlice 66 1 #[(0, .slice a3 n3 c3)]).run Tryz.prog w = .ok (.slice (some ⟨w.heap.size, 0, none⟩) 1 1) (w.alloc (.cells #[.slice a3 n3 c3] 26)) := by
    obtain ⟨i0, hi, hz0, hz1, -⟩ := info_parts infoSl
    refine run_buildSlice w 66 26 1 _ #[.slice a3 n3 c3] i0 _ Tryz.underlying66 hi hz0 (by rw [hz1]; decide) (by rw [hz1]; decide) ?_
    rw [hz1]
    exact Go.Great.fill_flat [.slice a3 n3 c3] _ (by intro v hv; rw [List.mem_singleton.1 hv]; rfl) (by simp)
  unfold Oper.wp execOp
  simp only [ho, Sem.run_bind, Sem.run_pure, Result.andThen_ok, List.map_toArray, List.map_cons, List.map_nil, hx, hr]
  exact h _ _ (new_below w _) (ownN_one hI hy hb _ rfl)

/-- the log that comes, off the elder blocks -/
def LogAt (s : Nat) (w : World) (p : Nat) (L : LogS) : Prop := ∃ Y b, IsL Y w b p L ∧ s ≤ b ∧ ∀ k, k < s → Y k

/-- .. and off g -/
def LogG (s : Nat) (w : World) (p : Nat) (L : LogS) (g : Nat) : Prop := ∃ Y b, IsL Y w b p L ∧ s ≤ b ∧ (∀ k, k < s → Y k) ∧ Y g ∧ ¬ SB 4 w p g

theorem LogAt.keep {s : Nat} {w w' : World} {p : Nat} {L : LogS} (h : LogAt s w p L) (hb : Below w.heap.size w w') : LogAt s w' p L := by
  obtain ⟨Y, b, h1, h2, h3⟩ := h
  exact ⟨Y, b, h1.keep hb, h2, h3⟩

theorem LogAt.made {s : Nat} {w w' : World} {p g : Nat} {L : LogS} (h : LogAt s w p L) (hb : Below w.heap.size w w') (hg : g = w.heap.size) : LogG s w' p L g := by
  obtain ⟨Y, b, h1, h2, h3⟩ := h
  have hat := h1.at
  have h4 : IsL (fun k => Y k ∨ k = g) w b p L := h1.more (fun k hk => by rcases hk with hk | hk; exact .inl hk; exact .inr (by omega)) (fun k hk => .inl (h1.lt hk).2.2)
  refine ⟨_, b, h4.keep hb, h2, fun k hk => .inl (h3 k hk), .inr rfl, fun hs => ?_⟩
  have := (h1.lt (hs.same (hb.block p hat))).1
  omega

theorem logAt_of {s W : Nat} {w : World} {p : Nat} {L : LogS} (h : IsL (fun k => SB 4 w p k ∨ k < W) w W p L) (hs : s ≤ W) : LogAt s w p L := ⟨_, W, h, hs, fun k hk => .inr (by omega)⟩

theorem logG_of {s W g : Nat} {w : World} {p : Nat} {L : LogS} (h : IsL (fun k => SB 4 w p k ∨ k < W) w W p L) (hs : s ≤ W) (hg : g < W) : LogG s w p L g :=
  ⟨_, W, h, hs, fun k hk => .inr (by omega), .inr hg, fun hS => by have := (h.lt hS).2.1; omega⟩

theorem LogG.set {s g : Nat} {w w' : World} {p : Nat} {L : LogS} (h : LogG s w p L g) (hk : Keeps (fun k => k = g) w w') : LogAt s w' p L := by
  obtain ⟨Y, b, h1, h2, h3, h4, h5⟩ := h
  exact ⟨Y, b, h1.lies hk (fun k e => e ▸ h4) (fun k hs e => h5 (e ▸ hs)), h2, h3⟩

theorem LogAt.c0 {s : Nat} {w : World} {p : Nat} {L : LogS} (h : LogAt s w p L) : w.cell? ⟨p, 0, none⟩ = some (.int .u64 L.s.i) := by
  obtain ⟨Y, b, ⟨_, _, _, _, _, _, _, _, _, _, c0, _⟩, _⟩ := h
  exact c0

theorem LogAt.from {s : Nat} {w : World} {p : Nat} {L : LogS} (h : LogAt s w p L) : s ≤ p := by
  obtain ⟨Y, b, h1, h2, h3⟩ := h
  exact Nat.le_trans h2 (h1.lt SB.at).2.1

theorem came_postL {X : Nat → Prop} {w w1 : World} {base p z s : Nat} {N : Nd} (h : IsNd X w base p z N) (hb : Below w.heap.size w w1) (q2 : Nat) (L2 : LogS) (hL : LogAt s w1 q2 L2) (hs : w.heap.size ≤ s) (R : Nd → Prop) (hR : R (N.came L2)) :
    NPost X w base p z R ((((w1.setCell ⟨p, 3, none⟩ (.pointer (some ⟨q2, 0, none⟩))).setCell ⟨p, 7, none⟩ (.int .u64 L2.s.i)).setCell ⟨p, 14, none⟩ (.bool true)).setCell ⟨p, 15, none⟩ (.bool true)) := by
  obtain ⟨Y, b, h1, h2, h3⟩ := hL
  exact came_post h hb q2 L2 (h1.mono (Nat.le_trans hs h2)) (fun k hk => h3 k (by omega)) R hR

theorem bel_on {w w1 w2 : World} (h : Below w.heap.size w w1) (h' : Below w1.heap.size w1 w2) : Below w.heap.size w w2 := h.trans (h'.mono h.size)

/-- what restore answers -/
def RstPost (X : Nat → Prop) (w : World) (base p z : Nat) (R : Nd → Prop) (e : Ending) (w' : World) : Prop := ∃ b : Bool, e = .returned (.bool b) ∧ NPost X w base p z R w'

end Go.Proofs.YtodmieehdleohaaGreat
