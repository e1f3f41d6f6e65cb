/- RaftCommits: where the law asks nothing; the log of a node, its entries. -/
import Derived.Test.YtodmieehdleohaaGreatRwZ
import Derived.Deep.MidRow
namespace Go.Proofs.YtodmieehdleohaaGreat
open Go.RowKit NumMath
set_option linter.unusedVariables false
set_option maxRecDepth 100000

theorem box19_msg {w : World} {g : Nat} {y : MInp} (h : Box19 w g y) : w.rangeAt g 2 y.m.vals := by
  intro j u hj
  have hj1 : j < 14 := (List.getElem?_eq_some_iff.1 hj).1
  have h1 := h (2 + j) (by omega)
  rw [Nat.zero_add] at h1
  refine h1.trans ?_
  have e : y.vals[2 + j]? = y.m.vals[j]? := by
    match j, hj1 with
    | 0, _ => rfl
    | 1, _ => rfl
    | 2, _ => rfl
    | 3, _ => rfl
    | 4, _ => rfl
    | 5, _ => rfl
    | 6, _ => rfl
    | 7, _ => rfl
    | 8, _ => rfl
    | 9, _ => rfl
    | 10, _ => rfl
    | 11, _ => rfl
    | 12, _ => rfl
    | 13, _ => rfl
  rw [e, hj]

/-- a message read whole out of an input -/
theorem wp_load14i {ops : Array Oper} {rest : List Oper} {o : Oper} {a : Act} {Q : Exit → Act → World → Prop} (w : World) (hgd : o.guard = none) (x : Operand) (ho : o.op = .load 49 x) (g : Nat) (y : MInp) (hx : a.eval x = .pointer (some ⟨g, 2, none⟩)) (hc : Box19 w g y)
    (h : wpList Tryz.prog ops Q rest (a.put o.dst (.agg #[.int .i64 y.m.k, .int .u64 y.m.fr, .int .u64 y.m.tt, .int .u64 y.m.tm, .int .u64 y.m.ix, .int .u64 y.m.lt, .int .u64 y.m.cm, .int .u64 y.m.hn, .bool y.m.rj, .slice y.m.ea y.m.en y.m.ec, .int .u64 y.m.si, .int .u64 y.m.st, .slice y.m.ma y.m.mn y.m.mc, .slice y.m.sa y.m.sn y.m.sc])) w) : wpList Tryz.prog ops Q (o :: rest) a w := by
  refine wpList_plain hgd fun K hK => ?_
  have hrun : (Instr.loadAt 49 (.pointer (some ⟨g, 2, none⟩))).run Tryz.prog w = .ok (.agg #[.int .i64 y.m.k, .int .u64 y.m.fr, .int .u64 y.m.tt, .int .u64 y.m.tm, .int .u64 y.m.ix, .int .u64 y.m.lt, .int .u64 y.m.cm, .int .u64 y.m.hn, .bool y.m.rj, .slice y.m.ea y.m.en y.m.ec, .int .u64 y.m.si, .int .u64 y.m.st, .slice y.m.ma y.m.mn y.m.mc, .slice y.m.sa y.m.sn y.m.sc]) w := run_loadAt_mid w g 2 49 y.m.vals _ (box19_msg hc) Tryz.underlying49 rfl info14
  unfold Oper.wp execOp
  simp only [ho, hx, Sem.run_bind, hrun, Sem.run_pure, Result.andThen_ok]
  exact hK _ _ h

theorem Box19.lies {M : Nat → Prop} {w w' : World} {g : Nat} {p : MInp} (h : Box19 w g p) (hk : Keeps M w w') (hg : g < w.heap.size) (hn : ¬ M g) : Box19 w' g p := CellI.same h (hk.block g hg hn)

theorem fw_votes {N N' : Nd} (h : Fw N N') : decide (N'.term < N.term) = false ∧ decide (N'.commit < N.commit) = false ∧ (((N'.term == N.term) = false) ∨ ((N'.term == N.term) = true ∧ (N.vote != 0) = false) ∨ ((N'.term == N.term) = true ∧ (N.vote != 0) = true ∧ (N'.vote != N.vote) = false)) := by
  refine ⟨decide_eq_false (by have := h.term; omega), decide_eq_false (by have := h.commit; omega), ?_⟩
  by_cases e1 : N'.term = N.term
  · by_cases e2 : N.vote = 0
    · exact .inr (.inl ⟨by simpa using e1, by simpa using e2⟩)
    · exact .inr (.inr ⟨by simpa using e1, by simpa using e2, by simpa using h.vote e1.symm e2⟩)
  · exact .inl (by simpa using e1)

def LG9 (w : World) (q : Nat) (L : LogS) : Prop := ∃ X base, IsL X w base q L

theorem LG9.keep {w w' : World} {q : Nat} {L : LogS} (h : LG9 w q L) (hb : Below w.heap.size w w') : LG9 w' q L := by
  obtain ⟨X, b, h⟩ := h
  exact ⟨X, b, h.keep hb⟩

theorem ns9_log {W w : World} {base p k : Nat} {N : Nd} (h : NS9 W w base p k N) :
    Calls Tryz.prog 31 #[.pointer (some ⟨p, 0, none⟩)] w fun e w' => ∃ q, e = .returned (.pointer (some ⟨q, 0, none⟩)) ∧ LG9 w q N.L ∧ w' = w := by
  obtain ⟨X, hX⟩ := h.ex
  refine (log_any X base p _ N w hX).mono ?_
  rintro e w' ⟨q, rfl, hL, rfl⟩
  exact ⟨q, rfl, ⟨X, base, hL⟩, rfl⟩

theorem lg9_first {w : World} {q : Nat} {L : LogS} (h : LG9 w q L) (hG : L.Good) :
    Calls Tryz.prog 33 #[.pointer (some ⟨q, 0, none⟩)] w fun e w' => e = .returned (.int .u64 (L.s.i + 1)) ∧ w' = w := by
  obtain ⟨X, b, h⟩ := h
  exact nfirst_any X b q L w h hG

theorem lg9_ents {w : World} {q : Nat} {L : LogS} (h : LG9 w q L) (hG : L.Good) (x most : Int) (hx : 0 ≤ x) (h1 : -9223372036854775808 ≤ most) (h2 : most ≤ 9223372036854775807) :
    Calls Tryz.prog 32 #[.pointer (some ⟨q, 0, none⟩), .int .u64 x, .int .i64 most] w fun e w' => OutE w (entsL L x most) e w' := by
  obtain ⟨X, b, h⟩ := h
  exact ents_any X b q L x most w h hG hx h1 h2

theorem entsL_mem9 {L : LogS} {x most : Int} {e : Ent} (h : e ∈ entsL L x most) : e ∈ L.es := by
  by_cases hc : x < L.s.i + 1 ∨ L.s.i + L.es.length < x ∨ most < 1
  · rw [entsL_no hc] at h; cases h
  · rw [entsL_yes hc] at h
    exact List.mem_of_mem_drop (List.mem_of_mem_take h)

theorem entsL_one9 {L : LogS} (hG : L.Good) {e : Ent} (h : e ∈ L.es) : entsL L e.i 1 = [e] := by
  obtain ⟨j, hj, rfl⟩ := List.getElem_of_mem h
  have hi : L.es[j].i = L.s.i + 1 + j := by
    have := hG.at_ j hj
    simpa [List.getD, List.getElem?_eq_getElem hj] using this
  rw [entsL_yes (by omega)]
  have e1 : (L.es[j].i - (L.s.i + 1)).toNat = j := by omega
  rw [e1, List.drop_eq_getElem_cons hj]
  rfl

theorem outE_is9 {w w' : World} {E : List Ent} {e : Ending} (h : OutE w E e w') (n0 : Nat) (hn : n0 ≤ w.heap.size) : ∃ b n c ms, e = .returned (.slice b n c) ∧ ms.map MEnt.e = E ∧ IsMs (fun k => k < n0) w' b n c ms ∧ (n = 0 ∨ ∀ y, b = some y → ¬ y.block < n0) ∧ Below w.heap.size w w' := by
  obtain ⟨b, n, c, ms, rfl, he, hr, hok, hb⟩ := h
  refine ⟨b, n, c, ms, rfl, he, (hr.is hok).more (Y := fun k => k < n0) (fun k hk => .inl (.inl (by omega))), .inr (fun y hy h1 => ?_), hb⟩
  have := (World.ownsRow.lt hr y.block (by rw [hy]; rfl)).1
  omega

set_option maxHeartbeats 4000000 in
theorem rq_a (a0 : Int) (t1 v1 : Int) (i2 t2 : Int) (ma2 : Option Addr) (mn2 mc2 : Nat) (m2 : List Int) (da2 : Option Addr) (dn2 dc2 : Nat) (d2 : List Int) (a3 : Option Addr) (len3 cap3 : Nat) (x3 : List MEnt) (a4 : Option Addr) (len4 cap4 : Nat) (x4 : List MInp) (w : World) (hid : U64 a0) (h1 : U64 t1 ∧ U64 v1) (h2 : IsSnap w i2 t2 ma2 mn2 mc2 m2 da2 dn2 dc2 d2) (h3 : IsMs (fun _ => False) w a3 len3 cap3 x3) (h4 : IsInps w a4 len4 cap4 x4) (gS : ¬ ((mn2 : Int) ≤ 9 ∧ (dn2 : Int) ≤ 200)) :
    Calls Tryz.prog 6 #[.int .u64 a0, .agg #[.int .u64 t1, .int .u64 v1], .agg #[.int .u64 i2, .int .u64 t2, .slice ma2 mn2 mc2, .slice da2 dn2 dc2], .slice a3 len3 cap3, .slice a4 len4 cap4] w fun e w' => e = .returned (.bool true) ∧ Below w.heap.size w w' := by
  have H2 := hide h2
  have H3 := hide h3
  have H4 := hide h4
  have HBW : Hid (Below w.heap.size w ((w.alloc (.cells #[.int .u64 t1, .int .u64 v1] 24)).alloc (.cells #[.int .u64 i2, .int .u64 t2, .slice ma2 mn2 mc2, .slice da2 dn2 dc2] 28))) := (by repeat (first | exact Below.refl _ _ | refine bel_alloc ?_ _ | refine Below.drew ?_))
  have HK : Hid (∀ W, Below ((w.alloc (.cells #[.int .u64 t1, .int .u64 v1] 24)).alloc (.cells #[.int .u64 i2, .int .u64 t2, .slice ma2 mn2 mc2, .slice da2 dn2 dc2] 28)).heap.size ((w.alloc (.cells #[.int .u64 t1, .int .u64 v1] 24)).alloc (.cells #[.int .u64 i2, .int .u64 t2, .slice ma2 mn2 mc2, .slice da2 dn2 dc2] 28)) W → W.cell? ⟨w.heap.size, 0, none⟩ = some (.int .u64 t1) ∧ W.cell? ⟨w.heap.size, 1, none⟩ = some (.int .u64 v1) ∧ W.cell? ⟨w.heap.size + 1, 0, none⟩ = some (.int .u64 i2) ∧ W.cell? ⟨w.heap.size + 1, 1, none⟩ = some (.int .u64 t2) ∧ W.cell? ⟨w.heap.size + 1, 2, none⟩ = some (.slice ma2 mn2 mc2) ∧ W.cell? ⟨w.heap.size + 1, 3, none⟩ = some (.slice da2 dn2 dc2)) := by
    intro W hW
    have hl0 : w.heap.size < ((w.alloc (.cells #[.int .u64 t1, .int .u64 v1] 24)).alloc (.cells #[.int .u64 i2, .int .u64 t2, .slice ma2 mn2 mc2, .slice da2 dn2 dc2] 28)).heap.size := by simp; omega
    have hl1 : w.heap.size + 1 < ((w.alloc (.cells #[.int .u64 t1, .int .u64 v1] 24)).alloc (.cells #[.int .u64 i2, .int .u64 t2, .slice ma2 mn2 mc2, .slice da2 dn2 dc2] 28)).heap.size := by simp
    exact ⟨(hW.cell (p := ⟨w.heap.size, 0, none⟩) hl0).trans (by simp), (hW.cell (p := ⟨w.heap.size, 1, none⟩) hl0).trans (by simp), (hW.cell (p := ⟨w.heap.size + 1, 0, none⟩) hl1).trans (by simp), (hW.cell (p := ⟨w.heap.size + 1, 1, none⟩) hl1).trans (by simp), (hW.cell (p := ⟨w.heap.size + 1, 2, none⟩) hl1).trans (by simp), (hW.cell (p := ⟨w.heap.size + 1, 3, none⟩) hl1).trans (by simp)⟩
  have hm4 : (len4 : Int) ≤ 9223372036854775807 := by have := h4.2.1; have := h4.2.2.1; unfold maxLen at this; omega
  have HLn := hide h4.1
  clear h2 h3 h4
  go_enter Tryz.func6, Tryz.ntmps6
  go_wp2_with (first
    | (go_at_call 9; go_must (refine (smallS_no i2 t2 ma2 mn2 mc2 da2 dn2 dc2 _ gS).mono ?_); rintro e wc ⟨rfl, hbc⟩; have HC := hide (HB.out.trans (hbc.mono HB.out.size)); obtain ⟨z0, z1, z2, z3, z4, z5⟩ := HK.out _ HC.out; clear hbc)
    | (go_at_call 8; go_must (refine (small9_any a4 len4 cap4 x4 _ (H4.out.keep (HBW.out.trans (HA.out.mono HBW.out.size)))).mono ?_); rintro e wb ⟨b, rfl, hsm, hbb⟩; have HB := hide (HA.out.trans (hbb.mono HA.out.size)); obtain ⟨y0, y1, y2, y3, y4, y5⟩ := HK.out _ HB.out; have HSm := hide hsm; clear hbb hsm; cases b)
    | (go_at_call 7; go_must (refine (awake9_any _).mono ?_); rintro e wa ⟨rfl, hba⟩; have HA := hide hba; clear hba))
  all_goals
    go_ret
    first
    | exact ⟨rfl, HBW.out.trans (HC.out.mono HBW.out.size)⟩
    | exact ⟨rfl, HBW.out.trans (HB.out.mono HBW.out.size)⟩

set_option maxHeartbeats 4000000 in
theorem rq_b (a0 : Int) (t1 v1 : Int) (i2 t2 : Int) (ma2 : Option Addr) (mn2 mc2 : Nat) (m2 : List Int) (da2 : Option Addr) (dn2 dc2 : Nat) (d2 : List Int) (a3 : Option Addr) (len3 cap3 : Nat) (x3 : List MEnt) (a4 : Option Addr) (len4 cap4 : Nat) (x4 : List MInp) (w : World) (hid : U64 a0) (h1 : U64 t1 ∧ U64 v1) (h2 : IsSnap w i2 t2 ma2 mn2 mc2 m2 da2 dn2 dc2 d2) (h3 : IsMs (fun _ => False) w a3 len3 cap3 x3) (h4 : IsInps w a4 len4 cap4 x4) (gS : (mn2 : Int) ≤ 9 ∧ (dn2 : Int) ≤ 200) (gE : ¬ SmallM len3 x3) :
    Calls Tryz.prog 6 #[.int .u64 a0, .agg #[.int .u64 t1, .int .u64 v1], .agg #[.int .u64 i2, .int .u64 t2, .slice ma2 mn2 mc2, .slice da2 dn2 dc2], .slice a3 len3 cap3, .slice a4 len4 cap4] w fun e w' => e = .returned (.bool true) ∧ Below w.heap.size w w' := by
  have H2 := hide h2
  have H3 := hide h3
  have H4 := hide h4
  have HBW : Hid (Below w.heap.size w ((w.alloc (.cells #[.int .u64 t1, .int .u64 v1] 24)).alloc (.cells #[.int .u64 i2, .int .u64 t2, .slice ma2 mn2 mc2, .slice da2 dn2 dc2] 28))) := (by repeat (first | exact Below.refl _ _ | refine bel_alloc ?_ _ | refine Below.drew ?_))
  have HK : Hid (∀ W, Below ((w.alloc (.cells #[.int .u64 t1, .int .u64 v1] 24)).alloc (.cells #[.int .u64 i2, .int .u64 t2, .slice ma2 mn2 mc2, .slice da2 dn2 dc2] 28)).heap.size ((w.alloc (.cells #[.int .u64 t1, .int .u64 v1] 24)).alloc (.cells #[.int .u64 i2, .int .u64 t2, .slice ma2 mn2 mc2, .slice da2 dn2 dc2] 28)) W → W.cell? ⟨w.heap.size, 0, none⟩ = some (.int .u64 t1) ∧ W.cell? ⟨w.heap.size, 1, none⟩ = some (.int .u64 v1) ∧ W.cell? ⟨w.heap.size + 1, 0, none⟩ = some (.int .u64 i2) ∧ W.cell? ⟨w.heap.size + 1, 1, none⟩ = some (.int .u64 t2) ∧ W.cell? ⟨w.heap.size + 1, 2, none⟩ = some (.slice ma2 mn2 mc2) ∧ W.cell? ⟨w.heap.size + 1, 3, none⟩ = some (.slice da2 dn2 dc2)) := by
    intro W hW
    have hl0 : w.heap.size < ((w.alloc (.cells #[.int .u64 t1, .int .u64 v1] 24)).alloc (.cells #[.int .u64 i2, .int .u64 t2, .slice ma2 mn2 mc2, .slice da2 dn2 dc2] 28)).heap.size := by simp; omega
    have hl1 : w.heap.size + 1 < ((w.alloc (.cells #[.int .u64 t1, .int .u64 v1] 24)).alloc (.cells #[.int .u64 i2, .int .u64 t2, .slice ma2 mn2 mc2, .slice da2 dn2 dc2] 28)).heap.size := by simp
    exact ⟨(hW.cell (p := ⟨w.heap.size, 0, none⟩) hl0).trans (by simp), (hW.cell (p := ⟨w.heap.size, 1, none⟩) hl0).trans (by simp), (hW.cell (p := ⟨w.heap.size + 1, 0, none⟩) hl1).trans (by simp), (hW.cell (p := ⟨w.heap.size + 1, 1, none⟩) hl1).trans (by simp), (hW.cell (p := ⟨w.heap.size + 1, 2, none⟩) hl1).trans (by simp), (hW.cell (p := ⟨w.heap.size + 1, 3, none⟩) hl1).trans (by simp)⟩
  have hm4 : (len4 : Int) ≤ 9223372036854775807 := by have := h4.2.1; have := h4.2.2.1; unfold maxLen at this; omega
  have HLn := hide h4.1
  clear h2 h3 h4
  go_enter Tryz.func6, Tryz.ntmps6
  go_wp2_with (first
    | (go_at_call 10; go_must (refine (small_no _ a3 len3 cap3 x3 _ (H3.out.keep (HBW.out.trans (HC.out.mono HBW.out.size))) gE).mono ?_); rintro e wd ⟨rfl, hbd⟩; have HD := hide (HC.out.trans (hbd.mono HC.out.size)); obtain ⟨u0, u1, u2, u3, u4, u5⟩ := HK.out _ HD.out; clear hbd)
    | (go_at_call 9; go_must (refine (smallS_yes i2 t2 ma2 mn2 mc2 da2 dn2 dc2 _ gS.1 gS.2).mono ?_); rintro e wc ⟨rfl, hbc⟩; have HC := hide (HB.out.trans (hbc.mono HB.out.size)); obtain ⟨z0, z1, z2, z3, z4, z5⟩ := HK.out _ HC.out; clear hbc)
    | (go_at_call 8; go_must (refine (small9_any a4 len4 cap4 x4 _ (H4.out.keep (HBW.out.trans (HA.out.mono HBW.out.size)))).mono ?_); rintro e wb ⟨b, rfl, hsm, hbb⟩; have HB := hide (HA.out.trans (hbb.mono HA.out.size)); obtain ⟨y0, y1, y2, y3, y4, y5⟩ := HK.out _ HB.out; have HSm := hide hsm; clear hbb hsm; cases b)
    | (go_at_call 7; go_must (refine (awake9_any _).mono ?_); rintro e wa ⟨rfl, hba⟩; have HA := hide hba; clear hba))
  all_goals
    go_ret
    first
    | exact ⟨rfl, HBW.out.trans (HD.out.mono HBW.out.size)⟩
    | exact ⟨rfl, HBW.out.trans (HC.out.mono HBW.out.size)⟩
    | exact ⟨rfl, HBW.out.trans (HB.out.mono HBW.out.size)⟩

set_option maxHeartbeats 4000000 in
theorem rq_d (a0 : Int) (t1 v1 : Int) (i2 t2 : Int) (ma2 : Option Addr) (mn2 mc2 : Nat) (m2 : List Int) (da2 : Option Addr) (dn2 dc2 : Nat) (d2 : List Int) (a3 : Option Addr) (len3 cap3 : Nat) (x3 : List MEnt) (a4 : Option Addr) (len4 cap4 : Nat) (x4 : List MInp) (w : World) (hid : U64 a0) (h1 : U64 t1 ∧ U64 v1) (h2 : IsSnap w i2 t2 ma2 mn2 mc2 m2 da2 dn2 dc2 d2) (h3 : IsMs (fun _ => False) w a3 len3 cap3 x3) (h4 : IsInps w a4 len4 cap4 x4) (gS : (mn2 : Int) ≤ 9 ∧ (dn2 : Int) ≤ 200) (gE : SmallM len3 x3) (gI : decide (1099511627776 < i2) = true) :
    Calls Tryz.prog 6 #[.int .u64 a0, .agg #[.int .u64 t1, .int .u64 v1], .agg #[.int .u64 i2, .int .u64 t2, .slice ma2 mn2 mc2, .slice da2 dn2 dc2], .slice a3 len3 cap3, .slice a4 len4 cap4] w fun e w' => e = .returned (.bool true) ∧ Below w.heap.size w w' := by
  have H2 := hide h2
  have H3 := hide h3
  have H4 := hide h4
  have HBW : Hid (Below w.heap.size w ((w.alloc (.cells #[.int .u64 t1, .int .u64 v1] 24)).alloc (.cells #[.int .u64 i2, .int .u64 t2, .slice ma2 mn2 mc2, .slice da2 dn2 dc2] 28))) := (by repeat (first | exact Below.refl _ _ | refine bel_alloc ?_ _ | refine Below.drew ?_))
  have HK : Hid (∀ W, Below ((w.alloc (.cells #[.int .u64 t1, .int .u64 v1] 24)).alloc (.cells #[.int .u64 i2, .int .u64 t2, .slice ma2 mn2 mc2, .slice da2 dn2 dc2] 28)).heap.size ((w.alloc (.cells #[.int .u64 t1, .int .u64 v1] 24)).alloc (.cells #[.int .u64 i2, .int .u64 t2, .slice ma2 mn2 mc2, .slice da2 dn2 dc2] 28)) W → W.cell? ⟨w.heap.size, 0, none⟩ = some (.int .u64 t1) ∧ W.cell? ⟨w.heap.size, 1, none⟩ = some (.int .u64 v1) ∧ W.cell? ⟨w.heap.size + 1, 0, none⟩ = some (.int .u64 i2) ∧ W.cell? ⟨w.heap.size + 1, 1, none⟩ = some (.int .u64 t2) ∧ W.cell? ⟨w.heap.size + 1, 2, none⟩ = some (.slice ma2 mn2 mc2) ∧ W.cell? ⟨w.heap.size + 1, 3, none⟩ = some (.slice da2 dn2 dc2)) := by
    intro W hW
    have hl0 : w.heap.size < ((w.alloc (.cells #[.int .u64 t1, .int .u64 v1] 24)).alloc (.cells #[.int .u64 i2, .int .u64 t2, .slice ma2 mn2 mc2, .slice da2 dn2 dc2] 28)).heap.size := by simp; omega
    have hl1 : w.heap.size + 1 < ((w.alloc (.cells #[.int .u64 t1, .int .u64 v1] 24)).alloc (.cells #[.int .u64 i2, .int .u64 t2, .slice ma2 mn2 mc2, .slice da2 dn2 dc2] 28)).heap.size := by simp
    exact ⟨(hW.cell (p := ⟨w.heap.size, 0, none⟩) hl0).trans (by simp), (hW.cell (p := ⟨w.heap.size, 1, none⟩) hl0).trans (by simp), (hW.cell (p := ⟨w.heap.size + 1, 0, none⟩) hl1).trans (by simp), (hW.cell (p := ⟨w.heap.size + 1, 1, none⟩) hl1).trans (by simp), (hW.cell (p := ⟨w.heap.size + 1, 2, none⟩) hl1).trans (by simp), (hW.cell (p := ⟨w.heap.size + 1, 3, none⟩) hl1).trans (by simp)⟩
  have hm4 : (len4 : Int) ≤ 9223372036854775807 := by have := h4.2.1; have := h4.2.2.1; unfold maxLen at this; omega
  have HLn := hide h4.1
  clear h2 h3 h4
  go_enter Tryz.func6, Tryz.ntmps6
  go_wp2_with (first
    | (go_at_call 10; go_must (refine (small_yes _ a3 len3 cap3 x3 _ (H3.out.keep (HBW.out.trans (HC.out.mono HBW.out.size))) gE).mono ?_); rintro e wd ⟨rfl, hbd⟩; have HD := hide (HC.out.trans (hbd.mono HC.out.size)); obtain ⟨u0, u1, u2, u3, u4, u5⟩ := HK.out _ HD.out; clear hbd)
    | (go_at_call 9; go_must (refine (smallS_yes i2 t2 ma2 mn2 mc2 da2 dn2 dc2 _ gS.1 gS.2).mono ?_); rintro e wc ⟨rfl, hbc⟩; have HC := hide (HB.out.trans (hbc.mono HB.out.size)); obtain ⟨z0, z1, z2, z3, z4, z5⟩ := HK.out _ HC.out; clear hbc)
    | (go_at_call 8; go_must (refine (small9_any a4 len4 cap4 x4 _ (H4.out.keep (HBW.out.trans (HA.out.mono HBW.out.size)))).mono ?_); rintro e wb ⟨b, rfl, hsm, hbb⟩; have HB := hide (HA.out.trans (hbb.mono HA.out.size)); obtain ⟨y0, y1, y2, y3, y4, y5⟩ := HK.out _ HB.out; have HSm := hide hsm; clear hbb hsm; cases b)
    | (go_at_call 7; go_must (refine (awake9_any _).mono ?_); rintro e wa ⟨rfl, hba⟩; have HA := hide hba; clear hba))
  all_goals
    go_ret
    first
    | exact ⟨rfl, HBW.out.trans (HD.out.mono HBW.out.size)⟩
    | exact ⟨rfl, HBW.out.trans (HC.out.mono HBW.out.size)⟩
    | exact ⟨rfl, HBW.out.trans (HB.out.mono HBW.out.size)⟩

end Go.Proofs.YtodmieehdleohaaGreat
