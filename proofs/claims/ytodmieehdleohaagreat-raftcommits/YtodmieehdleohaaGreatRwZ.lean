/- Chapter 9's example. Whether inputs are small. A law's node behind so many inputs: the log made, the node made, one input given. -/
import Derived.Test.YtodmieehdleohaaGreatNdD
import Derived.Test.YtodmieehdleohaaGreatInA
import Derived.Test.YtodmieehdleohaaGreatRlA
import Derived.Deep.LoopGhost
import Derived.Deep.MidRow
import Derived.Deep.WholeRow
import Derived.Test.YtodmieehdleohaaGreatSt7
import Derived.Test.YtodmieehdleohaaGreatChA
namespace Go.Proofs.YtodmieehdleohaaGreat
open Go.RowKit NumMath
set_option linter.unusedVariables false
set_option maxRecDepth 100000

/-- a node that has led itself -/
def Alone (N : Nd) : Prop := N.role = 2 ∧ N.term = 1 ∧ N.leader = 1 ∧ N.commit = 1

def log1 : LogS := ⟨⟨0, 0, [1], []⟩, [], 0, false⟩
def nd1 : Nd := Nd.new 1 0 0 log1

theorem good_log1 : log1.Good := good_new (i := 0) (t := 0) (m := [1]) (d := []) (by decide) (by decide) (by decide) (by simp) (by simp) (by simp)

theorem ok_nd1 (z : Nat) : nd1.Ok z := ok_new good_log1 (Nat.zero_le _) (by decide) (by decide) (by simp [log1]) ⟨by decide, by decide⟩ ⟨by decide, by decide⟩ ⟨by decide, by decide⟩

theorem alone_of {t : Int} {N' : Nd} (h : Stood (nd1.tk t) N') : Alone N' := by
  have hm : (nd1.tk t).mem = [(nd1.tk t).id] := by simp [Nd.mem, Nd.tk, nd1, Nd.new, log1, toldL, dedL, dedStep]
  have hc := (h.2 hm (show (0 : Int) < 18446744073709551615 from by decide)).2
  have hm2 : (nd1.tk t).stood.mem = [(nd1.tk t).id] := hm
  obtain ⟨cm, r, l, rfl, _, _, _, hfin⟩ := hc hm2
  obtain ⟨hs, he⟩ := added_L (nd1.tk t).stood.led 0 []
  have hs' : ((nd1.tk t).stood.led.added 0 []).L.s = ⟨0, 0, [1], []⟩ := hs
  have he' : ((nd1.tk t).stood.led.added 0 []).L.es = [⟨1, 1, 0, []⟩] := he
  have hls : ((nd1.tk t).stood.led.added 0 []).last = 1 := by unfold Nd.last; rw [hs', he']; rfl
  have hmm : ((nd1.tk t).stood.led.added 0 []).mem = [((nd1.tk t).stood.led.added 0 []).id] := by
    unfold Nd.mem
    rw [hs', he']
    show _ = [(1 : Int)]
    simp [toldL, stepT, dedL, dedStep]
  have hte : (termL ((nd1.tk t).stood.led.added 0 []).L 1).1 = 1 := by
    unfold termL
    rw [hs', he']
    decide
  obtain ⟨h1, h2, h3⟩ := hfin hmm (by rw [hls]; show (0 : Int) < 1; decide) (by rw [hls, hs']; decide) (by rw [hls, hte]; rfl)
  exact ⟨h2, rfl, h3, h1.trans hls⟩

theorem isNums_one (w : World) (g : Nat) (x : Int) (hx : 0 ≤ x ∧ x ≤ 18446744073709551615) (hg : g < w.heap.size) (h : w.cell? ⟨g, 0, none⟩ = some (.int .u64 x)) : IsNums w (some ⟨g, 0, none⟩) 1 1 [x] :=
  ⟨rfl, Nat.le_refl _, by decide, by simpa using hx, .inr ⟨g, 0, rfl, hg, fun i hi => by simp at hi; subst hi; simpa using h⟩⟩

theorem capI_zero : capI 0 = 0 := by decide

set_option maxHeartbeats 1000000 in
theorem awake9_any (w : World) :
    Calls Tryz.prog 7 #[] w fun e w' => e = .returned (.bool true) ∧ Below w.heap.size w w' := by
  have hb0 := new_below w (.cells #[.int .u64 1] 22)
  have HNl := hide (new_any (fun _ => False) 0 0 (some ⟨w.heap.size, 0, none⟩) 1 1 [1] none 0 0 [] (w.alloc (.cells #[.int .u64 1] 22)) (fun _ h => h.elim) (isNums_one _ _ 1 (by decide) (by simp) (by simp)) ⟨rfl, Nat.le_refl _, Nat.zero_le _, by simp, .inl rfl⟩ (by decide) (by decide))
  have HB0 := hide hb0
  have hsz : (w.alloc (.cells #[.int .u64 1] 22)).heap.size = w.heap.size + 1 := by simp
  rw [capI_zero] at HNl
  clear hb0
  go_enter Tryz.func7, Tryz.ntmps7
  go_wp2_with (first
    | (go_at_call 16; go_must (refine (newN_any _ _ q 100 1 0 0 log1 _ HL1.out good_log1 (fun k hk => HX1.out k hk)).mono ?_); rintro e w2 ⟨p, rfl, hN2, hp2, hb2⟩; have HN2 := hide hN2; have HB2 := hide (HB1.out.trans (hb2.mono HB1.out.size)); clear hN2 hb2 hp2)
    | (go_at_call 11; go_must (refine HNl.out.mono ?_); rintro e w1 ⟨q, rfl, hq, hL1, hb1⟩; have HL1 := hide hL1; have HX1 : Hid (∀ k, (False ∨ k = q) → (w.alloc (.cells #[.int .u64 1] 22)).heap.size ≤ k ∧ k < w1.heap.size) := (fun k hk => by rcases hk with hk | hk; exact hk.elim; (subst hk; exact ⟨hq, hL1.at⟩)); have HB1 := hide (HB0.out.trans (hb1.mono (by simp))); clear hL1 hb1 hq))
  go_loopw [2] (fun i wr => ∃ (k : Nat) (X : Nat → Prop) (N : Nd), k ≤ 10 ∧ i = .int .u64 k ∧ IsNd X wr (w.alloc (.cells #[.int .u64 1] 22)).heap.size p (100 + 40 * k) N ∧ N.Ok (100 + 40 * k) ∧ (k < 10 → N = nd1.tk (10 - k)) ∧ (k = 10 → Alone N) ∧ Below w.heap.size w wr) (fun i _ => 10 - (intOf i).toNat)
  case atStart => exact ⟨0, _, nd1, by omega, rfl, HN2.out, ok_nd1 _, fun _ => rfl, fun h => by omega, HB2.out⟩
  case round =>
    obtain ⟨k, X, N, hk, rfl, hN, hO, hlt, hal, hb⟩ := hrel
    have HN := hide hN
    have HO := hide hO
    have Hlt := hide hlt
    have Hal := hide hal
    have HB := hide hb
    clear hN hO hlt hal hb
    by_cases hk10 : k < 10
    · have hkI : (k : Int) < 10 := by omega
      have HTi := hide (tick_any X _ p (100 + 40 * k) N k wr HN.out HO.out ⟨by omega, by omega⟩ (by omega))
      go_wp2_with (first
        | (go_at_call 22; go_must (refine HTi.out.mono ?_); rintro e w3 ⟨rfl, X3, N3, hN3, hT3, hK3, hX3⟩; have HN3 := hide hN3; have HT3 := hide hT3; have HB3 := hide (HB.out.trans (hK3.below (B := w.heap.size) (HB.out.size) (fun j hj => by have := (HN.out.rng j hj).1; simp at this; omega))); clear hN3 hT3 hK3 hX3))
      go_roundw
      case rel =>
        obtain ⟨h1, h2, h3, h4⟩ := HT3.out
        have e := Hlt.out hk10
        refine ⟨k + 1, X3, N3, by omega, by go_num, HN3.out.mono (by omega), h2.mono (by omega), fun h => ?_, fun h => ?_, HB3.out⟩
        · rw [e] at h3
          have := h3 (show (0 : Int) ≠ 2 from by decide) (show (1 : Int) < 10 - k from by omega)
          rw [this]
          show nd1.tk (10 - (k : Int) - 1) = nd1.tk (10 - ((k + 1 : Nat) : Int))
          congr 1
          omega
        · rw [e] at h4
          obtain ⟨t, ht⟩ := h4 (show (0 : Int) ≠ 2 from by decide) (show (10 : Int) - k = 1 from by omega)
          exact alone_of ht
      case measure => simp [intOf]; omega
    · have hk2 : k = 10 := by omega
      subst hk2
      obtain ⟨a1, a2, a3, a4⟩ := Hal.out rfl
      have HSt := hide (state_any X _ p _ N wr HN.out)
      rw [a1, a2, a3, a4] at HSt
      go_wp2_with (first
        | (go_at_call 21; go_must (refine HSt.out.mono ?_); rintro e w3 ⟨rfl, hb3⟩; have HB3 := hide (HB.out.trans (hb3.mono HB.out.size)); clear hb3))
      go_ret
      exact ⟨rfl, HB3.out⟩

end Go.Proofs.YtodmieehdleohaaGreat

namespace Go.Proofs.YtodmieehdleohaaGreat
open Go.RowKit NumMath
set_option linter.unusedVariables false
set_option maxRecDepth 100000

def SmallI (p : MInp) : Prop := SmallM p.m.en p.m.es ∧ ((p.m.mn : Int) ≤ 9 ∧ (p.m.sn : Int) ≤ 200) ∧ p.dn ≤ 5000 ∧ p.bn ≤ 12

/-- a block that holds an input -/
def Box19 (w : World) (g : Nat) (p : MInp) : Prop := CellI w g 0 p

theorem box19_new (w : World) (p : MInp) (g : Nat) (ty : TypeId) (vs : Array Value) (hg : w.heap.size = g) (hv : vs = p.vals.toArray) : Box19 (w.alloc (.cells vs ty)) g p := by
  intro j hj
  have hh : (w.alloc (.cells vs ty)).heap[g]? = some (.cells vs ty) := by rw [← hg]; exact (MapKept.heap_alloc w _).1
  unfold World.cell?
  rw [hh, Nat.zero_add]
  show vs[j]? = _
  rw [hv, List.getElem?_toArray]

theorem info19 : (Tryz.prog.info? 51).map (·.size) = some 19 := by kernel_rfl

theorem vals_one (p : MInp) : ∀ u ∈ p.vals, u.oneCell' = true := by
  intro u hu
  simp only [MInp.vals, List.mem_cons, List.not_mem_nil, or_false] at hu
  rcases hu with rfl | rfl | rfl | rfl | rfl | rfl | rfl | rfl | rfl | rfl | rfl | rfl | rfl | rfl | rfl | rfl | rfl | rfl | rfl <;> rfl

/-- an input read whole -/
theorem load19 (w : World) (g o : Nat) (p : MInp) (vs : Array Value) (hv : vs = p.vals.toArray) (h : CellI w g o p) : (Instr.loadAt 51 (.pointer (some ⟨g, o, none⟩))).run Tryz.prog w = .ok (.agg vs) w := by
  rw [hv]
  refine run_loadAt_mid w g o 51 p.vals _ ?_ Tryz.underlying51 rfl info19
  intro j v hj
  have hl : j < 19 := (List.getElem?_eq_some_iff.1 hj).1
  exact (h j hl).trans hj

def zero19 : Array Value := #[.int .i64 0, .int .u64 0, .int .i64 0, .int .u64 0, .int .u64 0, .int .u64 0, .int .u64 0, .int .u64 0, .int .u64 0, .int .u64 0, .bool false, .slice none 0 0, .int .u64 0, .int .u64 0, .slice none 0 0, .slice none 0 0, .slice none 0 0, .slice none 0 0, .int .u64 0]

/-- .. laid into a new block -/
theorem store19 (w : World) (p : MInp) (vs : Array Value) (hv : vs = p.vals.toArray) (g : Nat) (hg : w.heap.size = g) : (Instr.storeAt 51 (.pointer (some ⟨g, 0, none⟩)) (.agg vs)).run Tryz.prog (w.alloc (.cells #[.int .i64 0, .int .u64 0, .int .i64 0, .int .u64 0, .int .u64 0, .int .u64 0, .int .u64 0, .int .u64 0, .int .u64 0, .int .u64 0, .bool false, .slice none 0 0, .int .u64 0, .int .u64 0, .slice none 0 0, .slice none 0 0, .slice none 0 0, .slice none 0 0, .int .u64 0] 51)) = .ok () (w.alloc (.cells vs 51)) := by
  subst hg
  rw [hv]
  exact run_storeAt_new w 51 zero19 p.vals.toArray info19 rfl (all_oneCell_toArray (vals_one p))

theorem Box19.keep {w w' : World} {g : Nat} {p : MInp} (h : Box19 w g p) (hb : Below w.heap.size w w') (hg : g < w.heap.size) : Box19 w' g p := CellI.same h (hb.block g hg)

theorem Box19.c {w : World} {g : Nat} {p : MInp} (h : Box19 w g p) : w.cell? ⟨g, 11, none⟩ = some (.slice p.m.ea p.m.en p.m.ec) ∧ w.cell? ⟨g, 12, none⟩ = some (.int .u64 p.m.si) ∧ w.cell? ⟨g, 13, none⟩ = some (.int .u64 p.m.st) ∧ w.cell? ⟨g, 14, none⟩ = some (.slice p.m.ma p.m.mn p.m.mc) ∧ w.cell? ⟨g, 15, none⟩ = some (.slice p.m.sa p.m.sn p.m.sc) ∧ w.cell? ⟨g, 16, none⟩ = some (.slice p.da p.dn p.dc) ∧ w.cell? ⟨g, 17, none⟩ = some (.slice p.ba p.bn p.bc) :=
  ⟨h 11 (by decide), h 12 (by decide), h 13 (by decide), h 14 (by decide), h 15 (by decide), h 16 (by decide), h 17 (by decide)⟩

theorem Box19.d {w : World} {g : Nat} {p : MInp} (h : Box19 w g p) : w.cell? ⟨g, 0, none⟩ = some (.int .i64 p.k) ∧ w.cell? ⟨g, 1, none⟩ = some (.int .u64 p.dr) ∧ w.cell? ⟨g, 2, none⟩ = some (.int .i64 p.m.k) ∧ w.cell? ⟨g, 3, none⟩ = some (.int .u64 p.m.fr) ∧ w.cell? ⟨g, 4, none⟩ = some (.int .u64 p.m.tt) ∧ w.cell? ⟨g, 5, none⟩ = some (.int .u64 p.m.tm) ∧ w.cell? ⟨g, 6, none⟩ = some (.int .u64 p.m.ix) ∧ w.cell? ⟨g, 7, none⟩ = some (.int .u64 p.m.lt) ∧ w.cell? ⟨g, 8, none⟩ = some (.int .u64 p.m.cm) ∧ w.cell? ⟨g, 9, none⟩ = some (.int .u64 p.m.hn) ∧ w.cell? ⟨g, 10, none⟩ = some (.bool p.m.rj) ∧ w.cell? ⟨g, 18, none⟩ = some (.int .u64 p.i) :=
  ⟨h 0 (by decide), h 1 (by decide), h 2 (by decide), h 3 (by decide), h 4 (by decide), h 5 (by decide), h 6 (by decide), h 7 (by decide), h 8 (by decide), h 9 (by decide), h 10 (by decide), h 18 (by decide)⟩

theorem wp_load19 {ops : Array Oper} {rest : List Oper} {o : Oper} {a : Act} {Q : Exit → Act → World → Prop} (w : World) (hgd : o.guard = none) (x : Operand) (ho : o.op = .load 51 x) (g f : Nat) (hx : a.eval x = .pointer (some ⟨g, f, none⟩)) (p : MInp) (vs : Array Value) (hv : vs = p.vals.toArray) (hc : CellI w g f p)
    (h : wpList Tryz.prog ops Q rest (a.put o.dst (.agg vs)) w) : wpList Tryz.prog ops Q (o :: rest) a w := by
  refine wpList_plain hgd fun K hK => ?_
  unfold Oper.wp execOp
  simp only [ho, hx, Sem.run_bind, load19 w g f p vs hv hc, Sem.run_pure, Result.andThen_ok]
  exact hK _ _ h

theorem wp_store19 {ops : Array Oper} {rest : List Oper} {o : Oper} {a : Act} {Q : Exit → Act → World → Prop} (w : World) (hgd : o.guard = none) (x y : Operand) (ho : o.op = .store 51 x y) (g : Nat) (hg : w.heap.size = g) (hx : a.eval x = .pointer (some ⟨g, 0, none⟩)) (p : MInp) (vs : Array Value) (hv : vs = p.vals.toArray) (hy : a.eval y = .agg vs)
    (h : wpList Tryz.prog ops Q rest (a.put o.dst undef) (w.alloc (.cells vs 51))) : wpList Tryz.prog ops Q (o :: rest) a (w.alloc (.cells #[.int .i64 0, .int .u64 0, .int .i64 0, .int .u64 0, .int .u64 0, .int .u64 0, .int .u64 0, .int .u64 0, .int .u64 0, .int .u64 0, .bool false, .slice none 0 0, .int .u64 0, .int .u64 0, .slice none 0 0, .slice none 0 0, .slice none 0 0, .slice none 0 0, .int .u64 0] 51)) := by
  refine wpList_plain hgd fun K hK => ?_
  unfold Oper.wp execOp
  simp only [ho, hx, hy, Sem.run_bind, store19 w p vs hv g hg, Sem.run_pure, Result.andThen_ok]
  exact hK _ _ h

def Small9Post (w : World) (len : Nat) (ps : List MInp) (e : Ending) (w' : World) : Prop := ∃ b : Bool, e = .returned (.bool b) ∧ (b = true → len ≤ 40 ∧ ∀ p ∈ ps, SmallI p) ∧ Below w.heap.size w w'

set_option maxHeartbeats 4000000 in
theorem small9_any (a : Option Addr) (len cap : Nat) (ps : List MInp) (w : World) (h : IsInps w a len cap ps) :
    Calls Tryz.prog 8 #[.slice a len cap] w fun e w' => Small9Post w len ps e w' := by
  have H := hide h
  have HLn := hide h.1
  have hmx := h.2.2.1
  have hmc := h.2.1
  unfold maxLen at hmx
  clear h
  go_enter Tryz.func8, Tryz.ntmps8
  go_wp2
  go_loopg [7] len (fun gk i wr => ∃ k : Nat, gk = len - k ∧ k ≤ len ∧ i = .int .i64 k ∧ (∀ j, j < k → SmallI (ps.getD j inp0)) ∧ Below w.heap.size w wr)
  case atStart => exact ⟨0, rfl, Nat.zero_le _, rfl, fun j hj => by omega, Below.refl _ _⟩
  case round =>
    obtain ⟨k, rfl, hk, rfl, hJ, hb⟩ := hrel
    have HJ := hide hJ
    have HB := hide hb
    have hwr := hb.size
    clear hJ hb
    by_cases hlt : k < len
    · obtain ⟨g, off, rfl, hg, hC⟩ := H.out.at hlt
      have hk' : k < ps.length := by rw [HLn.out]; exact hlt
      have hcell := (hC k hk').same (HB.out.block g hg)
      have hok := H.out.2.2.2.1 _ (inp_mem ps k hk')
      obtain ⟨p, hp⟩ : ∃ p, ps.getD k inp0 = p := ⟨_, rfl⟩
      rw [hp] at hcell hok
      have HP := hide hp
      have HOk := hide hok
      obtain ⟨vs, hvs⟩ : ∃ vs, vs = p.vals.toArray := ⟨_, rfl⟩
      have HCe := hide hcell
      have HVs := hide hvs
      have HBx := hide (box19_new wr p wr.heap.size 51 vs rfl hvs)
      obtain ⟨b11, -, -, -, -, -, -⟩ := HBx.out.c
      clear hC hk' hp hok hcell hvs
      have HBw := hide (HB.out.alloc hwr (.cells vs 51))
      have HSy := hide (fun W (hW : Below w.heap.size w W) hs => small_yes (fun _ => False) p.m.ea p.m.en p.m.ec p.m.es W (HOk.out.m.es.keep hW) hs)
      have HSn := hide (fun W (hW : Below w.heap.size w W) hs => small_no (fun _ => False) p.m.ea p.m.en p.m.ec p.m.es W (HOk.out.m.es.keep hW) hs)
      have HTy := hide (fun W (hs : (p.m.mn : Int) ≤ 9 ∧ (p.m.sn : Int) ≤ 200) => smallS_yes p.m.si p.m.st p.m.ma p.m.mn p.m.mc p.m.sa p.m.sn p.m.sc W hs.1 hs.2)
      have HTn := hide (fun W hs => smallS_no p.m.si p.m.st p.m.ma p.m.mn p.m.mc p.m.sa p.m.sn p.m.sc W hs)
      by_cases hs1 : SmallM p.m.en p.m.es
      · by_cases hs2 : (p.m.mn : Int) ≤ 9 ∧ (p.m.sn : Int) ≤ 200
        · by_cases hs3 : (5000 : Int) < (p.dn : Int)
          · go_wp2_with (first
        | (refine wp_load19 _ rfl (.tmp 9) rfl g (off + k * 19) rfl p vs HVs.out HCe.out ?_)
        | (refine wp_store19 wr rfl (.tmp 4) (.tmp 10) rfl wr.heap.size rfl rfl p vs HVs.out rfl ?_)
        | (go_at_call 9; go_must (refine (HTy.out _ (by assumption)).mono ?_); rintro e w3 ⟨rfl, hb3⟩; have HB3 := hide (HB2.out.trans (hb3.mono HB2.out.size)); have HBx3 := hide (HBx2.out.keep hb3 (by simp at h2s; omega)); obtain ⟨-, -, -, -, -, e16, e17⟩ := HBx3.out.c; clear hb3)
        | (go_at_call 10; go_must (refine (HSy.out _ (by exact HBw.out) (by assumption)).mono ?_); rintro e w2 ⟨rfl, hb2⟩; have HB2 := hide (HBw.out.trans (hb2.mono HBw.out.size)); have HBx2 := hide (HBx.out.keep hb2 (by simp)); obtain ⟨-, b12, b13, b14, b15, b16, b17⟩ := HBx2.out.c; have h2s := hb2.size; clear hb2))
            go_ret
            exact ⟨false, rfl, (fun h => by cases h), HB3.out⟩
          · by_cases hs4 : (12 : Int) < (p.bn : Int)
            · go_wp2_with (first
        | (refine wp_load19 _ rfl (.tmp 9) rfl g (off + k * 19) rfl p vs HVs.out HCe.out ?_)
        | (refine wp_store19 wr rfl (.tmp 4) (.tmp 10) rfl wr.heap.size rfl rfl p vs HVs.out rfl ?_)
        | (go_at_call 9; go_must (refine (HTy.out _ (by assumption)).mono ?_); rintro e w3 ⟨rfl, hb3⟩; have HB3 := hide (HB2.out.trans (hb3.mono HB2.out.size)); have HBx3 := hide (HBx2.out.keep hb3 (by simp at h2s; omega)); obtain ⟨-, -, -, -, -, e16, e17⟩ := HBx3.out.c; clear hb3)
        | (go_at_call 10; go_must (refine (HSy.out _ (by exact HBw.out) (by assumption)).mono ?_); rintro e w2 ⟨rfl, hb2⟩; have HB2 := hide (HBw.out.trans (hb2.mono HBw.out.size)); have HBx2 := hide (HBx.out.keep hb2 (by simp)); obtain ⟨-, b12, b13, b14, b15, b16, b17⟩ := HBx2.out.c; have h2s := hb2.size; clear hb2))
              go_ret
              exact ⟨false, rfl, (fun h => by cases h), HB3.out⟩
            · go_wp2_with (first
        | (refine wp_load19 _ rfl (.tmp 9) rfl g (off + k * 19) rfl p vs HVs.out HCe.out ?_)
        | (refine wp_store19 wr rfl (.tmp 4) (.tmp 10) rfl wr.heap.size rfl rfl p vs HVs.out rfl ?_)
        | (go_at_call 9; go_must (refine (HTy.out _ (by assumption)).mono ?_); rintro e w3 ⟨rfl, hb3⟩; have HB3 := hide (HB2.out.trans (hb3.mono HB2.out.size)); have HBx3 := hide (HBx2.out.keep hb3 (by simp at h2s; omega)); obtain ⟨-, -, -, -, -, e16, e17⟩ := HBx3.out.c; clear hb3)
        | (go_at_call 10; go_must (refine (HSy.out _ (by exact HBw.out) (by assumption)).mono ?_); rintro e w2 ⟨rfl, hb2⟩; have HB2 := hide (HBw.out.trans (hb2.mono HBw.out.size)); have HBx2 := hide (HBx.out.keep hb2 (by simp)); obtain ⟨-, b12, b13, b14, b15, b16, b17⟩ := HBx2.out.c; have h2s := hb2.size; clear hb2))
              go_roundg (len - (k + 1))
              case measure => omega
              case rel => exact ⟨k + 1, rfl, by omega, by go_num, fun j hj => by rcases Nat.lt_succ_iff_lt_or_eq.1 hj with h1 | h1; exact HJ.out j h1; (rw [h1, HP.out]; exact ⟨hs1, hs2, by omega, by omega⟩), HB3.out⟩
        · go_wp2_with (first
        | (refine wp_load19 _ rfl (.tmp 9) rfl g (off + k * 19) rfl p vs HVs.out HCe.out ?_)
        | (refine wp_store19 wr rfl (.tmp 4) (.tmp 10) rfl wr.heap.size rfl rfl p vs HVs.out rfl ?_)
        | (go_at_call 9; go_must (refine (HTn.out _ (by assumption)).mono ?_); rintro e w3 ⟨rfl, hb3⟩; have HB3 := hide (HB2.out.trans (hb3.mono HB2.out.size)); have HBx3 := hide (HBx2.out.keep hb3 (by simp at h2s; omega)); obtain ⟨-, -, -, -, -, e16, e17⟩ := HBx3.out.c; clear hb3)
        | (go_at_call 10; go_must (refine (HSy.out _ (by exact HBw.out) (by assumption)).mono ?_); rintro e w2 ⟨rfl, hb2⟩; have HB2 := hide (HBw.out.trans (hb2.mono HBw.out.size)); have HBx2 := hide (HBx.out.keep hb2 (by simp)); obtain ⟨-, b12, b13, b14, b15, b16, b17⟩ := HBx2.out.c; have h2s := hb2.size; clear hb2))
          go_ret
          exact ⟨false, rfl, (fun h => by cases h), HB3.out⟩
      · go_wp2_with (first
        | (refine wp_load19 _ rfl (.tmp 9) rfl g (off + k * 19) rfl p vs HVs.out HCe.out ?_)
        | (refine wp_store19 wr rfl (.tmp 4) (.tmp 10) rfl wr.heap.size rfl rfl p vs HVs.out rfl ?_)
        | (go_at_call 10; go_must (refine (HSn.out _ (by exact HBw.out) (by assumption)).mono ?_); rintro e w2 ⟨rfl, hb2⟩; have HB2 := hide (HBw.out.trans (hb2.mono HBw.out.size)); have HBx2 := hide (HBx.out.keep hb2 (by simp)); obtain ⟨-, b12, b13, b14, b15, b16, b17⟩ := HBx2.out.c; have h2s := hb2.size; clear hb2))
        go_ret
        exact ⟨false, rfl, (fun h => by cases h), HB2.out⟩
    · have hkn : k = len := by omega
      subst hkn
      have HFin : Hid (∀ p ∈ ps, SmallI p) := by
        intro p hp
        obtain ⟨j, hj, e⟩ := List.mem_iff_getElem.1 hp
        have := HJ.out j (by rw [HLn.out] at hj; exact hj)
        rwa [show ps.getD j inp0 = p by simp [List.getD, List.getElem?_eq_getElem hj, e]] at this
      by_cases h40 : (k : Int) ≤ 40
      · go_wp2
        go_ret
        exact ⟨true, rfl, fun _ => ⟨by omega, HFin.out⟩, HB.out⟩
      · go_wp2
        go_ret
        exact ⟨false, rfl, (fun h => by cases h), HB.out⟩

end Go.Proofs.YtodmieehdleohaaGreat

namespace Go.Proofs.YtodmieehdleohaaGreat
open Go.RowKit NumMath
set_option linter.unusedVariables false
set_option maxRecDepth 100000

/-- the log that a law makes -/
structure LS9 (W w : World) (base q : Nat) (L : LogS) : Prop where
  hB : W.heap.size ≤ base
  bel : Below W.heap.size W w
  good : L.Good
  n : L.es.length ≤ 12
  m9 : L.s.m.length ≤ 9
  i62 : L.s.i ≤ 4611686018427387904
  d : ∀ e ∈ L.es, e.d.length ≤ 5000
  ex : ∃ X, IsL X w base q L ∧ ∀ k, X k → base ≤ k ∧ k < w.heap.size

theorem LS9.keep {W w w' : World} {base q : Nat} {L : LogS} (h : LS9 W w base q L) (hb : Below w.heap.size w w') : LS9 W w' base q L := by
  obtain ⟨X, h1, h2⟩ := h.ex
  exact ⟨h.hB, h.bel.trans (hb.mono h.bel.size), h.good, h.n, h.m9, h.i62, h.d, X, h1.keep hb, fun k hk => ⟨(h2 k hk).1, Nat.lt_of_lt_of_le (h2 k hk).2 hb.size⟩⟩

theorem ls9_new (W : World) (i t : Int) (ma : Option Addr) (mn mc : Nat) (m : List Int) (da : Option Addr) (dn dc : Nat) (d : List Int) (w : World) (hb : Below W.heap.size W w) (hS : IsSnap W i t ma mn mc m da dn dc d) (h1 : mn ≤ 9) (h2 : dn ≤ 200) :
    Calls Tryz.prog 11 #[.agg #[.int .u64 i, .int .u64 t, .slice ma mn mc, .slice da dn dc]] w fun e w' => ∃ q, e = .returned (.pointer (some ⟨q, 0, none⟩)) ∧ LS9 W w' w.heap.size q ⟨⟨capI i, t, m, d⟩, [], 0, false⟩ := by
  obtain ⟨hi, ht, hm, hd⟩ := hS
  have hml := hm.1
  have hdl := hd.1
  refine (new_any (fun _ => False) i t ma mn mc m da dn dc d w (fun _ h => h.elim) (hm.keep hb) (hd.keep hb) (by omega) (by omega)).mono ?_
  rintro e w' ⟨q, rfl, hq, hL, hb'⟩
  exact ⟨q, rfl, hb.size, hb.trans (hb'.mono hb.size), good_new hi.1 ht.1 ht.2 hm.2.2.2.1 (by omega) (by omega), Nat.zero_le _, by show m.length ≤ 9; omega, by show capI i ≤ _; unfold capI; split <;> omega, (fun e h => by cases h), _, hL, fun k hk => by
    rcases hk with h | rfl
    · exact h.elim
    · exact ⟨hq, hL.at⟩⟩

theorem appL_mem9 {L : LogS} {es : List Ent} {e : Ent} (h : e ∈ (appL L es).2.es) : e ∈ L.es ∨ e ∈ es := by
  by_cases h0 : es = []
  · subst h0; rw [appL_nil] at h; exact .inl h
  · by_cases hF : Fits L es
    · rw [appL_yes h0 hF] at h
      rcases List.mem_append.1 h with h | h
      · exact .inl (List.mem_of_mem_take h)
      · exact .inr h
    · rw [appL_no h0 hF] at h; exact .inl h

theorem ls9_app (W w : World) (base q : Nat) (L : LogS) (a : Option Addr) (len cap : Nat) (ms : List MEnt) (h : LS9 W w base q L) (h0 : L.es = []) (hE : IsMs (fun _ => False) W a len cap ms) (hS : SmallM len ms) :
    Calls Tryz.prog 13 #[.pointer (some ⟨q, 0, none⟩), .slice a len cap] w fun e w' => ∃ r, e = .returned (.int .i64 r) ∧ LS9 W w' base q (appL L (ms.map MEnt.e)).2 := by
  obtain ⟨X, hL, hX⟩ := h.ex
  have hq := (hL.lt SB.at).2.1
  have hl12 := hS.1
  have hml := hE.1
  have hB := h.hB
  have hoff : len = 0 ∨ ∀ y, a = some y → y.block ≠ q := by
    rcases hE.2.2.2.2 with h1 | ⟨g, off, e, hg, _⟩
    · exact .inl h1
    · refine .inr (fun y hy e2 => ?_)
      rw [e] at hy
      cases hy
      dsimp only at e2
      omega
  have hEq : IsMs (fun k => k = q) w a len cap ms := (hE.more (Y := fun k => k = q) (fun k hk => .inr (by omega))).keep h.bel
  have hbs : base ≤ w.heap.size := Nat.le_trans hq (Nat.le_of_lt hL.at)
  have hes : ∀ e ∈ ms.map MEnt.e, e.ok ∧ e.d.length ≤ 100 := by
    intro e he
    obtain ⟨m, hm, rfl⟩ := List.mem_map.1 he
    have h1 := hE.2.2.2.1 m hm
    exact ⟨h1.1, by have := h1.2.1.1; have := hS.2 m hm; omega⟩
  refine (app_any X base q L a len cap ms w hL h.good hEq hoff (by omega) (fun m hm => by have := hS.2 m hm; omega) (by rw [h0]; simp) (fun k hk => (hX k hk).2) hbs).mono ?_
  rintro e w' ⟨rfl, hL', hp⟩
  refine ⟨_, rfl, h.hB, h.bel.trans ((hL.below hp hbs).mono h.hB), good_app h.good (fun e he => ⟨(hes e he).1, by have := (hes e he).2; omega⟩) (by rw [h0, List.length_map]; simp; omega), ?_, by rw [appL_s]; exact h.m9, by rw [appL_s]; exact h.i62, ?_, _, hL', fun k hk => ?_⟩
  · have := appL_len L (ms.map MEnt.e)
    rw [h0, List.length_map] at this
    simp at this
    omega
  · intro e he
    rcases appL_mem9 he with h1 | h1
    · exact h.d e h1
    · have := (hes e h1).2; omega
  · rcases hk with hk | hk
    · exact ⟨(hX k hk).1, Nat.lt_of_lt_of_le (hX k hk).2 hp.size⟩
    · exact ⟨(hL'.lt hk).2.1, (hL'.lt hk).1⟩

/-- the node of a law behind k inputs -/
structure NS9 (W w : World) (base p k : Nat) (N : Nd) : Prop where
  hB : W.heap.size ≤ base
  bel : Below W.heap.size W w
  ok : N.Ok (20 + 60 * k)
  low : N.L.s.i ≤ N.commit
  ex : ∃ X, IsNd X w base p (20 + 60 * k) N

theorem NS9.keep {W w w' : World} {base p k : Nat} {N : Nd} (h : NS9 W w base p k N) (hb : Below w.heap.size w w') : NS9 W w' base p k N := by
  obtain ⟨X, hX⟩ := h.ex
  exact ⟨h.hB, h.bel.trans (hb.mono h.bel.size), h.ok, h.low, X, hX.keep hb⟩

theorem NS9.more {W w : World} {base p k : Nat} {N : Nd} (h : NS9 W w base p k N) : NS9 W w base p (k + 1) N := by
  obtain ⟨X, hX⟩ := h.ex
  exact ⟨h.hB, h.bel, h.ok.mono (by omega), h.low, X, hX.mono (by omega)⟩

theorem ns9_new (W w : World) (base q : Nat) (L : LogS) (h : LS9 W w base q L) (id t v : Int) (h1 : U64 id) (h2 : U64 t) (h3 : U64 v) :
    Calls Tryz.prog 16 #[.int .u64 id, .agg #[.int .u64 t, .int .u64 v], .pointer (some ⟨q, 0, none⟩)] w fun e w' => ∃ p, e = .returned (.pointer (some ⟨p, 0, none⟩)) ∧ NS9 W w' base p 0 (Nd.new id t v L) := by
  obtain ⟨X, hL, hX⟩ := h.ex
  refine (newN_any X base q 20 id t v L w hL h.good hX).mono ?_
  rintro e w' ⟨p, rfl, hN, hp, hb⟩
  exact ⟨p, rfl, h.hB, h.bel.trans (hb.mono h.bel.size), ok_new h.good (by have := h.n; omega) h.m9 h.i62 h.d h1 h2 h3, Int.le_refl _, _, hN⟩

theorem NS9.post {W w w2 w' : World} {base p k z' : Nat} {N : Nd} {X : Nat → Prop} {R : Nd → Prop} (h : NS9 W w base p k N) (hX : IsNd X w base p (20 + 60 * k) N) (hb : Below w.heap.size w w2) (hz : z' ≤ 20 + 60 * (k + 1)) (hp : NPost X w2 base p z' R w') (hR : ∀ N', R N' → Fw N N' ∧ N'.Ok (20 + 60 * (k + 1))) :
    ∃ N', NS9 W w' base p (k + 1) N' ∧ Fw N N' ∧ Keeps (fun j => j < w.heap.size) w2 w' := by
  obtain ⟨X', N', h1, h2, h3, h4⟩ := hp
  obtain ⟨r1, r2⟩ := hR N' h2
  refine ⟨N', ⟨h.hB, (h.bel.trans (hb.mono h.bel.size)).trans (h3.below (B := W.heap.size) (Nat.le_trans h.bel.size hb.size) (fun j hj => Nat.le_trans h.hB (hX.rng j hj).1)), r2, r1.low h.low, X', h1.mono hz⟩, r1, ⟨h3.os, h3.tape, h3.output, h3.size, fun j hj hn => h3.block j hj (fun hx => hn (hX.rng j hx).2)⟩⟩

def NP9 (W w w2 : World) (base p k : Nat) (N : Nd) (w' : World) : Prop := ∃ N', NS9 W w' base p (k + 1) N' ∧ Fw N N' ∧ Keeps (fun j => j < w.heap.size) w2 w'

theorem ns9_tick {W w : World} {base p k : Nat} {N : Nd} (h : NS9 W w base p k N) (hk : k ≤ 40) (w2 : World) (hb : Below w.heap.size w w2) (dr : Int) (hd : U64 dr) :
    Calls Tryz.prog 22 #[.pointer (some ⟨p, 0, none⟩), .int .u64 dr] w2 fun e w' => e = .returned (.tuple #[]) ∧ NP9 W w w2 base p k N w' := by
  obtain ⟨X, hX⟩ := h.ex
  refine (tick_any X base p (20 + 60 * k) N dr w2 (hX.keep hb) h.ok hd (by omega)).mono ?_
  rintro e w' ⟨rfl, hp⟩
  exact ⟨rfl, h.post hX hb (by omega) hp (fun N' hT => ⟨hT.1, hT.2.1.mono (by omega)⟩)⟩

theorem ns9_step {W w : World} {base p k : Nat} {N : Nd} (h : NS9 W w base p k N) (hk : k ≤ 40) (w2 : World) (hb : Below w.heap.size w w2) (m : MMsg) (hm : m.ok W) (hS : SmallM m.en m.es) (hmn : (m.mn : Int) ≤ 9) (hdn : (m.sn : Int) ≤ 200) :
    Calls Tryz.prog 23 #[.pointer (some ⟨p, 0, none⟩), .agg #[.int .i64 m.k, .int .u64 m.fr, .int .u64 m.tt, .int .u64 m.tm, .int .u64 m.ix, .int .u64 m.lt, .int .u64 m.cm, .int .u64 m.hn, .bool m.rj, .slice m.ea m.en m.ec, .int .u64 m.si, .int .u64 m.st, .slice m.ma m.mn m.mc, .slice m.sa m.sn m.sc]] w2 fun e w' => e = .returned (.tuple #[]) ∧ NP9 W w w2 base p k N w' := by
  obtain ⟨X, hX⟩ := h.ex
  refine (step_any X base p (20 + 60 * k) N m W w2 (hX.keep hb) h.ok (by omega) h.hB (h.bel.trans (hb.mono h.bel.size)) hm hS (by omega) (by omega) h.low).mono ?_
  rintro e w' ⟨rfl, hp⟩
  exact ⟨rfl, h.post hX hb (by omega) hp (fun N' hT => ⟨hT.1, hT.2.mono (by omega)⟩)⟩

theorem ns9_propose {W w : World} {base p k : Nat} {N : Nd} (h : NS9 W w base p k N) (hk : k ≤ 40) (w2 : World) (hb : Below w.heap.size w w2) (da : Option Addr) (dn dc : Nat) (d : List Int) (hd : IsBytes W da dn dc d) :
    Calls Tryz.prog 24 #[.pointer (some ⟨p, 0, none⟩), .slice da dn dc] w2 fun e w' => ∃ i r : Int, e = .returned (.tuple #[.int .u64 i, .int .i64 r]) ∧ NP9 W w w2 base p k N w' := by
  obtain ⟨X, hX⟩ := h.ex
  refine (propose_any X base p (20 + 60 * k) N da dn dc d w2 (hX.keep hb) h.ok (by omega) ⟨hd.keep (h.bel.trans (hb.mono h.bel.size)), ?_⟩).mono ?_
  · rcases hd.2.2.2.2 with h1 | ⟨g, off, e, hg, _⟩
    · exact .inl h1
    · refine .inr (fun y hy hx => ?_)
      rw [e] at hy
      cases hy
      have h2 := (hX.rng _ hx).1
      have h3 := h.hB
      dsimp only at h2
      omega
  rintro e w' ⟨i, r, rfl, hp⟩
  exact ⟨i, r, rfl, h.post hX hb (by omega) hp (fun N' hT => ⟨hT.1, hT.2.mono (by omega)⟩)⟩

theorem ns9_change {W w : World} {base p k : Nat} {N : Nd} (h : NS9 W w base p k N) (hk : k ≤ 40) (w2 : World) (hb : Below w.heap.size w w2) (a : Option Addr) (n c : Nat) (l : List Int) (hI : IsNums W a n c l) (hn : n ≤ 12) :
    Calls Tryz.prog 25 #[.pointer (some ⟨p, 0, none⟩), .slice a n c] w2 fun e w' => ∃ i r : Int, e = .returned (.tuple #[.int .u64 i, .int .i64 r]) ∧ NP9 W w w2 base p k N w' := by
  obtain ⟨X, hX⟩ := h.ex
  refine (change_any X base p (20 + 60 * k) N a n c l W w2 (hX.keep hb) h.ok (by omega) h.hB (h.bel.trans (hb.mono h.bel.size)) hI hn).mono ?_
  rintro e w' ⟨i, r, rfl, hp⟩
  exact ⟨i, r, rfl, h.post hX hb (by omega) hp (fun N' hT => ⟨hT.1, hT.2.mono (by omega)⟩)⟩

theorem ns9_hard {W w : World} {base p k : Nat} {N : Nd} (h : NS9 W w base p k N) :
    Calls Tryz.prog 20 #[.pointer (some ⟨p, 0, none⟩)] w fun e w' => e = .returned (.agg #[.int .u64 N.term, .int .u64 N.vote]) ∧ Below w.heap.size w w' := by
  obtain ⟨X, hX⟩ := h.ex
  exact hard_any X base p _ N w hX

theorem ns9_state {W w : World} {base p k : Nat} {N : Nd} (h : NS9 W w base p k N) :
    Calls Tryz.prog 21 #[.pointer (some ⟨p, 0, none⟩)] w fun e w' => e = .returned (.tuple #[.int .i64 N.role, .int .u64 N.term, .int .u64 N.leader, .int .u64 N.commit]) ∧ Below w.heap.size w w' := by
  obtain ⟨X, hX⟩ := h.ex
  exact state_any X base p _ N w hX

end Go.Proofs.YtodmieehdleohaaGreat
