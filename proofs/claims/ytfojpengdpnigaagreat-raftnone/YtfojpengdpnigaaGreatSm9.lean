/- Whether inputs are small. -/
import Derived.Test.YtfojpengdpnigaaGreatInA
import Derived.Test.YtfojpengdpnigaaGreatRl5
import Derived.Deep.LoopGhost
import Derived.Deep.MidRow
import Derived.Deep.WholeRow
namespace Go.Proofs.YtfojpengdpnigaaGreat
open Go.RowKit NumMath
set_option linter.unusedVariables false
set_option maxRecDepth 100000

def SmallI (p : MInp) : Prop := SmallM p.m.en p.m.es ∧ ((p.m.mn : Int) ≤ 9 ∧ (p.m.sn : Int) ≤ 200) ∧ p.dn ≤ 5000 ∧ p.bn ≤ 12

/-- a block that holds an input -/
def Box19 (w : World) (g : Nat) (p : MInp) : Prop := CellI w g 0 p

theorem box19_new (w : World) (p : MInp) (g : Nat) (ty : TypeId) (vs : Array Value) (hg : w.heap.size = g) (hv : vs = p.vals.toArray) : Box19 (w.alloc (.cells vs ty)) g p := by
  intro j hj
  have hh : (w.alloc (.cells vs ty)).heap[g]? = some (.cells vs ty) := by rw [← hg]; exact (MapKept.heap_alloc w _).1
  unfold World.cell?
  rw [hh, Nat.zero_add]
  show vs[j]? = _
  rw [hv, List.getElem?_toArray]

theorem info19 : (Tryz.prog.info? 51).map (·.size) = some 19 := by kernel_rfl

theorem vals_one (p : MInp) : ∀ u ∈ p.vals, u.oneCell' = true := by
  intro u hu
  simp only [MInp.vals, List.mem_cons, List.not_mem_nil, or_false] at hu
  rcases hu with rfl | rfl | rfl | rfl | rfl | rfl | rfl | rfl | rfl | rfl | rfl | rfl | rfl | rfl | rfl | rfl | rfl | rfl | rfl <;> rfl

/-- an input read whole -/
theorem load19 (w : World) (g o : Nat) (p : MInp) (vs : Array Value) (hv : vs = p.vals.toArray) (h : CellI w g o p) : (Instr.loadAt 51 (.pointer (some ⟨g, o, none⟩))).run Tryz.prog w = .ok (.agg vs) w := by
  rw [hv]
  refine run_loadAt_mid w g o 51 p.vals _ ?_ Tryz.underlying51 rfl info19
  intro j v hj
  have hl : j < 19 := (List.getElem?_eq_some_iff.1 hj).1
  exact (h j hl).trans hj

def zero19 : Array Value := #[.int .i64 0, .int .u64 0, .int .i64 0, .int .u64 0, .int .u64 0, .int .u64 0, .int .u64 0, .int .u64 0, .int .u64 0, .int .u64 0, .bool false, .slice none 0 0, .int .u64 0, .int .u64 0, .slice none 0 0, .slice none 0 0, .slice none 0 0, .slice none 0 0, .int .u64 0]

/-- .. laid into a new block -/
theorem store19 (w : World) (p : MInp) (vs : Array Value) (hv : vs = p.vals.toArray) (g : Nat) (hg : w.heap.size = g) : (Instr.storeAt 51 (.pointer (some ⟨g, 0, none⟩)) (.agg vs)).run Tryz.prog (w.alloc (.cells #[.int .i64 0, .int .u64 0, .int .i64 0, .int .u64 0, .int .u64 0, .int .u64 0, .int .u64 0, .int .u64 0, .int .u64 0, .int .u64 0, .bool false, .slice none 0 0, .int .u64 0, .int .u64 0, .slice none 0 0, .slice none 0 0, .slice none 0 0, .slice none 0 0, .int .u64 0] 51)) = .ok () (w.alloc (.cells vs 51)) := by
  subst hg
  rw [hv]
  exact run_storeAt_new w 51 zero19 p.vals.toArray info19 rfl (all_oneCell_toArray (vals_one p))

theorem Box19.keep {w w' : World} {g : Nat} {p : MInp} (h : Box19 w g p) (hb : Below w.heap.size w w') (hg : g < w.heap.size) : Box19 w' g p := CellI.same h (hb.block g hg)

theorem Box19.c {w : World} {g : Nat} {p : MInp} (h : Box19 w g p) : w.cell? ⟨g, 11, none⟩ = some (.slice p.m.ea p.m.en p.m.ec) ∧ w.cell? ⟨g, 12, none⟩ = some (.int .u64 p.m.si) ∧ w.cell? ⟨g, 13, none⟩ = some (.int .u64 p.m.st) ∧ w.cell? ⟨g, 14, none⟩ = some (.slice p.m.ma p.m.mn p.m.mc) ∧ w.cell? ⟨g, 15, none⟩ = some (.slice p.m.sa p.m.sn p.m.sc) ∧ w.cell? ⟨g, 16, none⟩ = some (.slice p.da p.dn p.dc) ∧ w.cell? ⟨g, 17, none⟩ = some (.slice p.ba p.bn p.bc) :=
  ⟨h 11 (by decide), h 12 (by decide), h 13 (by decide), h 14 (by decide), h 15 (by decide), h 16 (by decide), h 17 (by decide)⟩

theorem Box19.d {w : World} {g : Nat} {p : MInp} (h : Box19 w g p) : w.cell? ⟨g, 0, none⟩ = some (.int .i64 p.k) ∧ w.cell? ⟨g, 1, none⟩ = some (.int .u64 p.dr) ∧ w.cell? ⟨g, 2, none⟩ = some (.int .i64 p.m.k) ∧ w.cell? ⟨g, 3, none⟩ = some (.int .u64 p.m.fr) ∧ w.cell? ⟨g, 4, none⟩ = some (.int .u64 p.m.tt) ∧ w.cell? ⟨g, 5, none⟩ = some (.int .u64 p.m.tm) ∧ w.cell? ⟨g, 6, none⟩ = some (.int .u64 p.m.ix) ∧ w.cell? ⟨g, 7, none⟩ = some (.int .u64 p.m.lt) ∧ w.cell? ⟨g, 8, none⟩ = some (.int .u64 p.m.cm) ∧ w.cell? ⟨g, 9, none⟩ = some (.int .u64 p.m.hn) ∧ w.cell? ⟨g, 10, none⟩ = some (.bool p.m.rj) ∧ w.cell? ⟨g, 18, none⟩ = some (.int .u64 p.i) :=
  ⟨h 0 (by decide), h 1 (by decide), h 2 (by decide), h 3 (by decide), h 4 (by decide), h 5 (by decide), h 6 (by decide), h 7 (by decide), h 8 (by decide), h 9 (by decide), h 10 (by decide), h 18 (by decide)⟩

theorem wp_load19 {ops : Array Oper} {rest : List Oper} {o : Oper} {a : Act} {Q : Exit → Act → World → Prop} (w : World) (hgd : o.guard = none) (x : Operand) (ho : o.op = .load 51 x) (g f : Nat) (hx : a.eval x = .pointer (some ⟨g, f, none⟩)) (p : MInp) (vs : Array Value) (hv : vs = p.vals.toArray) (hc : CellI w g f p)
    (h : wpList Tryz.prog ops Q rest (a.put o.dst (.agg vs)) w) : wpList Tryz.prog ops Q (o :: rest) a w := by
  refine wpList_plain hgd fun K hK => ?_
  unfold Oper.wp execOp
  simp only [ho, hx, Sem.run_bind, load19 w g f p vs hv hc, Sem.run_pure, Result.andThen_ok]
  exact hK _ _ h

theorem wp_store19 {ops : Array Oper} {rest : List Oper} {o : Oper} {a : Act} {Q : Exit → Act → World → Prop} (w : World) (hgd : o.guard = none) (x y : Operand) (ho : o.op = .store 51 x y) (g : Nat) (hg : w.heap.size = g) (hx : a.eval x = .pointer (some ⟨g, 0, none⟩)) (p : MInp) (vs : Array Value) (hv : vs = p.vals.toArray) (hy : a.eval y = .agg vs)
    (h : wpList Tryz.prog ops Q rest (a.put o.dst undef) (w.alloc (.cells vs 51))) : wpList Tryz.prog ops Q (o :: rest) a (w.alloc (.cells #[.int .i64 0, .int .u64 0, .int .i64 0, .int .u64 0, .int .u64 0, .int .u64 0, .int .u64 0, .int .u64 0, .int .u64 0, .int .u64 0, .bool false, .slice none 0 0, .int .u64 0, .int .u64 0, .slice none 0 0, .slice none 0 0, .slice none 0 0, .slice none 0 0, .int .u64 0] 51)) := by
  refine wpList_plain hgd fun K hK => ?_
  unfold Oper.wp execOp
  simp only [ho, hx, hy, Sem.run_bind, store19 w p vs hv g hg, Sem.run_pure, Result.andThen_ok]
  exact hK _ _ h

def Small9Post (w : World) (len : Nat) (ps : List MInp) (e : Ending) (w' : World) : Prop := ∃ b : Bool, e = .returned (.bool b) ∧ (b = true → len ≤ 40 ∧ ∀ p ∈ ps, SmallI p) ∧ Below w.heap.size w w'

set_option maxHeartbeats 4000000 in
theorem small9_any (a : Option Addr) (len cap : Nat) (ps : List MInp) (w : World) (h : IsInps w a len cap ps) :
    Calls Tryz.prog 8 #[.slice a len cap] w fun e w' => Small9Post w len ps e w' := by
  have H := hide h
  have HLn := hide h.1
  have hmx := h.2.2.1
  have hmc := h.2.1
  unfold maxLen at hmx
  clear h
  go_enter Tryz.func8, Tryz.ntmps8
  go_wp2
  go_loopg [7] len (fun gk i wr => ∃ k : Nat, gk = len - k ∧ k ≤ len ∧ i = .int .i64 k ∧ (∀ j, j < k → SmallI (ps.getD j inp0)) ∧ Below w.heap.size w wr)
  case atStart => exact ⟨0, rfl, Nat.zero_le _, rfl, fun j hj => by omega, Below.refl _ _⟩
  case round =>
    obtain ⟨k, rfl, hk, rfl, hJ, hb⟩ := hrel
    have HJ := hide hJ
    have HB := hide hb
    have hwr := hb.size
    clear hJ hb
    by_cases hlt : k < len
    · obtain ⟨g, off, rfl, hg, hC⟩ := H.out.at hlt
      have hk' : k < ps.length := by rw [HLn.out]; exact hlt
      have hcell := (hC k hk').same (HB.out.block g hg)
      have hok := H.out.2.2.2.1 _ (inp_mem ps k hk')
      obtain ⟨p, hp⟩ : ∃ p, ps.getD k inp0 = p := ⟨_, rfl⟩
      rw [hp] at hcell hok
      have HP := hide hp
      have HOk := hide hok
      obtain ⟨vs, hvs⟩ : ∃ vs, vs = p.vals.toArray := ⟨_, rfl⟩
      have HCe := hide hcell
      have HVs := hide hvs
      have HBx := hide (box19_new wr p wr.heap.size 51 vs rfl hvs)
      obtain ⟨b11, -, -, -, -, -, -⟩ := HBx.out.c
      clear hC hk' hp hok hcell hvs
      have HBw := hide (HB.out.alloc hwr (.cells vs 51))
      have HSy := hide (fun W (hW : Below w.heap.size w W) hs => small_yes (fun _ => False) p.m.ea p.m.en p.m.ec p.m.es W (HOk.out.m.es.keep hW) hs)
      have HSn := hide (fun W (hW : Below w.heap.size w W) hs => small_no (fun _ => False) p.m.ea p.m.en p.m.ec p.m.es W (HOk.out.m.es.keep hW) hs)
      have HTy := hide (fun W (hs : (p.m.mn : Int) ≤ 9 ∧ (p.m.sn : Int) ≤ 200) => smallS_yes p.m.si p.m.st p.m.ma p.m.mn p.m.mc p.m.sa p.m.sn p.m.sc W hs.1 hs.2)
      have HTn := hide (fun W hs => smallS_no p.m.si p.m.st p.m.ma p.m.mn p.m.mc p.m.sa p.m.sn p.m.sc W hs)
      by_cases hs1 : SmallM p.m.en p.m.es
      · by_cases hs2 : (p.m.mn : Int) ≤ 9 ∧ (p.m.sn : Int) ≤ 200
        · by_cases hs3 : (5000 : Int) < (p.dn : Int)
          · go_wp2_with (first
        | (refine wp_load19 _ rfl (.tmp 9) rfl g (off + k * 19) rfl p vs HVs.out HCe.out ?_)
        | (refine wp_store19 wr rfl (.tmp 4) (.tmp 10) rfl wr.heap.size rfl rfl p vs HVs.out rfl ?_)
        | (go_at_call 9; go_must (refine (HTy.out _ (by assumption)).mono ?_); rintro e w3 ⟨rfl, hb3⟩; have HB3 := hide (HB2.out.trans (hb3.mono HB2.out.size)); have HBx3 := hide (HBx2.out.keep hb3 (by simp at h2s; omega)); obtain ⟨-, -, -, -, -, e16, e17⟩ := HBx3.out.c; clear hb3)
        | (go_at_call 10; go_must (refine (HSy.out _ (by exact HBw.out) (by assumption)).mono ?_); rintro e w2 ⟨rfl, hb2⟩; have HB2 := hide (HBw.out.trans (hb2.mono HBw.out.size)); have HBx2 := hide (HBx.out.keep hb2 (by simp)); obtain ⟨-, b12, b13, b14, b15, b16, b17⟩ := HBx2.out.c; have h2s := hb2.size; clear hb2))
            go_ret
            exact ⟨false, rfl, (fun h => by cases h), HB3.out⟩
          · by_cases hs4 : (12 : Int) < (p.bn : Int)
            · go_wp2_with (first
        | (refine wp_load19 _ rfl (.tmp 9) rfl g (off + k * 19) rfl p vs HVs.out HCe.out ?_)
        | (refine wp_store19 wr rfl (.tmp 4) (.tmp 10) rfl wr.heap.size rfl rfl p vs HVs.out rfl ?_)
        | (go_at_call 9; go_must (refine (HTy.out _ (by assumption)).mono ?_); rintro e w3 ⟨rfl, hb3⟩; have HB3 := hide (HB2.out.trans (hb3.mono HB2.out.size)); have HBx3 := hide (HBx2.out.keep hb3 (by simp at h2s; omega)); obtain ⟨-, -, -, -, -, e16, e17⟩ := HBx3.out.c; clear hb3)
        | (go_at_call 10; go_must (refine (HSy.out _ (by exact HBw.out) (by assumption)).mono ?_); rintro e w2 ⟨rfl, hb2⟩; have HB2 := hide (HBw.out.trans (hb2.mono HBw.out.size)); have HBx2 := hide (HBx.out.keep hb2 (by simp)); obtain ⟨-, b12, b13, b14, b15, b16, b17⟩ := HBx2.out.c; have h2s := hb2.size; clear hb2))
              go_ret
              exact ⟨false, rfl, (fun h => by cases h), HB3.out⟩
            · go_wp2_with (first
        | (refine wp_load19 _ rfl (.tmp 9) rfl g (off + k * 19) rfl p vs HVs.out HCe.out ?_)
        | (refine wp_store19 wr rfl (.tmp 4) (.tmp 10) rfl wr.heap.size rfl rfl p vs HVs.out rfl ?_)
        | (go_at_call 9; go_must (refine (HTy.out _ (by assumption)).mono ?_); rintro e w3 ⟨rfl, hb3⟩; have HB3 := hide (HB2.out.trans (hb3.mono HB2.out.size)); have HBx3 := hide (HBx2.out.keep hb3 (by simp at h2s; omega)); obtain ⟨-, -, -, -, -, e16, e17⟩ := HBx3.out.c; clear hb3)
        | (go_at_call 10; go_must (refine (HSy.out _ (by exact HBw.out) (by assumption)).mono ?_); rintro e w2 ⟨rfl, hb2⟩; have HB2 := hide (HBw.out.trans (hb2.mono HBw.out.size)); have HBx2 := hide (HBx.out.keep hb2 (by simp)); obtain ⟨-, b12, b13, b14, b15, b16, b17⟩ := HBx2.out.c; have h2s := hb2.size; clear hb2))
              go_roundg (len - (k + 1))
              case measure => omega
              case rel => exact ⟨k + 1, rfl, by omega, by go_num, fun j hj => by rcases Nat.lt_succ_iff_lt_or_eq.1 hj with h1 | h1; exact HJ.out j h1; (rw [h1, HP.out]; exact ⟨hs1, hs2, by omega, by omega⟩), HB3.out⟩
        · go_wp2_with (first
        | (refine wp_load19 _ rfl (.tmp 9) rfl g (off + k * 19) rfl p vs HVs.out HCe.out ?_)
        | (refine wp_store19 wr rfl (.tmp 4) (.tmp 10) rfl wr.heap.size rfl rfl p vs HVs.out rfl ?_)
        | (go_at_call 9; go_must (refine (HTn.out _ (by assumption)).mono ?_); rintro e w3 ⟨rfl, hb3⟩; have HB3 := hide (HB2.out.trans (hb3.mono HB2.out.size)); have HBx3 := hide (HBx2.out.keep hb3 (by simp at h2s; omega)); obtain ⟨-, -, -, -, -, e16, e17⟩ := HBx3.out.c; clear hb3)
        | (go_at_call 10; go_must (refine (HSy.out _ (by exact HBw.out) (by assumption)).mono ?_); rintro e w2 ⟨rfl, hb2⟩; have HB2 := hide (HBw.out.trans (hb2.mono HBw.out.size)); have HBx2 := hide (HBx.out.keep hb2 (by simp)); obtain ⟨-, b12, b13, b14, b15, b16, b17⟩ := HBx2.out.c; have h2s := hb2.size; clear hb2))
          go_ret
          exact ⟨false, rfl, (fun h => by cases h), HB3.out⟩
      · go_wp2_with (first
        | (refine wp_load19 _ rfl (.tmp 9) rfl g (off + k * 19) rfl p vs HVs.out HCe.out ?_)
        | (refine wp_store19 wr rfl (.tmp 4) (.tmp 10) rfl wr.heap.size rfl rfl p vs HVs.out rfl ?_)
        | (go_at_call 10; go_must (refine (HSn.out _ (by exact HBw.out) (by assumption)).mono ?_); rintro e w2 ⟨rfl, hb2⟩; have HB2 := hide (HBw.out.trans (hb2.mono HBw.out.size)); have HBx2 := hide (HBx.out.keep hb2 (by simp)); obtain ⟨-, b12, b13, b14, b15, b16, b17⟩ := HBx2.out.c; have h2s := hb2.size; clear hb2))
        go_ret
        exact ⟨false, rfl, (fun h => by cases h), HB2.out⟩
    · have hkn : k = len := by omega
      subst hkn
      have HFin : Hid (∀ p ∈ ps, SmallI p) := by
        intro p hp
        obtain ⟨j, hj, e⟩ := List.mem_iff_getElem.1 hp
        have := HJ.out j (by rw [HLn.out] at hj; exact hj)
        rwa [show ps.getD j inp0 = p by simp [List.getD, List.getElem?_eq_getElem hj, e]] at this
      by_cases h40 : (k : Int) ≤ 40
      · go_wp2
        go_ret
        exact ⟨true, rfl, fun _ => ⟨by omega, HFin.out⟩, HB.out⟩
      · go_wp2
        go_ret
        exact ⟨false, rfl, (fun h => by cases h), HB.out⟩

end Go.Proofs.YtfojpengdpnigaaGreat
