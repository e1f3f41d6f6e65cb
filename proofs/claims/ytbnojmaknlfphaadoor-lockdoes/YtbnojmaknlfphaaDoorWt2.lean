/- The reference's walk, After, Cycle: what they answer. -/
import Derived.Test.YtbnojmaknlfphaaDoorWt1
import Derived.Deep.DeepCutAuto
import Derived.Deep.CutBlock
import Derived.Deep.LoopGhost
import Derived.BigQuiet
namespace Go.Proofs.YtbnojmaknlfphaaDoor
open Go.RowKit NumMath Go.ChangeShapes Go.WideShapes Go.Deep
set_option linter.unusedVariables false
set_option maxRecDepth 100000

def layE : Lay (Int × Int) where
  e := 70
  t := 49
  k := 2
  bys := 16
  z := .agg #[.int .u64 0, .int .u64 0]
  cells := fun e => [.int .u64 e.1, .int .u64 e.2]
  len := fun _ => rfl
  one := by intro x u hu; simp at hu; rcases hu with rfl | rfl <;> rfl
  pos := by decide
  few := by decide
  und := Tryd.underlying49
  info := by kernel_rfl
  zs := rfl

def layS : Lay (Int × Int) where
  e := 89
  t := 86
  k := 2
  bys := 16
  z := .agg #[.int .u64 0, .int .u64 0]
  cells := fun e => [.int .u64 e.1, .int .u64 e.2]
  len := fun _ => rfl
  one := by intro x u hu; simp at hu; rcases hu with rfl | rfl <;> rfl
  pos := by decide
  few := by decide
  und := Tryd.underlying86
  info := by kernel_rfl
  zs := rfl

def layU : Lay Int where
  e := 22
  t := 51
  k := 1
  bys := 8
  z := .int .u64 0
  cells := fun n => [.int .u64 n]
  len := fun _ => rfl
  one := by intro x u hu; simp at hu; subst hu; rfl
  pos := by decide
  few := by decide
  und := Tryd.underlying51
  info := by kernel_rfl
  zs := rfl

theorem cellsE {w : World} {g off : Nat} {l : List (Int × Int)} (h : CellsY layE w g off l) {i : Nat} {x y : Int} (hx : l[i]? = some (x, y)) : w.rangeAt g (off + i * 2) (layE.cells (x, y)) := h i (x, y) hx

theorem pair_at {l : List (Int × Int)} {j : Nat} (h : j < l.length) : ∃ x y, l[j]? = some (x, y) := ⟨_, _, List.getElem?_eq_getElem h⟩

theorem rangeE {w : World} {g o : Nat} {x y : Int} (h : w.rangeAt g o [.int .u64 x, .int .u64 y]) : w.cell? ⟨g, o, none⟩ = some (.int .u64 x) ∧ w.cell? ⟨g, o + 1, none⟩ = some (.int .u64 y) := ⟨h 0 _ rfl, h 1 _ rfl⟩

theorem cellU {w : World} {g : Nat} {q : List Int} {k : Nat} {n : Int} (h : CellsY layU w g 0 q) (hk : q[k]? = some n) : w.cell? ⟨g, k, none⟩ = some (.int .u64 n) := by
  have := h k n hk 0 _ rfl
  simpa [layU] using this

/-- what is known while an edge is looked at: it lies at N; the lists lie where they lay -/
structure FactW (w : World) (N : Nat) (x y : Int) (vo vq : Value) (st : WSt) (wx : World) : Prop where
  c0 : wx.cell? ⟨N, 0, none⟩ = some (.int .u64 x)
  c1 : wx.cell? ⟨N, 1, none⟩ = some (.int .u64 y)
  lt : N < wx.heap.size
  o : OwnY layS wx w.heap.size vo st.1
  q : OwnY layU wx w.heap.size vq st.2
  b : Below w.heap.size w wx
  no : ∀ g, vo.ownBlock = some g → g < N

theorem FactW.keep {w : World} {N : Nat} {x y : Int} {vo vq : Value} {st : WSt} {wx wx' : World} (h : FactW w N x y vo vq st wx) (hb : Below wx.heap.size wx wx') : FactW w N x y vo vq st wx' :=
  ⟨(hb.cell (p := ⟨N, 0, none⟩) h.lt).trans h.c0, (hb.cell (p := ⟨N, 1, none⟩) h.lt).trans h.c1, Nat.lt_of_lt_of_le h.lt hb.size, h.o.keep hb, h.q.keep hb, h.b.trans (hb.mono h.b.size), h.no⟩

theorem FactW.drN {w : World} {N : Nat} {x y : Int} {vo vq : Value} {st : WSt} {wx : World} (h : FactW w N x y vo vq st wx) (k : Nat) : FactW w N x y vo vq st (wx.drewN k) := h.keep ⟨rfl, rfl, rfl, Nat.le_refl _, fun _ _ => rfl⟩

theorem factW_new {w wr : World} {x y : Int} {vo vq : Value} {st : WSt} (ty : TypeId) (ho : OwnY layS wr w.heap.size vo st.1) (hq : OwnY layU wr w.heap.size vq st.2) (hb : Below w.heap.size w wr) : FactW w wr.heap.size x y vo vq st (wr.alloc (.cells #[.int .u64 x, .int .u64 y] ty)) :=
  have hr := rangeY_new wr wr.heap.size #[.int .u64 x, .int .u64 y] ty rfl
  ⟨hr 0 _ rfl, hr 1 _ rfl, by simp, ho.keep (new_below _ _), hq.keep (new_below _ _), hb.trans ((new_below _ _).mono hb.size), fun g hg => (ho.lt g hg).2⟩

theorem FactW.after {w : World} {N : Nat} {x y : Int} {vo vq : Value} {st : WSt} {wx w5 : World} {o : Obj} (h : FactW w N x y vo vq st wx) (hg : (wx.alloc o).grownBy w5 vo.ownBlock) : w5.cell? ⟨N, 1, none⟩ = some (.int .u64 y) ∧ N < w5.heap.size := by
  have hl : N < (wx.alloc o).heap.size := by have := h.lt; simp; omega
  refine ⟨(World.cell?_of_block (a := ⟨N, 1, none⟩) (hg.block N hl (fun e => by have := h.no N e.symm; omega))).trans ?_, Nat.lt_of_lt_of_le hl hg.size⟩
  exact ((new_below wx o).cell (p := ⟨N, 1, none⟩) h.lt).trans h.c1

theorem edgeW_not {fr q x y : Int} {st : WSt} (h : ¬ x = q) : edgeW fr q st (x, y) = st := by unfold edgeW; rw [if_pos h]
theorem edgeW_met {fr q y : Int} {st : WSt} (h : metW st.1 y = true) : edgeW fr q st (q, y) = st := by unfold edgeW; rw [if_neg (by simp), if_pos h]
theorem edgeW_new {fr q y : Int} {st : WSt} (h : metW st.1 y = false) : edgeW fr q st (q, y) = (st.1 ++ [(y, q)], if y ≠ fr then st.2 ++ [y] else st.2) := by unfold edgeW; rw [if_neg (by simp), if_neg (by simp [h])]

set_option maxHeartbeats 4000000 in
theorem walk_any (a : Option Addr) (len cap : Nat) (l : List (Int × Int)) (fr : Int) (w : World) (h : IsY layE w a len cap l) (hl : len ≤ 100000) :
    Calls Tryd.prog 62 #[.slice a len cap, .int .u64 fr] w fun e w' => ∃ v, e = .returned v ∧ OwnY layS w' w.heap.size v (walkW l fr) ∧ Below w.heap.size w w' := by
  have H := hide h
  have HL := hide h.1
  have hlc := h.2.1
  have hm : (cap : Int) ≤ 9223372036854775807 := by have := h.2.2.1; unfold maxLen at this; omega
  clear h
  go_enter Tryd.func62, Tryd.ntmps62
  go_wp2
  go_loopg [5, 6, 7] (len + 2) (fun gk vo vq i wr => ∃ (k : Nat) (st : WSt), gk = len + 2 - k ∧ i = .int .i64 k ∧ k ≤ len + 2 ∧ (itW fr l (len + 2 - k) k st).1 = walkW l fr ∧ GoodW l st ∧ OwnY layS wr w.heap.size vo st.1 ∧ OwnY layU wr w.heap.size vq st.2 ∧ OffY vo vq ∧ Below w.heap.size w wr)
  case atStart => exact ⟨0, ([], [fr]), rfl, rfl, Nat.zero_le _, by unfold walkW; rw [HL.out]; rfl, goodW_new _ _, ownY_nil _ _, ownY_one w _ _ fr (Nat.le_refl _) rfl, (fun g hg => by cases hg), new_below _ _⟩
  case round =>
    obtain ⟨k, st, rfl, rfl, hk, hI, hG, hO, hQ, hF, hB⟩ := hrel
    obtain ⟨oa, on, oc, rfl⟩ := hO.any3
    obtain ⟨qa, qn, qc, rfl⟩ := hQ.any3
    have hqn := hQ.len.1
    have hqc := hQ.len.2
    have hqm : (qc : Int) ≤ 9223372036854775807 := by have := hqc.2; unfold maxLen at this; omega
    have hgq := hG.qle
    rw [HL.out] at hgq
    have HI := hide hI
    have HG := hide hG
    have HO := hide hO
    have HQ := hide hQ
    have HF := hide hF
    have HB := hide hB
    clear hI hG hO hQ hF hB
    by_cases hlt : k < qn
    · have hlt' : (k : Int) < (qn : Int) := by omega
      have HMo := hide (itW_more fr l (len + 2) k st (by omega) (by omega))
      have HAt := hide (fun m => foldW_at fr (st.2.getD k 0) m st k (by omega))
      have HGf := hide (fun j => HG.out.fold fr (st.2.getD k 0) (l.take j) st (fun e he => List.mem_of_mem_take he))
      generalize st.2.getD k 0 = q at *
      go_upto_block 1 with fail
      go_cut [5, 6] (fun vo vq wx => OwnY layS wx w.heap.size vo (rowW fr q l st).1 ∧ OwnY layU wx w.heap.size vq (rowW fr q l st).2 ∧ OffY vo vq ∧ Below w.heap.size w wx)
      case first =>
        go_wp2_with fail
        go_loopg [5, 6, 23] len (fun gk vo vq i wx => ∃ (j : Nat), gk = len - j ∧ i = .int .i64 j ∧ j ≤ len ∧ OwnY layS wx w.heap.size vo ((l.take j).foldl (edgeW fr q) st).1 ∧ OwnY layU wx w.heap.size vq ((l.take j).foldl (edgeW fr q) st).2 ∧ OffY vo vq ∧ Below w.heap.size w wx)
        case atStart => exact ⟨0, rfl, rfl, Nat.zero_le _, HO.out, HQ.out, HF.out, HB.out⟩
        case round =>
          clear HO HQ HF HB hqn hqc hqm hgq HI
          obtain ⟨j, rfl, rfl, hj, hO, hQ, hF, hB⟩ := hrel
          obtain ⟨oa, on, oc, rfl⟩ := hO.any3
          obtain ⟨qa, qn, qc, rfl⟩ := hQ.any3
          have HO := hide hO
          have HQ := hide hQ
          have HF := hide hF
          have HB := hide hB
          clear hO hQ hF hB
          by_cases hjl : j < len
          · have hjl' : (j : Int) < (len : Int) := by omega
            obtain ⟨x, y, hxy⟩ := pair_at (l := l) (j := j) (by have := HL.out; omega)
            obtain ⟨g0, off0, rfl, hg0, hC0⟩ := H.out.at hjl
            have HCe := hide (rangeY_same (hC0 j _ hxy) (HB.out.block g0 hg0))
            have HSt := hide (foldl_take_succ (edgeW fr q) st l j (x, y) hxy)
            obtain ⟨hkq, hqk⟩ := HAt.out (l.take j)
            have HGj := hide (HGf.out j)
            generalize (l.take j).foldl (edgeW fr q) st = sj at *
            clear hC0
            have hqn := HQ.out.len
            have hon := HO.out.len
            have hqc : (qc : Int) ≤ 9223372036854775807 := by have := hqn.2.2; unfold maxLen at this; omega
            have hoc : (oc : Int) ≤ 9223372036854775807 := by have := hon.2.2; unfold maxLen at this; omega
            have hkq' : (k : Int) < (qn : Int) := by omega
            rcases HQ.out.form with ⟨e, eq⟩ | ⟨gq, cq, e, hgq1, hgq2, hqcap, hqmx, hCq, hFq⟩
            · exfalso; rw [eq] at hkq; simp at hkq
            cases e
            have hcell := cellU hCq hqk
            have HCq := hide hcell
            have hwr := HB.out.size
            have hbig1 : sj.1.length ≤ len := by have := HGj.out.le; have := HL.out; omega
            have hbig2 : sj.2.length ≤ len + 1 := by have := HGj.out.qle; have := HL.out; omega
            clear hCq hFq
            go_upto_block 3 with fail
            go_cut [5, 6] (fun vo vq wx => OwnY layS wx w.heap.size vo (edgeW fr q sj (x, y)).1 ∧ OwnY layU wx w.heap.size vq (edgeW fr q sj (x, y)).2 ∧ OffY vo vq ∧ Below w.heap.size w wx)
            case first =>
              go_wp2_with (first
                | (refine wp_loadY layE _ _ Tryd.underlying70 rfl rfl (.tmp 25) rfl g0 (off0 + j * 2) (x, y) #[.int .u64 x, .int .u64 y] rfl rfl HCe.out ?_))
              have HFx := hide (factW_new (x := x) (y := y) 70 HO.out HQ.out HB.out)
              have cq1 := ((new_below wr (.cells #[.int .u64 x, .int .u64 y] 70)).cell (p := ⟨gq, k, none⟩) hgq2).trans HCq.out
              by_cases hxq : x = q
              · subst hxq
                go_quiet (first | fail)
                go_upto_block 4 with fail
                go_cut [10] (fun s10 wx => s10 = .bool (metW sj.1 y) ∧ FactW w wr.heap.size x y (.slice oa on oc) (.slice (some ⟨gq, 0, none⟩) sj.2.length qc) sj wx)
                case first =>
                  go_wp2_with fail
                  go_loopg [10, 36] on (fun gk s10 s36 wx => ∃ m : Nat, gk = on - m ∧ s36 = .int .i64 m ∧ m ≤ on ∧ s10 = .bool (metW (sj.1.take m) y) ∧ FactW w wr.heap.size x y (.slice oa on oc) (.slice (some ⟨gq, 0, none⟩) sj.2.length qc) sj wx)
                  case atStart => exact ⟨0, rfl, rfl, Nat.zero_le _, rfl, HFx.out.drN _⟩
                  case round =>
                    obtain ⟨m, rfl, rfl, hm, rfl, hFx⟩ := hrel
                    have HFm := hide hFx
                    clear hFx
                    by_cases hmo : m < on
                    · have hmo' : (m : Int) < (on : Int) := by omega
                      obtain ⟨s, t, hst⟩ := pair_at (l := sj.1) (j := m) (by omega)
                      rcases HFm.out.o.form with ⟨e, eo⟩ | ⟨go, co, e, hgo1, hgo2, hocap, homx, hCo, hFo⟩
                      · exfalso; rw [eo] at hst; simp at hst
                      cases e
                      have HCo0 := hCo m _ hst
                      rw [Nat.zero_add] at HCo0
                      obtain ⟨d0, d1⟩ := rangeE HCo0
                      have d0' : wr.cell? ⟨go, m * 2, none⟩ = some (.int .u64 s) := d0
                      have d1' : wr.cell? ⟨go, m * 2 + 1, none⟩ = some (.int .u64 t) := d1
                      clear HCo0 d0 d1
                      have HMm := hide (metW_more sj.1 m (s, t) y hst)
                      have HF2 := hide (HFm.out.keep (new_below _ (.cells #[.int .u64 s, .int .u64 t] 89)))
                      have e0 := HF2.out.c0
                      have e1 := HF2.out.c1
                      have er := rangeY_new wr wr.heap.size #[.int .u64 s, .int .u64 t] 89 rfl
                      have f0 := er 0 _ rfl
                      generalize metW (sj.1.take m) y = zk at *
                      clear hCo hFo er
                      cases zk
                      · obtain ⟨z, hz⟩ : ∃ z : Bool, (s == y) = z := ⟨_, rfl⟩
                        have HZ := hide hz
                        go_wp2
                        go_roundg (sj.1.length - (m + 1))
                        case measure => omega
                        case rel => exact ⟨m + 1, rfl, by go_num, by omega, by rw [HMm.out]; simp [HZ.out], HF2.out⟩
                      · go_wp2
                        go_roundg (sj.1.length - (m + 1))
                        case measure => omega
                        case rel => exact ⟨m + 1, rfl, by go_num, by omega, by rw [HMm.out]; simp, HF2.out⟩
                    · have hmo' : ¬ (m : Int) < (on : Int) := by omega
                      have em : sj.1.take m = sj.1 := List.take_of_length_le (by omega)
                      rw [em]
                      go_wp2
                      go_meet
                      exact ⟨rfl, HFm.out⟩
                case rest =>
                  obtain ⟨rfl, hFc⟩ := hcut
                  have HFc := hide hFc
                  have g0 := hFc.c0
                  have g1 := hFc.c1
                  have hbl := hFc.b.size
                  clear hFc cq1
                  obtain ⟨z, hz⟩ : ∃ z, metW sj.1 y = z := ⟨_, rfl⟩
                  have HZ := hide hz
                  rw [hz]
                  clear hz
                  cases z
                  · have HE := hide (edgeW_new (fr := fr) (q := x) HZ.out)
                    have HO1 := hide (HFc.out.o.keep (new_below wc (.cells #[.int .u64 y, .int .u64 x] 89)))
                    have HQ1 := hide (HFc.out.q.keep (new_below wc (.cells #[.int .u64 y, .int .u64 x] 89)))
                    have HS1 := hide (srcY_one (L := layS) _ (y, x) wc.heap.size (by simp) (rangeY_new wc wc.heap.size #[.int .u64 y, .int .u64 x] 89 rfl))
                    by_cases hyf : y = fr
                    · have HE2 : Hid (edgeW fr x sj (x, y) = (sj.1 ++ [(y, x)], sj.2)) := by show _ = _; rw [HE.out, if_neg (by simp [hyf])]
                      subst hyf
                      go_wp2_with (first
                        | (at_builtin; go_must (refine wp_joinY layS _ rfl (.tmp 50) (.tmp 56) rfl w.heap.size _ sj.1 rfl HO1.out (some ⟨wc.heap.size, 0, none⟩) 1 1 [(y, x)] rfl HS1.out (by simp; omega) (by simp; omega) ?_); intro v5 w5 hown5 hg5 hat5; obtain ⟨k1, k2⟩ := HFc.out.after hg5; have HO5 := hide hown5; have HQ5 := hide (HQ1.out.off HF.out hg5); have HF5 := hide (HF.out.grown hat5 (fun g hg => (HQ1.out.lt g hg).2)); have HB5 := hide (((new_below wc _).mono hbl).trans (HO1.out.grown hg5 (by simp; omega))); obtain ⟨xa, xn, xc, rfl⟩ := hown5.any3; clear hown5 hg5 hat5))
                      go_meet
                      exact ⟨by rw [HE2.out]; exact HO5.out, by rw [HE2.out]; exact HQ5.out, HF5.out, HFc.out.b.trans HB5.out⟩
                    · have HE2 : Hid (edgeW fr x sj (x, y) = (sj.1 ++ [(y, x)], sj.2 ++ [y])) := by show _ = _; rw [HE.out, if_pos hyf]
                      go_wp2_with (first
                        | (at_builtin; refine wp_joinY layU _ rfl (.tmp 62) (.tmp 65) rfl w.heap.size _ sj.2 rfl (HQ5.out.keep (new_below _ _)) (some ⟨w5.heap.size, 0, none⟩) 1 1 [y] rfl (srcY_one (L := layU) _ y w5.heap.size (by simp) (rangeY_new w5 w5.heap.size #[.int .u64 y] 22 rfl)) (by simp; omega) (by simp; omega) ?_; intro v6 w6 hown6 hg6 hat6; have HQ6 := hide hown6; have HO6 := hide ((HO5.out.keep (new_below w5 _)).off HF5.out.symm hg6); have HF6 := hide ((HF5.out.symm.grown hat6 (fun g hg => by have := (HO5.out.lt g hg).2; simp; omega)).symm); have HB6 := hide (((new_below w5 _).mono h5s).trans ((HQ5.out.keep (new_below w5 _)).grown hg6 (by simp; omega))); obtain ⟨za, zn, zc, rfl⟩ := hown6.any3; clear hown6 hg6 hat6)
                        | (at_builtin; go_must (refine wp_joinY layS _ rfl (.tmp 50) (.tmp 56) rfl w.heap.size _ sj.1 rfl HO1.out (some ⟨wc.heap.size, 0, none⟩) 1 1 [(y, x)] rfl HS1.out (by simp; omega) (by simp; omega) ?_); intro v5 w5 hown5 hg5 hat5; obtain ⟨k1, k2⟩ := HFc.out.after hg5; have HO5 := hide hown5; have HQ5 := hide (HQ1.out.off HF.out hg5); have HF5 := hide (HF.out.grown hat5 (fun g hg => (HQ1.out.lt g hg).2)); have HB5 := hide (((new_below wc _).mono hbl).trans (HO1.out.grown hg5 (by simp; omega))); have h5s : w.heap.size ≤ w5.heap.size := Nat.le_trans hbl HB5.out.size; obtain ⟨xa, xn, xc, rfl⟩ := hown5.any3; clear hown5 hg5 hat5))
                      go_meet
                      exact ⟨by rw [HE2.out]; exact HO6.out, by rw [HE2.out]; exact HQ6.out, HF6.out, (HFc.out.b.trans HB5.out).trans HB6.out⟩
                  · have HE := hide (edgeW_met (fr := fr) (q := x) HZ.out)
                    go_wp2
                    go_meet
                    exact ⟨by rw [HE.out]; exact HFc.out.o, by rw [HE.out]; exact HFc.out.q, HF.out, HFc.out.b⟩
              · have hE := edgeW_not (fr := fr) (y := y) (st := sj) hxq
                go_quiet (first | fail)
                go_wp2
                go_meet
                exact ⟨by rw [hE]; exact (HFx.out.drN _).o, by rw [hE]; exact (HFx.out.drN _).q, HF.out, (HFx.out.drN _).b⟩
            case rest =>
              obtain ⟨hO, hQ, hF, hB⟩ := hcut
              go_wp2
              go_roundg (len - (j + 1))
              case measure => omega
              case rel => exact ⟨j + 1, rfl, by go_num, by omega, by rw [HSt.out]; exact hO, by rw [HSt.out]; exact hQ, hF, hB⟩
          · have hjl' : ¬ (j : Int) < (len : Int) := by omega
            have ej : l.take j = l := List.take_of_length_le (by have := HL.out; omega)
            rw [ej] at HO HQ
            go_wp2
            go_meet
            exact ⟨HO.out, HQ.out, HF.out, HB.out⟩
      case rest =>
        obtain ⟨hO, hQ, hF, hB⟩ := hcut
        go_wp2
        go_roundg (len + 2 - (k + 1))
        case measure => omega
        case rel => exact ⟨k + 1, rowW fr q l st, rfl, by go_num, by omega, by rw [← HMo.out]; exact HI.out, (by have := HGf.out len; rw [List.take_of_length_le (by have := HL.out; omega)] at this; exact this), hO, hQ, hF, hB⟩
    · have hlt' : ¬ (k : Int) < (qn : Int) := by omega
      have HE : Hid (st.1 = walkW l fr) := by show _ = _; rw [← HI.out, itW_end fr l _ k st (by omega)]
      go_wp2
      go_ret
      exact ⟨_, rfl, by rw [← HE.out]; exact HO.out, HB.out⟩

end Go.Proofs.YtbnojmaknlfphaaDoor
