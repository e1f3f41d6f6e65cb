/- The reference's Put, walked. -/
import Derived.Test.YtfldiapdfpkdaaaMvX
namespace Go.Proofs.Ytfldiapdfpkdaaa
open Go.RowKit NumMath Go.ChangeShapes Go.WideShapes Go.Deep
set_option linter.unusedVariables false
set_option maxRecDepth 100000

/-- a version in a block of its own -/
structure BoxV (w : World) (N : Nat) (m : MV) : Prop where
  r : w.rangeAt N 0 (layV.cells m)
  lt : N < w.heap.size

theorem boxV_new (w : World) (m : MV) : BoxV (w.alloc (.cells #[.int .u64 m.v.ts, .int .u64 m.v.tx, .bool m.v.dd, .slice m.va m.vn m.vc, .slice m.ka m.kn m.kc] 36)) w.heap.size m :=
  ⟨rangeY_new w w.heap.size _ _ rfl, by simp⟩

theorem BoxV.keep {w w' : World} {N : Nat} {m : MV} (h : BoxV w N m) (hb : Below w.heap.size w w') : BoxV w' N m := ⟨rangeY_same h.r (hb.block N h.lt), Nat.lt_of_lt_of_le h.lt hb.size⟩

theorem BoxV.lies {w w' : World} {N : Nat} {m : MV} {M : Nat → Prop} (h : BoxV w N m) (hk : Keeps M w w') (hn : ¬ M N) : BoxV w' N m := ⟨rangeY_same h.r (hk.block N h.lt hn), Nat.lt_of_lt_of_le h.lt hk.size⟩

theorem rangeV {w : World} {g o : Nat} {m : MV} (h : w.rangeAt g o (layV.cells m)) : w.cell? ⟨g, o, none⟩ = some (.int .u64 m.v.ts) ∧ w.cell? ⟨g, o + 1, none⟩ = some (.int .u64 m.v.tx) ∧ w.cell? ⟨g, o + 2, none⟩ = some (.bool m.v.dd) ∧ w.cell? ⟨g, o + 3, none⟩ = some (.slice m.va m.vn m.vc) ∧ w.cell? ⟨g, o + 4, none⟩ = some (.slice m.ka m.kn m.kc) :=
  ⟨h 0 _ rfl, h 1 _ rfl, h 2 _ rfl, h 3 _ rfl, h 4 _ rfl⟩

theorem BoxV.after {w w' : World} {N : Nat} {m : MV} {v : Value} (h : BoxV w N m) (hg : w.grownBy w' v.ownBlock) (hn : ∀ g, v.ownBlock = some g → ¬ g = N) : BoxV w' N m :=
  h.lies (Keeps.ofGrown hg) (fun e => hn N e rfl)

theorem insC_vs (st : List Cel) (key : List Int) : ∀ c ∈ insC st key, c.vs = [] ∨ c ∈ st := by
  intro c hc
  unfold insC at hc
  split at hc
  · exact .inr hc
  · rcases List.mem_append.1 hc with h | h
    · exact .inr (List.mem_of_mem_take h)
    · rcases List.mem_cons.1 h with h | h
      · exact .inl (by rw [h])
      · exact .inr (List.mem_of_mem_drop h)

def tsM (x : MV) : Int := x.v.ts

theorem foldl_take_succ5 {β γ : Type} (f : β → γ → β) (b : β) (l : List γ) (k : Nat) (x : γ) (h : l[k]? = some x) : (l.take (k + 1)).foldl f b = f ((l.take k).foldl f b) x := by
  rw [List.take_add_one, h]
  simp

theorem stepP_r {α : Type} (ts : α → Int) (v : α) (acc : List α × Bool) (x : α) (r : List α × Bool) (hr : r = if acc.2 = false ∧ ts x ≤ ts v then (acc.1 ++ [v], true) else acc) : stepP ts v acc x = if ts x = ts v then r else (r.1 ++ [x], r.2) := by
  subst hr; rfl

abbrev cellsV (m : MV) : Array Value := #[.int .u64 m.v.ts, .int .u64 m.v.tx, .bool m.v.dd, .slice m.va m.vn m.vc, .slice m.ka m.kn m.kc]

theorem modify_at {α : Type} (f : α → α) : ∀ (l : List α) (i : Nat) (d : α), l[i]? = some d → l.modify i f = l.set i (f d) := by
  intro l
  induction l with
  | nil => intro i d h; simp at h
  | cons x r ih =>
    intro i d h
    cases i with
    | zero => simp at h; subst h; rfl
    | succ j => simp at h; rw [List.modify_succ_cons, List.set_cons_succ, ih j d h]

theorem keepsOfB {X : Nat → Prop} {w w' : World} (h : Below w.heap.size w w') : Keeps X w w' := ⟨h.os, h.tape, h.output, h.size, fun g hg _ => h.block g hg⟩

theorem keeps_sp {p : Nat} {cv cv2 : Value} {w w2 w3 : World} (h1 : Keeps (Sp p cv) w w2) (ha : AtB w cv cv2) (h2 : Keeps (Sp p cv2) w2 w3) : Keeps (Sp p cv) w w3 :=
  ⟨h2.os.trans h1.os, h2.tape.trans h1.tape, h2.output.trans h1.output, Nat.le_trans h1.size h2.size, fun g hg hn => (h2.block g (Nat.lt_of_lt_of_le hg h1.size) (fun e => by
    rcases e with e | e
    · exact hn (.inl e)
    · rcases ha with ha | ⟨g', ha, hle⟩
      · exact hn (.inr (ha ▸ e))
      · rw [ha] at e; cases e; omega)).trans (h1.block g hg hn)⟩

/-- the post of a call that sets a key's versions behind cell -/
theorem CellPost.setVs {F : Nat → Prop} {w0 w w1 w2 w3 : World} {p g n cap : Nat} {cv : Value} {st1 stF : List Cel} {ms2 : List MC} (hb : Below w.heap.size w w1) (h : CellPost F w0 w1 p cv st1 w2 (.slice (some ⟨g, 0, none⟩) n cap) ms2) {i : Nat} {m2 : MC} {d0 : Cel} (hi : ms2[i]? = some m2) (hd : st1[i]? = some d0) (hmd : m2.c = d0) (f : List Ver → List Ver) (hF : stF = st1.modify i (Go.Proofs.Ytfldiapdfpkdaaa.setVs f))
    (hb3 : Below w2.heap.size w2 w3) (a : Option Addr) (vn vc : Nat) (vs : List MV) (hv : OwnY layV w3 w2.heap.size (.slice a vn vc) vs) (hvs : vs.map MV.v = f (m2.vs.map MV.v)) (hok : ∀ v ∈ vs, v.ok w0) (o : Nat) (eo : o = i * 7 + 1) :
    CellPost F w0 w p cv stF (w3.setCell ⟨g, o, none⟩ (.slice a vn vc)) (.slice (some ⟨g, 0, none⟩) n cap) (ms2.set i { m2 with vs := vs, va := a, vn := vn, vc := vc }) := by
  have h3 := h.is.keep hb3
  have ho : Out (SpF F p (.slice (some ⟨g, 0, none⟩) n cap)) a vn := by
    by_cases h0 : vn = 0
    · exact .inl h0
    · refine .inr (fun y hy hX => ?_)
      have h1 := (hv.lt y.block (by rw [hy]; rfl)).1
      rcases hX with (hX | hX) | hX
      · have := h.is.lt; omega
      · have := (h.is.own.lt _ hX).2; omega
      · have := h.is.fl _ hX; omega
  obtain ⟨r1, r2⟩ := h3.setVs hi a vn vc vs hv.is ho hok o eo
  have ha : AtB w cv (.slice (some ⟨g, 0, none⟩) n cap) := by
    rcases h.at' with e | ⟨g', e, hle⟩
    · exact .inl e
    · exact .inr ⟨g', e, Nat.le_trans hb.size hle⟩
  have hk1 : Keeps (Sp p cv) w w2 := ⟨h.kp.os.trans hb.os, h.kp.tape.trans hb.tape, h.kp.output.trans hb.output, Nat.le_trans hb.size h.kp.size, fun k hk hn => (h.kp.block k (Nat.lt_of_lt_of_le hk hb.size) hn).trans (hb.block k hk)⟩
  refine ⟨r1, ?_, keeps_sp hk1 ha (keeps_sp (keepsOfB hb3) (.inl rfl) r2), ha⟩
  rw [hF, modify_at _ st1 i d0 hd, ← h.eq, List.map_set]
  congr 1
  rw [← hmd]
  show (⟨m2.key, vs.map MV.v, m2.it.v⟩ : Cel) = ⟨m2.key, f (m2.vs.map MV.v), m2.it.v⟩
  rw [hvs]

set_option maxHeartbeats 4000000 in
theorem put_any (HCS : CellSpec) (F : Nat → Prop) (w0 w : World) (p : Nat) (cv : Value) (ms : List MC) (h : IsXs F w0 w p cv ms) (hf : ms.length ≤ 100000) (hfv : ∀ m ∈ ms, m.vs.length ≤ 100000) (a : Option Addr) (n c : Nat) (key : List Int) (hk : IsBytes w a n c key) (hn : n ≤ 100000) (m : MV) (hm : m.ok w0) :
    Calls Try.prog 26 #[.pointer (some ⟨p, 0, none⟩), .slice a n c, .agg #[.int .u64 m.v.ts, .int .u64 m.v.tx, .bool m.v.dd, .slice m.va m.vn m.vc, .slice m.ka m.kn m.kc]] w fun e w' => e = .returned (.tuple #[]) ∧ ∃ cv' ms', CellPost F w0 w p cv (putC (ms.map MC.c) key m.v) w' cv' ms' := by
  have hb0 := new_below w (.cells #[.int .u64 m.v.ts, .int .u64 m.v.tx, .bool m.v.dd, .slice m.va m.vn m.vc, .slice m.ka m.kn m.kc] 36)
  have HCl := hide (HCS F w0 _ p cv ms (h.keep hb0) hf a n c key (hk.keep hb0) hn)
  have HBx := hide (boxV_new w m)
  have hNp : ¬ Sp p cv w.heap.size := by
    rintro (e | e)
    · have := h.lt; omega
    · have := (h.own.lt _ e).2; omega
  have HNp := hide hNp
  have HAt := hide (insC_at (ms.map MC.c) key)
  have HVb : Hid (∀ c ∈ insC (ms.map MC.c) key, c.vs.length ≤ 100000) := by
    intro c hc
    rcases insC_vs _ _ c hc with h1 | h1
    · rw [h1]; simp
    · obtain ⟨m', hm', rfl⟩ := List.mem_map.1 h1
      show (m'.vs.map MV.v).length ≤ _
      rw [List.length_map]
      exact hfv m' hm'
  have HPC : Hid (putC (ms.map MC.c) key m.v = (insC (ms.map MC.c) key).modify (plc (ms.map MC.c) key) (setVs (putP Ver.ts m.v))) := by show _ = _; rfl
  generalize plc (ms.map MC.c) key = i at *
  generalize putC (ms.map MC.c) key m.v = stF at *
  generalize insC (ms.map MC.c) key = st1 at *
  have HM := hide hm
  clear h hk hNp hm hfv
  go_enter Try.func26, Try.ntmps26
  go_wp2_with (first
    | (go_at_call 50; go_must (refine HCl.out.mono ?_); rintro e w2 ⟨cv2, ms2, rfl, hpost⟩; have HPo := hide hpost; have HB2 := hide (HBx.out.lies hpost.kp HNp.out); obtain ⟨d0, hd0⟩ := HAt.out; have hd1 := hd0; rw [← hpost.eq, List.getElem?_map] at hd1; obtain ⟨m2, hm2, hmd⟩ := Option.map_eq_some_iff.1 hd1; obtain ⟨g, cap, rfl, hg, hcap, hmx, hr, hfr⟩ := hpost.is.at hm2; have c2 := hpost.is.c; have d1 : w2.cell? ⟨g, i * 7 + 1, none⟩ = some (.slice m2.va m2.vn m2.vc) := hr 1 _ rfl; have hil : (i : Int) < (ms2.length : Int) := (by have := (List.getElem?_eq_some_iff.1 hm2).1; omega); have hcapI : (cap : Int) ≤ 9223372036854775807 := (by unfold maxLen at hmx; omega); clear hpost hr hd1))
  have HVs := hide (HPo.out.is.ok m2 (List.mem_of_getElem? hm2)).vs
  have hvn := HVs.out.1
  have hvb : m2.vs.length ≤ 100000 := by
    have := HVb.out d0 (List.mem_of_getElem? hd0)
    rw [← hmd] at this
    show m2.vs.length ≤ _
    have e : m2.c.vs.length = m2.vs.length := by show (m2.vs.map MV.v).length = _; rw [List.length_map]
    omega
  have hvcI : (m2.vc : Int) ≤ 9223372036854775807 := by have := HVs.out.2.2.1; unfold maxLen at this; omega
  have hvle := HVs.out.2.1
  have hNlt : w.heap.size < w2.heap.size := HB2.out.lt
  go_loopg [7, 8, 23] m2.vn (fun gk vl dn ix wr => ∃ j : Nat, gk = m2.vn - j ∧ ix = .int .i64 j ∧ j ≤ m2.vn ∧ OwnY layV wr w2.heap.size vl ((m2.vs.take j).foldl (stepP tsM m) ([], false)).1 ∧ dn = .bool ((m2.vs.take j).foldl (stepP tsM m) ([], false)).2 ∧ Below w2.heap.size w2 wr)
  case atStart => exact ⟨0, rfl, rfl, Nat.zero_le _, ownY_nil _ _, rfl, Below.refl _ _⟩
  case round =>
    obtain ⟨j, rfl, rfl, hj, hL, rfl, hB⟩ := hrel
    have HL := hide hL
    have HB := hide hB
    have hwr := hB.size
    have hlen := foldP_len tsM m (m2.vs.take j) ([], false)
    obtain ⟨la, ln, lc, rfl⟩ := hL.any3
    clear hL hB
    by_cases hjl : j < m2.vn
    · have hjI : (j : Int) < (m2.vn : Int) := by omega
      obtain ⟨x, hx⟩ : ∃ x, m2.vs[j]? = some x := ⟨_, List.getElem?_eq_getElem (by omega)⟩
      obtain ⟨gv, ov, hva, hgv, hCv⟩ := HVs.out.at hjl
      have hrx := rangeY_same (hCv j x hx) (HB.out.block gv hgv)
      obtain ⟨x0, x1, x2, x3, x4⟩ := rangeV hrx
      have x0' : wr.cell? ⟨gv, ov + j * 5, none⟩ = some (.int .u64 x.v.ts) := x0
      have x1' : wr.cell? ⟨gv, ov + j * 5 + 1, none⟩ = some (.int .u64 x.v.tx) := x1
      have x2' : wr.cell? ⟨gv, ov + j * 5 + 2, none⟩ = some (.bool x.v.dd) := x2
      have x3' : wr.cell? ⟨gv, ov + j * 5 + 3, none⟩ = some (.slice x.va x.vn x.vc) := x3
      have x4' : wr.cell? ⟨gv, ov + j * 5 + 4, none⟩ = some (.slice x.ka x.kn x.kc) := x4
      have HSt := hide (foldl_take_succ5 (stepP tsM m) ([], false) m2.vs j x hx)
      generalize (m2.vs.take j).foldl (stepP tsM m) ([], false) = acc at *
      obtain ⟨l, d⟩ := acc
      have HX1 := hide (boxV_new wr x)
      have HK1 := hide (new_below wr (.cells (cellsV x) 36))
      have HM1 := hide ((HB2.out.keep HB.out).keep HK1.out)
      have HL1 := hide (HL.out.keep HK1.out)
      obtain ⟨b0, b1, b2, b3, b4⟩ := rangeV HM1.out.r
      obtain ⟨y0, y1, y2, y3, y4⟩ := rangeV HX1.out.r
      have hll : l.length ≤ 100001 := by simp at hlen; omega
      clear x0 x1 x2 x3 x4 hrx hCv
      rw [hva]
      have HKm := hide (new_below (wr.alloc (.cells (cellsV x) 36)) (.cells (cellsV m) 36))
      have HKx := hide (new_below (wr.alloc (.cells (cellsV x) 36)) (.cells (cellsV x) 36))
      have HLm := hide (HL1.out.keep HKm.out)
      have HLx := hide (HL1.out.keep HKx.out)
      have HSm := hide (srcY_one (L := layV) _ m (wr.heap.size + 1) (by simp) (rangeY_new (wr.alloc (.cells (cellsV x) 36)) (wr.heap.size + 1) (cellsV m) 36 (by simp)))
      have HSx := hide (srcY_one (L := layV) _ x (wr.heap.size + 1) (by simp) (rangeY_new (wr.alloc (.cells (cellsV x) 36)) (wr.heap.size + 1) (cellsV x) 36 (by simp)))
      have HBg : Hid (l.length + 1 ≤ 1000000000) := by show _ ≤ _; omega
      have HBg2 : Hid ((l ++ [m]).length + 1 ≤ 1000000000) := by show _ ≤ _; simp; omega
      have HZm : Hid (w2.heap.size ≤ ((wr.alloc (.cells (cellsV x) 36)).alloc (.cells (cellsV m) 36)).heap.size) := by show _ ≤ _; simp; omega
      have HZx : Hid (w2.heap.size ≤ ((wr.alloc (.cells (cellsV x) 36)).alloc (.cells (cellsV x) 36)).heap.size) := by show _ ≤ _; simp; omega
      have HNx : Hid (∀ g, (Value.slice la ln lc).ownBlock = some g → ¬ g = wr.heap.size) := fun g hg e => by have := (HL.out.lt g hg).2; omega
      have HNm : Hid (∀ g, (Value.slice la ln lc).ownBlock = some g → ¬ g = w.heap.size) := fun g hg e => by have := (HL.out.lt g hg).1; omega
      have ets : tsM x = x.v.ts := rfl
      have etm : tsM m = m.v.ts := rfl
      cases d
      · by_cases h1 : x.v.ts ≤ m.v.ts
        · by_cases h2 : x.v.ts = m.v.ts
          · have HE : Hid (stepP tsM m (l, false) x = (l ++ [m], true)) := by show _ = _; rw [stepP_r tsM m _ x _ rfl, ets, etm, if_pos h2, if_pos ⟨rfl, h1⟩]
            have h2' : (x.v.ts != m.v.ts) = false := by simpa using h2
            clear h2
            go_wp2_with (first
              | (at_builtin; refine wp_joinY layV _ rfl (.tmp 36) (.tmp 38) rfl w2.heap.size _ l rfl HLm.out (some ⟨wr.heap.size + 1, 0, none⟩) 1 1 [m] rfl HSm.out HBg.out HZm.out ?_; intro v5 w5 hown5 hg5 hat5; obtain ⟨e0, e1, e2, e3, e4⟩ := rangeV ((HX1.out.keep HKm.out).after hg5 HNx.out).r; obtain ⟨f0, -, -, -, -⟩ := rangeV ((HM1.out.keep HKm.out).after hg5 HNm.out).r; have HO5 := hide hown5; have HB5 := hide ((HK1.out.trans (HKm.out.mono HK1.out.size)).mono hwr |>.trans (HLm.out.grown hg5 HZm.out)); have h5s : w2.heap.size ≤ w5.heap.size := Nat.le_trans hwr HB5.out.size; obtain ⟨xa, xn, xc, rfl⟩ := hown5.any3; clear hown5 hg5 hat5))
            rw [← hva]
            go_roundg (m2.vn - (j + 1))
            case measure => omega
            case rel => exact ⟨j + 1, rfl, by go_num, by omega, by rw [HSt.out, HE.out]; exact HO5.out, by rw [HSt.out, HE.out], HB.out.trans HB5.out⟩
          · have HE : Hid (stepP tsM m (l, false) x = (l ++ [m] ++ [x], true)) := by show _ = _; rw [stepP_r tsM m _ x _ rfl, ets, etm, if_neg h2, if_pos ⟨rfl, h1⟩]
            have h2' : (x.v.ts != m.v.ts) = true := by simpa using h2
            clear h2
            go_wp2_with (first
              | (at_builtin; refine wp_joinY layV _ rfl (.tmp 45) (.tmp 47) rfl w2.heap.size _ (l ++ [m]) rfl (HO5.out.keep (new_below w5 (.cells (cellsV x) 36))) (some ⟨w5.heap.size, 0, none⟩) 1 1 [x] rfl (srcY_one (L := layV) _ x w5.heap.size (by simp) (rangeY_new w5 w5.heap.size (cellsV x) 36 rfl)) HBg2.out (Nat.le_trans h5s (new_below w5 _).size) ?_; intro v6 w6 hown6 hg6 hat6; have HO6 := hide hown6; have HB6 := hide (((new_below w5 (.cells (cellsV x) 36)).mono h5s).trans ((HO5.out.keep (new_below w5 (.cells (cellsV x) 36))).grown hg6 (Nat.le_trans h5s (new_below w5 _).size))); obtain ⟨za, zn, zc, rfl⟩ := hown6.any3; clear hown6 hg6 hat6)
              | (at_builtin; refine wp_joinY layV _ rfl (.tmp 36) (.tmp 38) rfl w2.heap.size _ l rfl HLm.out (some ⟨wr.heap.size + 1, 0, none⟩) 1 1 [m] rfl HSm.out HBg.out HZm.out ?_; intro v5 w5 hown5 hg5 hat5; obtain ⟨e0, e1, e2, e3, e4⟩ := rangeV ((HX1.out.keep HKm.out).after hg5 HNx.out).r; obtain ⟨f0, -, -, -, -⟩ := rangeV ((HM1.out.keep HKm.out).after hg5 HNm.out).r; have HO5 := hide hown5; have HB5 := hide ((HK1.out.trans (HKm.out.mono HK1.out.size)).mono hwr |>.trans (HLm.out.grown hg5 HZm.out)); have h5s : w2.heap.size ≤ w5.heap.size := Nat.le_trans hwr HB5.out.size; obtain ⟨xa, xn, xc, rfl⟩ := hown5.any3; clear hown5 hg5 hat5))
            rw [← hva]
            go_roundg (m2.vn - (j + 1))
            case measure => omega
            case rel => exact ⟨j + 1, rfl, by go_num, by omega, by rw [HSt.out, HE.out]; exact HO6.out, by rw [HSt.out, HE.out], (HB.out.trans HB5.out).trans HB6.out⟩
        · have HE : Hid (stepP tsM m (l, false) x = (l ++ [x], false)) := by show _ = _; rw [stepP_r tsM m _ x _ rfl, ets, etm, if_neg (by omega), if_neg (fun e => h1 e.2)]
          have h2' : (x.v.ts != m.v.ts) = true := by simp; omega
          go_wp2_with (first
            | (at_builtin; refine wp_joinY layV _ rfl (.tmp 45) (.tmp 47) rfl w2.heap.size _ l rfl HLx.out (some ⟨wr.heap.size + 1, 0, none⟩) 1 1 [x] rfl HSx.out HBg.out HZx.out ?_; intro v5 w5 hown5 hg5 hat5; have HO5 := hide hown5; have HB5 := hide ((HK1.out.trans (HKx.out.mono HK1.out.size)).mono hwr |>.trans (HLx.out.grown hg5 HZx.out)); obtain ⟨xa, xn, xc, rfl⟩ := hown5.any3; clear hown5 hg5 hat5))
          rw [← hva]
          go_roundg (m2.vn - (j + 1))
          case measure => omega
          case rel => exact ⟨j + 1, rfl, by go_num, by omega, by rw [HSt.out, HE.out]; exact HO5.out, by rw [HSt.out, HE.out], HB.out.trans HB5.out⟩
      · by_cases h2 : x.v.ts = m.v.ts
        · have HE : Hid (stepP tsM m (l, true) x = (l, true)) := by show _ = _; rw [stepP_r tsM m _ x _ rfl, ets, etm, if_pos h2, if_neg (fun e => by cases e.1)]
          have h2' : (x.v.ts != m.v.ts) = false := by simpa using h2
          clear h2
          go_wp2
          rw [← hva]
          go_roundg (m2.vn - (j + 1))
          case measure => omega
          case rel => exact ⟨j + 1, rfl, by go_num, by omega, by rw [HSt.out, HE.out]; exact HL1.out, by rw [HSt.out, HE.out], HB.out.trans (HK1.out.mono hwr)⟩
        · have HE : Hid (stepP tsM m (l, true) x = (l ++ [x], true)) := by show _ = _; rw [stepP_r tsM m _ x _ rfl, ets, etm, if_neg h2, if_neg (fun e => by cases e.1)]
          have h2' : (x.v.ts != m.v.ts) = true := by simpa using h2
          clear h2
          go_wp2_with (first
            | (at_builtin; refine wp_joinY layV _ rfl (.tmp 45) (.tmp 47) rfl w2.heap.size _ l rfl HLx.out (some ⟨wr.heap.size + 1, 0, none⟩) 1 1 [x] rfl HSx.out HBg.out HZx.out ?_; intro v5 w5 hown5 hg5 hat5; have HO5 := hide hown5; have HB5 := hide ((HK1.out.trans (HKx.out.mono HK1.out.size)).mono hwr |>.trans (HLx.out.grown hg5 HZx.out)); obtain ⟨xa, xn, xc, rfl⟩ := hown5.any3; clear hown5 hg5 hat5))
          rw [← hva]
          go_roundg (m2.vn - (j + 1))
          case measure => omega
          case rel => exact ⟨j + 1, rfl, by go_num, by omega, by rw [HSt.out, HE.out]; exact HO5.out, by rw [HSt.out, HE.out], HB.out.trans HB5.out⟩
    · have hjI : ¬ (j : Int) < (m2.vn : Int) := by omega
      have ej : m2.vs.take j = m2.vs := List.take_of_length_le (by omega)
      rw [ej] at HL hlen ⊢
      have HRm := hide (stepP_mem tsM m (fun v => v.ok w0) HM.out m2.vs ([], false) (HPo.out.is.ok m2 (List.mem_of_getElem? hm2)).vok (by simp))
      have HPm : Hid ((putP tsM m m2.vs).map MV.v = putP Ver.ts m.v (m2.vs.map MV.v)) := putP_map MV.v tsM Ver.ts (fun _ => rfl) m m2.vs
      have HPp : Hid (putP tsM m m2.vs = if (m2.vs.foldl (stepP tsM m) ([], false)).2 = true then (m2.vs.foldl (stepP tsM m) ([], false)).1 else (m2.vs.foldl (stepP tsM m) ([], false)).1 ++ [m]) := by show _ = _; rfl
      generalize m2.vs.foldl (stepP tsM m) ([], false) = acc at *
      obtain ⟨l, d⟩ := acc
      have hll : l.length ≤ 100001 := by simp at hlen; omega
      have HI := hide (HPo.out.is.keep HB.out)
      have cp := HI.out.c
      obtain ⟨gq, cq, eq, hgq, _, _, hrq, hfq⟩ := HI.out.at hm2
      cases eq
      have dq : wr.cell? ⟨g, i * 7 + 1, none⟩ = some (.slice m2.va m2.vn m2.vc) := hrq 1 _ rfl
      have fq := hfq (i * 7 + 1)
      cases d
      · have HK1 := hide (new_below wr (.cells (cellsV m) 36))
        have HM1 := hide (HB2.out.keep HB.out)
        obtain ⟨b0, b1, b2, b3, b4⟩ := rangeV HM1.out.r
        have HL1 := hide (HL.out.keep HK1.out)
        have HS1 := hide (srcY_one (L := layV) _ m wr.heap.size (by simp) (rangeY_new wr wr.heap.size (cellsV m) 36 rfl))
        have HZ1 : Hid (w2.heap.size ≤ (wr.alloc (.cells (cellsV m) 36)).heap.size) := by show _ ≤ _; simp; omega
        have HBg : Hid (l.length + 1 ≤ 1000000000) := by show _ ≤ _; omega
        go_wp2_with (first
          | (at_builtin; refine wp_joinY layV _ rfl (.tmp 52) (.tmp 54) rfl w2.heap.size _ l rfl HL1.out (some ⟨wr.heap.size, 0, none⟩) 1 1 [m] rfl HS1.out HBg.out HZ1.out ?_; intro v5 w5 hown5 hg5 hat5; have HO5 := hide hown5; have HB5 := hide (HB.out.trans ((HK1.out.mono hwr).trans (HL1.out.grown hg5 HZ1.out))); have HI5 := hide (HPo.out.is.keep HB5.out); have cp5 := HI5.out.c; obtain ⟨g5, q5, eq5, hg5', _, _, hr5, hf5⟩ := HI5.out.at hm2; cases eq5; have dq5 : w5.cell? ⟨g, i * 7 + 1, none⟩ = some (.slice m2.va m2.vn m2.vc) := hr5 1 _ rfl; have fq5 := hf5 (i * 7 + 1); obtain ⟨xa, xn, xc, rfl⟩ := hown5.any3; clear hown5 hg5 hat5 hr5 hf5))
        go_end0
        exact ⟨rfl, _, _, CellPost.setVs hb0 HPo.out hm2 hd0 hmd (putP Ver.ts m.v) HPC.out HB5.out xa xn xc (l ++ [m]) HO5.out (by rw [← HPm.out, HPp.out, if_neg (by simp)]) (fun v hv => by rcases List.mem_append.1 hv with h | h; (exact HRm.out v h); (rw [List.mem_singleton.1 h]; exact HM.out)) _ rfl⟩
      · go_wp2
        go_end0
        exact ⟨rfl, _, _, CellPost.setVs hb0 HPo.out hm2 hd0 hmd (putP Ver.ts m.v) HPC.out HB.out la ln lc l HL.out (by rw [← HPm.out, HPp.out]; simp) HRm.out _ rfl⟩

end Go.Proofs.Ytfldiapdfpkdaaa
