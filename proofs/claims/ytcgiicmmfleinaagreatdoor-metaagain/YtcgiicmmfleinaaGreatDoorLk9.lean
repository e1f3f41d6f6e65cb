/- The reference's Edges: what they are. -/
import Derived.Test.YtcgiicmmfleinaaGreatDoorLk8
import Derived.Test.YtcgiicmmfleinaaGreatDoorSgA
namespace Go.Proofs.YtcgiicmmfleinaaGreatDoor
open Go.RowKit NumMath Go.ChangeShapes Go.WideShapes Go.Deep
set_option linter.unusedVariables false
set_option maxRecDepth 100000

/-- whether an edge is among those -/
def knownE (l : List (Int × Int)) (e : Int × Int) : Bool := l.any (fun x => x == e)

theorem known_more {l : List (Int × Int)} {j : Nat} {x : Int × Int} (h : l[j]? = some x) (e : Int × Int) : knownE (l.take (j + 1)) e = (knownE (l.take j) e || x == e) := by
  unfold knownE
  rw [List.take_add_one, h, List.any_append]
  simp

theorem known_mem {l : List (Int × Int)} {e : Int × Int} : knownE l e = true ↔ e ∈ l := by
  unfold knownE
  rw [List.any_eq_true]
  constructor
  · rintro ⟨x, hx, hxe⟩
    rw [← eq_of_beq hxe]; exact hx
  · intro h
    exact ⟨e, h, by simp⟩

theorem dd_known {l : List (Int × Int)} {e : Int × Int} : ddW l e = if knownE l e = true then l else l ++ [e] := by
  unfold ddW
  by_cases h : e ∈ l
  · rw [if_pos h, if_pos (known_mem.2 h)]
  · rw [if_neg h, if_neg (fun e => h (known_mem.1 e))]

/-- the edges of those that wait up to k, and of the next one's first j -/
def edK (hs ws : List ML) (k : Nat) : List (Int × Int) := ddL (rawE (hs.map ML.l) [] ((ws.take k).map ML.l))

def edJ (hs ws : List ML) (k : Nat) (m : ML) (j : Nat) : List (Int × Int) := (((wayM hs (ws.take k) m).take j).map (fun h => (m.l.tx, h.l.tx))).foldl ddW (edK hs ws k)

theorem edJ_zero (hs ws : List ML) (k : Nat) (m : ML) : edJ hs ws k m 0 = edK hs ws k := rfl

theorem edJ_more {hs ws : List ML} {k : Nat} {m h : ML} {j : Nat} (hj : (wayM hs (ws.take k) m)[j]? = some h) : edJ hs ws k m (j + 1) = ddW (edJ hs ws k m j) (m.l.tx, h.l.tx) := by
  unfold edJ
  rw [List.take_add_one, hj, List.map_append, List.foldl_append]
  rfl

theorem edJ_all {hs ws : List ML} {k : Nat} {m : ML} (hk : ws[k]? = some m) {j : Nat} (hj : (wayM hs (ws.take k) m).length ≤ j) : edJ hs ws k m j = edK hs ws (k + 1) := by
  unfold edJ edK ddL
  rw [List.take_of_length_le hj, List.take_add_one, hk]
  show _ = (rawE (hs.map ML.l) [] ((ws.take k ++ [m]).map ML.l)).foldl ddW []
  rw [List.map_append, List.map_singleton, rawE_snoc, List.foldl_append, List.nil_append, ← wayM_l, List.map_map]
  rfl

theorem edK_len (hs ws : List ML) (k : Nat) (h1 : hs.length ≤ 1000) (h2 : ws.length ≤ 1000) : (edK hs ws k).length ≤ k * 2000 := by
  unfold edK
  have h3 := dd_len (rawE (hs.map ML.l) [] ((ws.take k).map ML.l)) []
  refine Nat.le_trans h3 ?_
  rw [List.length_nil, Nat.zero_add]
  have key : ∀ (r a : List Lck), a.length + r.length ≤ 1000 → (rawE (hs.map ML.l) a r).length ≤ r.length * 2000 := by
    intro r
    induction r with
    | nil => intro a _; simp [rawE]
    | cons x r ih =>
      intro a ha
      rw [rawE, List.length_append, List.length_map]
      have h5 := ih (a ++ [x]) (by simp only [List.length_append, List.length_cons, List.length_nil] at *; omega)
      have h6 : (wayL (hs.map ML.l) a x).length ≤ 2000 := by
        unfold wayL
        rw [List.length_append]
        have e1 := List.length_filter_le (standsL x) (hs.map ML.l)
        have e2 := List.length_filter_le (standsL x) a
        rw [List.length_map] at e1
        have e3 : (if holdsL (hs.map ML.l) x = true then [] else againstL a x).length ≤ a.length := by
          split
          · simp
          · exact e2
        have e4 : (againstL (hs.map ML.l) x).length ≤ 1000 := Nat.le_trans e1 h1
        simp only [List.length_cons] at ha
        omega
      rw [List.length_cons]; omega
  have h4 := key ((ws.take k).map ML.l) [] (by simp; omega)
  refine Nat.le_trans h4 (Nat.mul_le_mul_right _ ?_)
  rw [List.length_map, List.length_take]; omega

theorem edJ_len (hs ws : List ML) (k : Nat) (m : ML) (j : Nat) (h1 : hs.length ≤ 1000) (h2 : ws.length ≤ 1000) (hk : k ≤ 1000) : (edJ hs ws k m j).length ≤ 3000000 := by
  unfold edJ
  have h3 := dd_len (((wayM hs (ws.take k) m).take j).map (fun h => (m.l.tx, h.l.tx))) (edK hs ws k)
  have h4 := edK_len hs ws k h1 h2
  have h5 : (((wayM hs (ws.take k) m).take j).map (fun h => (m.l.tx, h.l.tx))).length ≤ 2000 := by
    rw [List.length_map, List.length_take]
    have : (wayM hs (ws.take k) m).length ≤ 2000 := by
      unfold wayM
      rw [List.length_append]
      have e1 := List.length_filter_le (fun m' : ML => standsL m.l m'.l) hs
      have e2 := List.length_filter_le (fun m' : ML => standsL m.l m'.l) (ws.take k)
      rw [List.length_take] at e2
      have e3 : (if holdsL (hs.map ML.l) m.l = true then [] else (ws.take k).filter (fun m' => standsL m.l m'.l)).length ≤ 1000 := by
        split
        · simp
        · omega
      omega
    omega
  have : k * 2000 ≤ 1000 * 2000 := Nat.mul_le_mul_right _ hk
  omega

set_option maxHeartbeats 8000000 in
theorem xedges_any (q : Nat) (ha : Option Addr) (hn hc : Nat) (wa : Option Addr) (wn wc : Nat) (hs ws : List ML) (w : World) (h : TxA w q ha hn hc wa wn wc hs ws) (hb1 : hn ≤ 1000) (hb2 : wn ≤ 1000) :
    Calls Tryz.prog 129 #[.pointer (some ⟨q, 0, none⟩)] w fun e w' => ∃ v, e = .returned v ∧ OwnY layE w' w.heap.size v (edgesL (hs.map ML.l) (ws.map ML.l)) ∧ Below w.heap.size w w' := by
  have hq := h.q
  have H := hide h
  have hmc : (wc : Int) ≤ 9223372036854775807 := by have := h.wt.2.2.1; unfold maxLen at this; omega
  have hnc := h.wt.2.1
  have hnl := h.wt.1
  have hhl := h.h.1
  have c1 := h.c1
  clear h
  go_enter Tryz.func129, Tryz.ntmps129
  go_wp2
  clear c1
  go_loopg [3, 17] wn (fun gk v i wr => ∃ k : Nat, gk = wn - k ∧ i = .int .i64 k ∧ k ≤ wn ∧ OwnY layE wr w.heap.size v (edK hs ws k) ∧ Below w.heap.size w wr)
  case atStart => exact ⟨0, rfl, rfl, Nat.zero_le _, ownY_nil _ _, Below.refl _ _⟩
  case round =>
    obtain ⟨k, rfl, rfl, hk, hO, hB⟩ := hrel
    obtain ⟨oa, on, oc, rfl⟩ := hO.any3
    have HOw := hide hO
    have HB := hide hB
    have hsw := hB.size
    clear hO
    by_cases hlt : k < wn
    · have hlt' : (k : Int) < (wn : Int) := by omega
      obtain ⟨m, hmk⟩ := ml_at (hs := ws) (k := k) (by omega)
      have hT := H.out.keep hB
      obtain ⟨b, hcut, hcs⟩ := isY_cut layK hT.wt k (by omega)
      have hcut2 : ∀ W, (Instr.sliceAt 33 (.slice wa wn wc) none (some (.int .i64 (k : Int))) none).run Tryz.prog W = .ok (.slice b k wc) W := hcut
      clear hcut
      obtain ⟨g, off, e9, hg, hC⟩ := hT.wt.at hlt
      have d := at5_of (hC k m hmk)
      subst e9
      obtain ⟨d0, d1, d2, d3, d4⟩ := d
      have d0 : wr.cell? ⟨g, off + k * 5, none⟩ = some (.int .u64 m.l.tx) := d0
      have d1 : wr.cell? ⟨g, off + k * 5 + 1, none⟩ = some (.int .i64 m.l.lv) := d1
      have d2 : wr.cell? ⟨g, off + k * 5 + 2, none⟩ = some (.int .i64 m.l.md) := d2
      have d3 : wr.cell? ⟨g, off + k * 5 + 3, none⟩ = some (.slice m.la m.ln m.lc) := d3
      have d4 : wr.cell? ⟨g, off + k * 5 + 4, none⟩ = some (.slice m.ha m.hn m.hc) := d4
      obtain ⟨W1, hW1⟩ : ∃ W1, W1 = wr.alloc (.cells #[.int .u64 m.l.tx, .int .i64 m.l.lv, .int .i64 m.l.md, .slice m.la m.ln m.lc, .slice m.ha m.hn m.hc] 41) := ⟨_, rfl⟩
      have hbN : Below wr.heap.size wr W1 := by rw [hW1]; exact new_below _ _
      have hs1 : W1.heap.size = wr.heap.size + 1 := by rw [hW1]; simp
      have HN1 : Hid (At5 W1 wr.heap.size 0 m) := by rw [hW1]; exact at5_new wr m
      have hbd : Below wr.heap.size wr W1.drew := hbN.drew
      have HWy := hide (way_any q ha hn hc (some ⟨g, off, none⟩) wn wc hs ws m b k wc (ws.take k) W1.drew (hT.keep hbd) ((hT.wo m (List.mem_of_getElem? hmk)).keep hbd) (hcs.keep hbd) (fun m' hm' => (hT.wo m' (List.mem_of_mem_take hm')).keep hbd) (by omega) (by omega))
      have HV : Hid (∀ V, Below W1.drew.heap.size W1.drew V → V.cell? ⟨q, 1, none⟩ = some (.slice (some ⟨g, off, none⟩) wn wc) ∧ V.cell? ⟨wr.heap.size, 0, none⟩ = some (.int .u64 m.l.tx) ∧ V.cell? ⟨wr.heap.size, 1, none⟩ = some (.int .i64 m.l.lv) ∧ V.cell? ⟨wr.heap.size, 2, none⟩ = some (.int .i64 m.l.md) ∧ V.cell? ⟨wr.heap.size, 3, none⟩ = some (.slice m.la m.ln m.lc) ∧ V.cell? ⟨wr.heap.size, 4, none⟩ = some (.slice m.ha m.hn m.hc)) := fun V hV => by
        have hV2 := below_undrew hV
        exact ⟨((hT.keep hbN).keep hV2).c1, (HN1.out.same (hV2.block _ (by omega))).zero⟩
      have HMk := hide hmk
      have HBN := hide (HB.out.trans (hbN.mono hsw))
      have HO1 := hide (HOw.out.keep hbN)
      clear hC hmk hB hT hcs hbd hbN
      go_wp2
      rw [← hW1]
      clear hW1
      refine startX 99 (by kernel_rfl) ?_
      refine' takeX (E := 99) (i := 0) (v := _) rfl (by kernel_rfl) (by kernel_rfl) (by kernel_rfl) (by kernel_rfl) (fun _ _ _ h => h) (by rfl) (Below.refl _ _) ?_ ?_; rotate_left
      · (intro V hSV; obtain ⟨y1, x0, x1, x2, x3, x4⟩ := HV.out V hSV; go_simp; all_goals (with_reducible rfl))
      (try simp only [Act.put, List.setIfInBounds_toArray, List.set_cons_zero, List.set_cons_succ])
      refine' takeX (E := 99) (i := 1) (v := _) rfl (by kernel_rfl) (by kernel_rfl) (by kernel_rfl) (by kernel_rfl) (fun _ _ _ h => h) (by rfl) (Below.refl _ _) ?_ ?_; rotate_left
      · (intro V hSV; obtain ⟨y1, x0, x1, x2, x3, x4⟩ := HV.out V hSV; go_simp; all_goals (with_reducible rfl))
      (try simp only [Act.put, List.setIfInBounds_toArray, List.set_cons_zero, List.set_cons_succ])
      refine' takeX (E := 99) (i := 2) (v := _) rfl (by kernel_rfl) (by kernel_rfl) (by kernel_rfl) (by kernel_rfl) (fun _ _ _ h => h) (by rfl) (Below.refl _ _) ?_ ?_; rotate_left
      · (intro V hSV; obtain ⟨y1, x0, x1, x2, x3, x4⟩ := HV.out V hSV; go_simp; all_goals (with_reducible rfl))
      (try simp only [Act.put, List.setIfInBounds_toArray, List.set_cons_zero, List.set_cons_succ])
      refine' takeX (E := 99) (i := 3) (v := _) rfl (by kernel_rfl) (by kernel_rfl) (by kernel_rfl) (by kernel_rfl) (fun _ _ _ h => h) (by rfl) (Below.refl _ _) ?_ ?_; rotate_left
      · (intro V hSV; obtain ⟨y1, x0, x1, x2, x3, x4⟩ := HV.out V hSV; go_simp; all_goals (with_reducible rfl))
      (try simp only [Act.put, List.setIfInBounds_toArray, List.set_cons_zero, List.set_cons_succ])
      refine' takeX (E := 99) (i := 4) (v := _) rfl (by kernel_rfl) (by kernel_rfl) (by kernel_rfl) (by kernel_rfl) (fun _ _ _ h => h) (by rfl) (Below.refl _ _) ?_ ?_; rotate_left
      · (intro V hSV; obtain ⟨y1, x0, x1, x2, x3, x4⟩ := HV.out V hSV; go_simp; all_goals (with_reducible rfl))
      (try simp only [Act.put, List.setIfInBounds_toArray, List.set_cons_zero, List.set_cons_succ])
      refine' takeX (E := 99) (i := 5) (v := _) rfl (by kernel_rfl) (by kernel_rfl) (by kernel_rfl) (by kernel_rfl) (fun _ _ _ h => h) (by rfl) (Below.refl _ _) ?_ ?_; rotate_left
      · (intro V hSV; obtain ⟨y1, x0, x1, x2, x3, x4⟩ := HV.out V hSV; go_simp; all_goals (with_reducible rfl))
      (try simp only [Act.put, List.setIfInBounds_toArray, List.set_cons_zero, List.set_cons_succ])
      refine' takeX (E := 99) (i := 6) (v := _) rfl (by kernel_rfl) (by kernel_rfl) (by kernel_rfl) (by kernel_rfl) (fun _ _ _ h => h) (by rfl) (Below.refl _ _) ?_ ?_; rotate_left
      · (intro V hSV; obtain ⟨y1, x0, x1, x2, x3, x4⟩ := HV.out V hSV; go_simp; all_goals (with_reducible rfl))
      (try simp only [Act.put, List.setIfInBounds_toArray, List.set_cons_zero, List.set_cons_succ])
      refine' takeX (E := 99) (i := 7) (v := _) rfl (by kernel_rfl) (by kernel_rfl) (by kernel_rfl) (by kernel_rfl) (fun _ _ _ h => h) (by rfl) (Below.refl _ _) ?_ ?_; rotate_left
      · (intro V hSV; obtain ⟨y1, x0, x1, x2, x3, x4⟩ := HV.out V hSV; go_simp; all_goals (with_reducible rfl))
      (try simp only [Act.put, List.setIfInBounds_toArray, List.set_cons_zero, List.set_cons_succ])
      refine' takeX (E := 99) (i := 10) (v := _) rfl (by kernel_rfl) (by kernel_rfl) (by kernel_rfl) (by kernel_rfl) (fun _ _ _ h => h) (by rfl) (Below.refl _ _) ?_ ?_; rotate_left
      · (intro V hSV; obtain ⟨y1, x0, x1, x2, x3, x4⟩ := HV.out V hSV; go_simp; all_goals (with_reducible rfl))
      (try simp only [Act.put, List.setIfInBounds_toArray, List.set_cons_zero, List.set_cons_succ])
      refine callX (i := 8) rfl (by kernel_rfl) (fun K hK => ?_)
      go_simp
      refine HWy.out.mono ?_
      rintro e w2 ⟨v2, rfl, ho2, hb2⟩
      obtain ⟨va, vn, vc, rfl⟩ := ho2.any3
      have hvl := ho2.len
      have HL2 := hide (show OwnY layK w2 W1.heap.size (.slice va vn vc) (wayM hs (ws.take k) m) from ho2)
      have HB2 := hide (below_undrew hb2)
      refine hK.out _ _ (fun _ => hb2) ?_
      clear hK K ho2 hb2
      (try simp only [Act.put, List.setIfInBounds_toArray, List.set_cons_zero, List.set_cons_succ])
      refine callX (i := 9) rfl (by kernel_rfl) (fun K hK => ?_)
      go_simp
      refine hK.out _ _ (fun _ => (by have t := HB2.out; exact ⟨t.os, t.tape, t.output, t.size, t.block⟩)) ?_
      clear hK K
      (try simp only [Act.put, List.setIfInBounds_toArray, List.set_cons_zero, List.set_cons_succ])
      refine doneX (by kernel_rfl) ?_ _
      have hs2 := HB2.out.size
      have HO2 := hide (HO1.out.keep HB2.out)
      have HN2 := hide (HN1.out.same (HB2.out.block _ (by omega)))
      have HBw2 := hide (HBN.out.trans (HB2.out.mono HBN.out.size))
      have hvm : (vc : Int) ≤ 9223372036854775807 := by have := hvl.2.2; unfold maxLen at this; omega
      obtain ⟨N1, hN1⟩ : ∃ N, N = wr.heap.size := ⟨_, rfl⟩
      rw [← hN1] at hs1 HN2 HV ⊢
      have hN1s := hsw
      rw [← hN1] at hN1s
      have hob : ∀ g, (Value.slice oa on oc).ownBlock = some g → g < N1 := fun g hg => by rw [hN1]; exact (HOw.out.lt g hg).2
      have HOb := hide hob
      clear HV HWy HOw HB HO1 HN1 hN1 d0 d1 d2 d3 d4 hsw hg hob
      go_wp2
      go_loopg [3, 32] vn (fun gk v i wx => ∃ j : Nat, gk = vn - j ∧ i = .int .i64 j ∧ j ≤ vn ∧ OwnY layE wx w.heap.size v (edJ hs ws k m j) ∧ Below w.heap.size w wx ∧ (∀ g, v.ownBlock = some g → g < N1 ∨ w2.heap.size ≤ g) ∧ (∀ b, N1 ≤ b → b < w2.heap.size → wx.heap[b]? = w2.heap[b]?) ∧ w2.heap.size ≤ wx.heap.size)
      case atStart => exact ⟨0, rfl, rfl, Nat.zero_le _, HO2.out, HBw2.out, fun g hg => .inl (HOb.out g hg), fun b _ _ => rfl, Nat.le_refl _⟩
      case round =>
        clear HO2 HOb
        obtain ⟨j, rfl, rfl, hj, hO, hB, hob, hkb, hsx⟩ := hrel
        obtain ⟨oa, on, oc, rfl⟩ := hO.any3
        have hol := hO.len
        have HOw := hide hO
        have HB := hide hB
        have HOb := hide hob
        have HKb := hide hkb
        have hom : (oc : Int) ≤ 9223372036854775807 := by have := hol.2.2; unfold maxLen at this; omega
        have hLw : OwnY layK wr W1.heap.size (.slice va vn vc) (wayM hs (ws.take k) m) := HL2.out.lies (fun g hg => hkb g (by have := (HL2.out.lt g hg).1; omega) (HL2.out.lt g hg).2)
        have hNw := HN2.out.same (hkb N1 (Nat.le_refl _) (by omega))
        by_cases hjl : j < vn
        · have hjl' : (j : Int) < (vn : Int) := by omega
          obtain ⟨m', hmj⟩ := ml_at (hs := wayM hs (ws.take k) m) (k := j) (by omega)
          obtain ⟨gl, offl, el, hgl, hCl⟩ := hLw.is.at hjl
          have d := at5_of (hCl j m' hmj)
          subst el
          obtain ⟨d0, d1, d2, d3, d4⟩ := d
          have d0 : wr.cell? ⟨gl, offl + j * 5, none⟩ = some (.int .u64 m'.l.tx) := d0
          have d1 : wr.cell? ⟨gl, offl + j * 5 + 1, none⟩ = some (.int .i64 m'.l.lv) := d1
          have d2 : wr.cell? ⟨gl, offl + j * 5 + 2, none⟩ = some (.int .i64 m'.l.md) := d2
          have d3 : wr.cell? ⟨gl, offl + j * 5 + 3, none⟩ = some (.slice m'.la m'.ln m'.lc) := d3
          have d4 : wr.cell? ⟨gl, offl + j * 5 + 4, none⟩ = some (.slice m'.ha m'.hn m'.hc) := d4
          have HEm := hide (edJ_more hmj)
          rw [dd_known] at HEm
          obtain ⟨W9, hW9⟩ : ∃ W9, W9 = (wr.alloc (.cells #[.int .u64 m'.l.tx, .int .i64 m'.l.lv, .int .i64 m'.l.md, .slice m'.la m'.ln m'.lc, .slice m'.ha m'.hn m'.hc] 41)).alloc (.cells #[.int .u64 m.l.tx, .int .u64 m'.l.tx] 222) := ⟨_, rfl⟩
          have hb9 : Below wr.heap.size wr W9 := by rw [hW9]; exact ((Below.refl _ wr).alloc (Nat.le_refl _) _).alloc (by simp) _
          have hs9 : W9.heap.size = wr.heap.size + 2 := by rw [hW9]; simp
          have HC9 : Hid (W9.rangeAt (wr.heap.size + 1) 0 [.int .u64 m.l.tx, .int .u64 m'.l.tx]) := by rw [hW9]; exact rangeY_new (wr.alloc (.cells #[.int .u64 m'.l.tx, .int .i64 m'.l.lv, .int .i64 m'.l.md, .slice m'.la m'.ln m'.lc, .slice m'.ha m'.hn m'.hc] 41)) (wr.heap.size + 1) #[.int .u64 m.l.tx, .int .u64 m'.l.tx] 222 (by simp)
          have xN : (wr.alloc (.cells #[.int .u64 m'.l.tx, .int .i64 m'.l.lv, .int .i64 m'.l.md, .slice m'.la m'.ln m'.lc, .slice m'.ha m'.hn m'.hc] 41)).cell? ⟨N1, 0, none⟩ = some (.int .u64 m.l.tx) := ((new_below wr _).cell (p := ⟨N1, 0, none⟩) (by show N1 < _; omega)).trans hNw.c0
          have HO9 := hide (HOw.out.keep hb9)
          have HB9 := hide hb9
          have hneN : ¬ wr.heap.size = N1 := by omega
          have hneN2 : ¬ N1 = wr.heap.size := by omega
          clear hCl hmj hO hB hob hkb hLw hNw hb9
          go_wp2
          rw [← hW9]
          clear hW9 xN d0 d1 d2 d3 d4 hneN hneN2
          obtain ⟨n0, hn0⟩ : ∃ n0, n0 = wr.heap.size := ⟨_, rfl⟩
          rw [← hn0] at hs9 HC9 ⊢
          have hsn : w2.heap.size ≤ n0 := by rw [hn0]; exact hsx
          have HB9n : Hid (∀ b, b < n0 → W9.heap[b]? = wr.heap[b]?) := fun b hb => HB9.out.block b (by rw [← hn0]; exact hb)
          have HOn : Hid (∀ g, (Value.slice oa on oc).ownBlock = some g → g < n0) := fun g hg => by rw [hn0]; exact (HOw.out.lt g hg).2
          have HBw9 : Hid (Below w.heap.size w W9) := HB.out.trans (HB9.out.mono (by have := HB.out.size; omega))
          have HKb9 : Hid (∀ b, N1 ≤ b → b < w2.heap.size → W9.heap[b]? = w2.heap[b]?) := fun b h1 h2 => (HB9.out.block b (by omega)).trans (HKb.out b h1 h2)
          clear hn0 HB9n HB HB9 HKb HOw
          go_loopg [9, 43] on (fun gk b i wy => ∃ z : Nat, gk = on - z ∧ b = .bool (knownE ((edJ hs ws k m j).take z) (m.l.tx, m'.l.tx)) ∧ i = .int .i64 z ∧ z ≤ on ∧ Below W9.heap.size W9 wy)
          case atStart => exact ⟨0, rfl, rfl, rfl, Nat.zero_le _, Below.refl _ _⟩
          case round =>
            obtain ⟨z, rfl, rfl, rfl, hz, hBy⟩ := hrel
            have HBy := hide hBy
            have hsy := hBy.size
            by_cases hzl : z < on
            · have hzl' : (z : Int) < (on : Int) := by omega
              obtain ⟨p1, p2, hpp⟩ := pair_at (l := edJ hs ws k m j) (j := z) (by omega)
              rcases (HO9.out.keep hBy).form with ⟨e, e0⟩ | ⟨go, co, e, -, hgo, -, -, hCo, -⟩
              · exfalso; rw [e0] at hpp; simp at hpp
              cases e
              have f := hCo z _ hpp
              rw [Nat.zero_add] at f
              obtain ⟨f0, f1⟩ := rangeE f
              have f0 : wr.cell? ⟨go, z * 2, none⟩ = some (.int .u64 p1) := f0
              have f1 : wr.cell? ⟨go, z * 2 + 1, none⟩ = some (.int .u64 p2) := f1
              have hcw := rangeY_same HC9.out (hBy.block (n0 + 1) (by omega))
              have c0 : wr.cell? ⟨n0 + 1, 0, none⟩ = some (.int .u64 m.l.tx) := hcw 0 _ rfl
              have c1 : wr.cell? ⟨n0 + 1, 1, none⟩ = some (.int .u64 m'.l.tx) := hcw 1 _ rfl
              have hne : ¬ wr.heap.size = n0 + 1 := by omega
              have hne2 : ¬ n0 + 1 = wr.heap.size := by omega
              have c0n := fun o => ((new_below wr o).cell (p := ⟨n0 + 1, 0, none⟩) (by show n0 + 1 < wr.heap.size; omega)).trans c0
              have c1n := fun o => ((new_below wr o).cell (p := ⟨n0 + 1, 1, none⟩) (by show n0 + 1 < wr.heap.size; omega)).trans c1
              have HKm := hide (known_more hpp (m.l.tx, m'.l.tx))
              have HNb : Hid (∀ o, Below W9.heap.size W9 (wr.alloc o)) := fun o => HBy.out.trans ((new_below wr o).mono hsy)
              clear f hcw hCo hpp hBy
              cases ham : knownE ((edJ hs ws k m j).take z) (m.l.tx, m'.l.tx) with
              | true =>
                rw [ham] at HKm
                clear ham
                go_wp2
                go_roundg ((edJ hs ws k m j).length - (z + 1))
                case measure => omega
                case rel => exact ⟨z + 1, rfl, by rw [HKm.out]; simp, by go_num, by omega, HNb.out _⟩
              | false =>
                rw [ham] at HKm
                clear ham
                cases hee : ((p1, p2) == (m.l.tx, m'.l.tx)) with
                | true =>
                  rw [hee] at HKm
                  have hee2 : (p1, p2) = (m.l.tx, m'.l.tx) := eq_of_beq hee
                  obtain ⟨rfl, rfl⟩ := Prod.mk.inj hee2
                  clear hee hee2
                  go_wp2
                  go_roundg ((edJ hs ws k m j).length - (z + 1))
                  case measure => omega
                  case rel => exact ⟨z + 1, rfl, by rw [HKm.out]; simp, by go_num, by omega, HNb.out _⟩
                | false =>
                  rw [hee] at HKm
                  have hee2 : ¬ (p1 = m.l.tx ∧ p2 = m'.l.tx) := fun e => (beq_eq_false_iff_ne.1 hee) (by rw [e.1, e.2])
                  clear hee
                  by_cases h1 : p1 = m.l.tx
                  · subst h1
                    have h2 : ¬ p2 = m'.l.tx := fun e => hee2 ⟨rfl, e⟩
                    have h2' : (p2 == m'.l.tx) = false := by simp [h2]
                    go_wp2
                    go_roundg ((edJ hs ws k m j).length - (z + 1))
                    case measure => omega
                    case rel => exact ⟨z + 1, rfl, by rw [HKm.out]; simp, by go_num, by omega, HNb.out _⟩
                  · have h1' : (p1 == m.l.tx) = false := by simp [h1]
                    go_wp2
                    go_roundg ((edJ hs ws k m j).length - (z + 1))
                    case measure => omega
                    case rel => exact ⟨z + 1, rfl, by rw [HKm.out]; simp, by go_num, by omega, HNb.out _⟩
            · obtain rfl : z = on := by omega
              have ez : (edJ hs ws k m j).take z = edJ hs ws k m j := List.take_of_length_le (by omega)
              rw [ez]
              have hcw := rangeY_same HC9.out (hBy.block (n0 + 1) (by omega))
              have c0 : wr.cell? ⟨n0 + 1, 0, none⟩ = some (.int .u64 m.l.tx) := hcw 0 _ rfl
              have c1 : wr.cell? ⟨n0 + 1, 1, none⟩ = some (.int .u64 m'.l.tx) := hcw 1 _ rfl
              have HOy := hide (HO9.out.keep hBy)
              have HBwy := hide (HBw9.out.trans (hBy.mono HBw9.out.size))
              have HKby : Hid (∀ b, N1 ≤ b → b < w2.heap.size → wr.heap[b]? = w2.heap[b]?) := fun b h1 h2 => (hBy.block b (by omega)).trans (HKb9.out b h1 h2)
              have hswy := HBwy.out.size
              clear hcw hBy
              cases hkn : knownE (edJ hs ws k m j) (m.l.tx, m'.l.tx) with
              | true =>
                rw [hkn, if_pos rfl] at HEm
                clear hkn
                go_wp2
                go_roundg (vn - (j + 1))
                case measure => omega
                case rel => exact ⟨j + 1, rfl, by go_num, by omega, by rw [HEm.out]; exact HOy.out, HBwy.out, HOb.out, HKby.out, by omega⟩
              | false =>
                rw [hkn, if_neg (by simp)] at HEm
                clear hkn
                have hbA := new_below wr (.cells #[.int .u64 m.l.tx, .int .u64 m'.l.tx] 222)
                have HOA := hide (HOy.out.keep hbA)
                have HSA := hide (ownY_one (L := layE) wr 0 #[.int .u64 m.l.tx, .int .u64 m'.l.tx] (m.l.tx, m'.l.tx) (Nat.zero_le _) rfl).is.src
                have HBA := hide hbA
                have HBig : Hid ((edJ hs ws k m j).length + [(m.l.tx, m'.l.tx)].length ≤ 1000000000) := by
                  show _ ≤ _
                  have := edJ_len hs ws k m j (by omega) (by omega) (by omega)
                  simp only [List.length_singleton]; omega
                clear hbA
                go_wp2_with (first
                  | (at_builtin; go_must (refine wp_joinY layE _ rfl (.tmp 56) (.tmp 58) rfl w.heap.size _ (edJ hs ws k m j) rfl HOA.out (some ⟨wr.heap.size, 0, none⟩) 1 1 [(m.l.tx, m'.l.tx)] rfl HSA.out HBig.out (by simp; omega) ?_); intro v5 w5 hown5 hg5 hat5; have HO5 := hide hown5; have HG5 := hide hg5; have HA5 := hide hat5; obtain ⟨xa, xn, xc, rfl⟩ := hown5.any3; clear hown5 hg5 hat5))
                go_roundg (vn - (j + 1))
                case measure => omega
                case rel =>
                  have hsz5 := HG5.out.size
                  simp only [World.size_alloc] at hsz5
                  refine ⟨j + 1, rfl, by go_num, by omega, by rw [HEm.out]; exact HO5.out, (HBwy.out.trans (HBA.out.mono hswy)).trans (HOA.out.grown HG5.out (by simp; omega)), fun g hg => ?_, fun b h1 h2 => ?_, by omega⟩
                  · rcases HA5.out with e | ⟨g2, e, hg2⟩
                    · rw [e] at hg; exact HOb.out g hg
                    · rw [e] at hg
                      have := Option.some.inj hg
                      simp only [World.size_alloc] at hg2
                      exact .inr (by omega)
                  · refine ((HG5.out.block b (by simp; omega) (fun e => ?_)).trans (HBA.out.block b (by omega))).trans (HKby.out b h1 h2)
                    rcases HOb.out b e.symm with h3 | h3 <;> omega
        · obtain rfl : j = vn := by omega
          have HEa := hide (edJ_all HMk.out (j := j) (Nat.le_of_eq HL2.out.len.1))
          rw [HEa.out] at HOw
          clear hO hB hob hkb hLw hNw
          go_wp2
          go_roundg (wn - (k + 1))
          case measure => omega
          case rel => exact ⟨k + 1, rfl, by go_num, by omega, HOw.out, HB.out⟩
    · obtain rfl : k = wn := by omega
      clear hB
      go_wp2
      go_ret
      refine ⟨_, rfl, ?_, HB.out⟩
      have e : edK hs ws k = edgesL (hs.map ML.l) (ws.map ML.l) := by
        unfold edK edgesL
        rw [List.take_of_length_le (by omega)]
      rw [← e]
      exact HOw.out

end Go.Proofs.YtcgiicmmfleinaaGreatDoor
