/- The program's machine: table: what it does. Printed by part/gen_mee.py. The program's machine: table: what it does where it is taken. Printed by part/gen_mee2.py. -/
import Derived.Test.YtcgiicmmfleinaaGreatDoorMfD
import Derived.Test.YtcgiicmmfleinaaGreatDoorRwY
namespace Go.Proofs.YtcgiicmmfleinaaGreatDoor
open Go.RowKit NumMath Go.ChangeShapes Go.WideShapes Go.Deep
set_option linter.unusedVariables false
set_option maxRecDepth 100000

variable {F : Nat → Prop} {base : Nat} {a : Mm} {z : Nat} {S : Mac}

set_option maxHeartbeats 2000000 in
theorem ptable_no {w : World} (h : IsMm F base w a z S) (t : MTb) (ht : Foot (fun k => a.X k ∨ F k) w (fun V => t.ok V)) (hno : takesB S.tbs t.t = false) :
    Calls Tryz.prog 80 #[.pointer (some ⟨a.p, 0, none⟩), .agg #[.int .i64 t.id, .string (strB t.nm), .slice t.cs.a t.cs.n t.cs.c, .int .i64 t.ky, .slice t.ix.a t.ix.n t.ix.c]] w (RsPost F base w a (z + 1) (errR 151, S)) := by
  obtain ⟨W0, hW0⟩ : ∃ W0, W0 = w.alloc (.cells #[.int .i64 t.id, .string (strB t.nm), .slice t.cs.a t.cs.n t.cs.c, .int .i64 t.ky, .slice t.ix.a t.ix.n t.ix.c] 48) := ⟨_, rfl⟩
  obtain ⟨W1, hW1⟩ : ∃ W1, W1 = W0.alloc (.cells #[.int .i64 0, .int .u64 0, .int .u64 0, .bool false, .slice none 0 0, .slice none 0 0, .slice none 0 0] 55) := ⟨_, rfl⟩
  have hb0 : Below w.heap.size w W0 := by rw [hW0]; exact new_below _ _
  have hb01 : Below W0.heap.size W0 W1 := by rw [hW1]; exact new_below _ _
  have hs0 : W0.heap.size = w.heap.size + 1 := by rw [hW0]; simp
  have hs1 : W1.heap.size = w.heap.size + 2 := by rw [hW1, World.size_alloc, hs0]
  have hT0 : At5t W0 w.heap.size 0 t := by rw [hW0]; exact at5t_new w t
  have hf0 : ∀ j, W0.frozen? ⟨w.heap.size, j, none⟩ = false := by rw [hW0]; exact fzY_new _ _ _
  have HT1 := hide (hT0.same (hb01.block w.heap.size (by omega)))
  have Hf1 : Hid (∀ j, W1.frozen? ⟨w.heap.size, j, none⟩ = false) := fun j => (World.frozen?_of_block (a := ⟨w.heap.size, j, none⟩) (hb01.block w.heap.size (by omega))).trans (hf0 j)
  have hZ1 : Zero7 W1 W0.heap.size := by rw [hW1]; exact zero7_new W0 _
  rw [hs0] at hZ1
  have HZ1 := hide hZ1
  have HS1 := hide hs1
  have HB1 := hide (hb0.trans (hb01.mono hb0.size))
  have H0 := h.box hb0 (by omega)
  have H1 := H0.box hb01 (by omega)
  rw [hs0] at H1
  have H1h := hide H1
  have Htk := hide (ht.keep HB1.out)
  have HMb := hide (mayBe_anyT t W1 Htk.out.now)
  have HNm := hide (fun w2 (hb : Below W1.heap.size W1 w2) => named_any (H1h.out.keep hb) t.nm)
  have H0x : Hid (∀ k, a.X k → k < w.heap.size) := fun k hk => (h.xl k hk).2
  have H0f : Hid (∀ k, F k → k < w.heap.size) := h.fl
  have hnp : ¬ a.p = w.heap.size := by have := h.lt; omega
  obtain ⟨x0, x1, x2, x3, x4⟩ := HT1.out.zero
  obtain ⟨sa, sn, sc, ev, hl, -, hsm, -⟩ := h.slT
  have Hev := hide ev
  have HLn := hide hl
  rw [hW0] at hW1
  have HE := hide (fun w' (hb : Below w.heap.size w w') => rs_plain (r := errR 151) (er := 151) (tx := 0) (ts := 0) (fl := false) (h.more (Nat.le_succ z)) hb rfl)
  unfold takesB at hno
  have e9 : t.t.nm = t.nm := rfl
  rw [e9] at hno
  clear h ht hb0 hb01 hs0 hs1 hT0 hf0 hZ1 H0 H1 ev hl e9
  cases hm1 : mayB t.t with
  | false =>
    rw [hm1] at HMb
    go_enter Tryz.func80, Tryz.ntmps80
    go_upto_region 1 with fail
    rw [← hW1]
    clear hW1 hW0
    go_wp2_with (first
      | (go_at_call 120; go_must (refine HMb.out.mono ?_); rintro e w2 ⟨rfl, hb2⟩; have hbk := hb2.block w.heap.size (by have := HS1.out; omega); have y1 := (HT1.out.same hbk).zero.2.1; have HB2 := hide hb2; have c3 : w2.cell? ⟨a.p, 3, none⟩ = some (.slice sa sn sc) := (by rw [← Hev.out]; exact (H1h.out.keep hb2).c3); have hz2 := HZ1.out.same (hb2.block (w.heap.size + 1) (by have := HS1.out; omega)); have HZ2 := hide hz2; obtain ⟨z0, z1, z2, z3, z4, z5, z6, zf⟩ := hz2; have g0 := zf 0; have g1 := zf 1; have g2 := zf 2; have g3 := zf 3; have g4 := zf 4; have g5 := zf 5; have g6 := zf 6; have HNm2 := hide (HNm.out w2 hb2); clear zf hb2 hbk))
    change bodyPost _ _ _ _ _ (ResAt w2 (w.heap.size + 1) (mresN 151 0 0 false))
    have hk : Keeps (fun k => k = w.heap.size + 1) w2 (ResAt w2 (w.heap.size + 1) (mresN 151 0 0 false)) := keepsYs _ _ _ _
    have hend := HE.out (ResAt w2 (w.heap.size + 1) (mresN 151 0 0 false)) (kp_below (kpThen (Below.keeps (HB1.out.trans (HB2.out.mono HB1.out.size)) _) (fun k (e : k = w.heap.size + 1) => .inl (by omega)) hk))
    obtain ⟨r0, r1, r2, r3, r4, r5, r6⟩ := resAt_box HZ2.out (mresN 151 0 0 false)
    generalize ResAt w2 (w.heap.size + 1) (mresN 151 0 0 false) = W at *
    exact bodyPost_ret (v := (mresN 151 0 0 false).v) (by simp [results, Tryz.results80, go_sem, MRes.v, r0, r1, r2, r3, r4, r5, r6]) rfl hend

  | true =>
    rw [hm1] at HMb hno
    cases hn1 : namedB S.tbs t.nm with
    | true =>
      rw [hn1] at HNm
      go_enter Tryz.func80, Tryz.ntmps80
      go_upto_region 1 with fail
      rw [← hW1]
      clear hW1 hW0
      go_wp2_with (first
        | (go_at_call 121; go_must (refine HNm2.out.mono ?_); rintro e w3 ⟨rfl, hb3⟩; have c3' : w3.cell? ⟨a.p, 3, none⟩ = some (.slice sa sn sc) := (by rw [← Hev.out]; exact ((H1h.out.keep HB2.out).keep hb3).c3); have hz3 := HZ2.out.same (hb3.block (w.heap.size + 1) (by have := HB2.out.size; have := HS1.out; omega)); have HZ3 := hide hz3; obtain ⟨v0, v1, v2, v3, v4, v5, v6, vf⟩ := hz3; have k0 := vf 0; have k1 := vf 1; have k2 := vf 2; have k3 := vf 3; have k4 := vf 4; have k5 := vf 5; have k6 := vf 6; have HB3 := hide hb3; clear vf hb3)
        | (go_at_call 120; go_must (refine HMb.out.mono ?_); rintro e w2 ⟨rfl, hb2⟩; have hbk := hb2.block w.heap.size (by have := HS1.out; omega); have y1 := (HT1.out.same hbk).zero.2.1; have HB2 := hide hb2; have c3 : w2.cell? ⟨a.p, 3, none⟩ = some (.slice sa sn sc) := (by rw [← Hev.out]; exact (H1h.out.keep hb2).c3); have hz2 := HZ1.out.same (hb2.block (w.heap.size + 1) (by have := HS1.out; omega)); have HZ2 := hide hz2; obtain ⟨z0, z1, z2, z3, z4, z5, z6, zf⟩ := hz2; have g0 := zf 0; have g1 := zf 1; have g2 := zf 2; have g3 := zf 3; have g4 := zf 4; have g5 := zf 5; have g6 := zf 6; have HNm2 := hide (HNm.out w2 hb2); clear zf hb2 hbk))
      change bodyPost _ _ _ _ _ (ResAt w3 (w.heap.size + 1) (mresN 151 0 0 false))
      have hk : Keeps (fun k => k = w.heap.size + 1) w3 (ResAt w3 (w.heap.size + 1) (mresN 151 0 0 false)) := keepsYs _ _ _ _
      have hend := HE.out (ResAt w3 (w.heap.size + 1) (mresN 151 0 0 false)) (kp_below (kpThen (Below.keeps (HB1.out.trans ((HB2.out.trans (HB3.out.mono HB2.out.size)).mono HB1.out.size)) _) (fun k (e : k = w.heap.size + 1) => .inl (by omega)) hk))
      obtain ⟨r0, r1, r2, r3, r4, r5, r6⟩ := resAt_box HZ3.out (mresN 151 0 0 false)
      generalize ResAt w3 (w.heap.size + 1) (mresN 151 0 0 false) = W at *
      exact bodyPost_ret (v := (mresN 151 0 0 false).v) (by simp [results, Tryz.results80, go_sem, MRes.v, r0, r1, r2, r3, r4, r5, r6]) rfl hend

    | false =>
      rw [hn1] at HNm hno
      have h40 : ¬ S.tbs.length < 40 := by simpa using hno
      have h40' : (40 : Int) ≤ (sn : Int) := by have := HLn.out; omega
      go_enter Tryz.func80, Tryz.ntmps80
      go_upto_region 1 with fail
      rw [← hW1]
      clear hW1 hW0
      go_wp2_with (first
        | (go_at_call 121; go_must (refine HNm2.out.mono ?_); rintro e w3 ⟨rfl, hb3⟩; have c3' : w3.cell? ⟨a.p, 3, none⟩ = some (.slice sa sn sc) := (by rw [← Hev.out]; exact ((H1h.out.keep HB2.out).keep hb3).c3); have hz3 := HZ2.out.same (hb3.block (w.heap.size + 1) (by have := HB2.out.size; have := HS1.out; omega)); have HZ3 := hide hz3; obtain ⟨v0, v1, v2, v3, v4, v5, v6, vf⟩ := hz3; have k0 := vf 0; have k1 := vf 1; have k2 := vf 2; have k3 := vf 3; have k4 := vf 4; have k5 := vf 5; have k6 := vf 6; have HB3 := hide hb3; clear vf hb3)
        | (go_at_call 120; go_must (refine HMb.out.mono ?_); rintro e w2 ⟨rfl, hb2⟩; have hbk := hb2.block w.heap.size (by have := HS1.out; omega); have y1 := (HT1.out.same hbk).zero.2.1; have HB2 := hide hb2; have c3 : w2.cell? ⟨a.p, 3, none⟩ = some (.slice sa sn sc) := (by rw [← Hev.out]; exact (H1h.out.keep hb2).c3); have hz2 := HZ1.out.same (hb2.block (w.heap.size + 1) (by have := HS1.out; omega)); have HZ2 := hide hz2; obtain ⟨z0, z1, z2, z3, z4, z5, z6, zf⟩ := hz2; have g0 := zf 0; have g1 := zf 1; have g2 := zf 2; have g3 := zf 3; have g4 := zf 4; have g5 := zf 5; have g6 := zf 6; have HNm2 := hide (HNm.out w2 hb2); clear zf hb2 hbk))
      change bodyPost _ _ _ _ _ (ResAt w3 (w.heap.size + 1) (mresN 151 0 0 false))
      have hk : Keeps (fun k => k = w.heap.size + 1) w3 (ResAt w3 (w.heap.size + 1) (mresN 151 0 0 false)) := keepsYs _ _ _ _
      have hend := HE.out (ResAt w3 (w.heap.size + 1) (mresN 151 0 0 false)) (kp_below (kpThen (Below.keeps (HB1.out.trans ((HB2.out.trans (HB3.out.mono HB2.out.size)).mono HB1.out.size)) _) (fun k (e : k = w.heap.size + 1) => .inl (by omega)) hk))
      obtain ⟨r0, r1, r2, r3, r4, r5, r6⟩ := resAt_box HZ3.out (mresN 151 0 0 false)
      generalize ResAt w3 (w.heap.size + 1) (mresN 151 0 0 false) = W at *
      exact bodyPost_ret (v := (mresN 151 0 0 false).v) (by simp [results, Tryz.results80, go_sem, MRes.v, r0, r1, r2, r3, r4, r5, r6]) rfl hend


end Go.Proofs.YtcgiicmmfleinaaGreatDoor

namespace Go.Proofs.YtcgiicmmfleinaaGreatDoor
open Go.RowKit NumMath Go.ChangeShapes Go.WideShapes Go.Deep
set_option linter.unusedVariables false
set_option maxRecDepth 100000

variable {F : Nat → Prop} {base : Nat} {a : Mm} {z : Nat} {S : Mac}

/-- a result of one table, that lies in a new box -/
def mresT (b : Nat) (y : MTb) : MRes := ⟨0, 0, 0, false, none, 0, 0, [], some ⟨b, 0, none⟩, 1, 1, [y]⟩

theorem mresT_foot {X : Nat → Prop} {w : World} {y : MTb} (hX : ∀ k, X k → k < w.heap.size) (hy : Foot X w (fun V => y.ok V)) : Foot X (w.alloc (.cells #[.int .i64 y.id, .string (strB y.nm), .slice y.cs.a y.cs.n y.cs.c, .int .i64 y.ky, .slice y.ix.a y.ix.n y.ix.c] 48)) (fun V => (mresT w.heap.size y).ok V) := by
  have h1 := foot_ownY (X := X) (ownY_one (L := layTb) w w.heap.size #[.int .i64 y.id, .string (strB y.nm), .slice y.cs.a y.cs.n y.cs.c, .int .i64 y.ky, .slice y.ix.a y.ix.n y.ix.c] y (Nat.le_refl _) rfl) hX
  exact (h1.and (hy.keep (new_below _ _))).imp (fun V hV => ⟨isY_nil V, hV.1, fun x hx => by rw [List.mem_singleton.1 hx]; exact hV.2⟩)

theorem hkY {v : Value} {w w9 : World} {p i : Nat} {u : Value} (h : Keeps (fun k => v.ownBlock = some k) w w9) (h2 : Keeps (fun k => k = p) w9 (w9.setCell ⟨p, i, none⟩ u)) (k : Nat) (hk : k < w.heap.size) (h1 : v.ownBlock ≠ some k) (h3 : k ≠ p) : (w9.setCell ⟨p, i, none⟩ u).heap[k]? = w.heap[k]? :=
  (h2.block k (Nat.lt_of_lt_of_le hk h.size) h3).trans (h.block k hk h1)

theorem at5t_mk {w : World} {g : Nat} {m : MTb} (h0 : w.cell? ⟨g, 0, none⟩ = some (.int .i64 m.id)) (h1 : w.cell? ⟨g, 1, none⟩ = some (.string (strB m.nm))) (h2 : w.cell? ⟨g, 2, none⟩ = some (.slice m.cs.a m.cs.n m.cs.c)) (h3 : w.cell? ⟨g, 3, none⟩ = some (.int .i64 m.ky)) (h4 : w.cell? ⟨g, 4, none⟩ = some (.slice m.ix.a m.ix.n m.ix.c)) : At5t w g 0 m := ⟨h0, h1, h2, h3, h4⟩

theorem modify_set {α : Type} {l : List α} {k : Nat} {x : α} (f : α → α) (h : l[k]? = some x) : l.modify k f = l.set k (f x) := by
  apply List.ext_getElem?
  intro i
  rw [List.getElem?_modify, List.getElem?_set]
  by_cases e : k = i
  · subst e
    rw [if_pos rfl, if_pos (List.getElem?_eq_some_iff.1 h).1, h]
    simp
  · rw [if_neg e]
    simp [e]

theorem cols_pos {l : List Colm} (h : colsB l = true) : l ≠ [] := by
  intro e
  rw [e] at h
  cases h

theorem may_parts {t : Tbl} (h : mayB t = true) : colsB t.cs = true ∧ placeB t.ky t.cs = true := by
  unfold mayB at h
  simp only [Bool.and_eq_true] at h
  exact ⟨h.1.1.2, h.1.2⟩

theorem place_at {k : Int} {l : List Colm} (h : placeB k l = true) : ∃ kk : Nat, k = (kk : Int) ∧ kk < l.length := by
  unfold placeB at h
  simp only [Bool.and_eq_true, decide_eq_true_eq] at h
  exact ⟨k.toNat, by omega, by omega⟩

set_option maxHeartbeats 8000000 in
theorem ptable_yes {w : World} (h : IsMm F base w a z S) (t : MTb) (ht : Foot (fun k => a.X k ∨ F k) w (fun V => t.ok V)) (htf : t.cs.n ≤ 20 ∧ t.ix.n ≤ 20) (hz : z ≤ 1000) (hyes : takesB S.tbs t.t = true) :
    Calls Tryz.prog 80 #[.pointer (some ⟨a.p, 0, none⟩), .agg #[.int .i64 t.id, .string (strB t.nm), .slice t.cs.a t.cs.n t.cs.c, .int .i64 t.ky, .slice t.ix.a t.ix.n t.ix.c]] w (RsPost F base w a (z + 1) ({ res0 with tbs := [keptT S.tbs.length t.t] }, { S with tbs := S.tbs ++ [keptT S.tbs.length t.t] })) := by
  have hI' := (h.i.table (t := t.t) (by have := ht.now.cs.1; show t.cs.xs.length ≤ 20; omega) (by have := ht.now.ix.1; show t.ix.xs.length ≤ 20; omega)).1
  unfold tableM at hI'
  rw [if_pos hyes] at hI'
  have HI' := hide hI'
  obtain ⟨W0, hW0⟩ : ∃ W0, W0 = w.alloc (.cells #[.int .i64 t.id, .string (strB t.nm), .slice t.cs.a t.cs.n t.cs.c, .int .i64 t.ky, .slice t.ix.a t.ix.n t.ix.c] 48) := ⟨_, rfl⟩
  obtain ⟨W1, hW1⟩ : ∃ W1, W1 = W0.alloc (.cells #[.int .i64 0, .int .u64 0, .int .u64 0, .bool false, .slice none 0 0, .slice none 0 0, .slice none 0 0] 55) := ⟨_, rfl⟩
  have hb0 : Below w.heap.size w W0 := by rw [hW0]; exact new_below _ _
  have hb01 : Below W0.heap.size W0 W1 := by rw [hW1]; exact new_below _ _
  have hs0 : W0.heap.size = w.heap.size + 1 := by rw [hW0]; simp
  have hs1 : W1.heap.size = w.heap.size + 2 := by rw [hW1, World.size_alloc, hs0]
  have hT0 : At5t W0 w.heap.size 0 t := by rw [hW0]; exact at5t_new w t
  have hf0 : ∀ j, W0.frozen? ⟨w.heap.size, j, none⟩ = false := by rw [hW0]; exact fzY_new _ _ _
  have HT1 := hide (hT0.same (hb01.block w.heap.size (by omega)))
  have Hf1 : Hid (∀ j, W1.frozen? ⟨w.heap.size, j, none⟩ = false) := fun j => (World.frozen?_of_block (a := ⟨w.heap.size, j, none⟩) (hb01.block w.heap.size (by omega))).trans (hf0 j)
  have hZ1 : Zero7 W1 W0.heap.size := by rw [hW1]; exact zero7_new W0 _
  rw [hs0] at hZ1
  have HZ1 := hide hZ1
  have HS1 := hide hs1
  have HB1 := hide (hb0.trans (hb01.mono hb0.size))
  have H0 := h.box hb0 (by omega)
  have H1 := H0.box hb01 (by omega)
  rw [hs0] at H1
  have H1h := hide H1
  have Htk := hide (ht.keep HB1.out)
  have HMb := hide (mayBe_anyT t W1 Htk.out.now)
  have HNm := hide (fun w2 (hb : Below W1.heap.size W1 w2) => named_any (H1h.out.keep hb) t.nm)
  have H0x : Hid (∀ k, a.X k → k < w.heap.size) := fun k hk => (h.xl k hk).2
  have H0f : Hid (∀ k, F k → k < w.heap.size) := h.fl
  have hnp : ¬ a.p = w.heap.size := by have := h.lt; omega
  obtain ⟨x0, x1, x2, x3, x4⟩ := HT1.out.zero
  obtain ⟨sa, sn, sc, ev, hl, -, hsm, -⟩ := h.slT
  have Hev := hide ev
  have HLn := hide hl
  rw [hW0] at hW1
  unfold takesB at hyes
  simp only [Bool.and_eq_true, decide_eq_true_eq] at hyes
  obtain ⟨⟨hm1, hn1⟩, h40⟩ := hyes
  have hn1 : namedB S.tbs t.nm = false := by simpa using (show (!namedB S.tbs t.nm) = true from hn1)
  obtain ⟨hcb, hpb⟩ := may_parts hm1
  obtain ⟨kk, hkk, hkl⟩ := place_at hpb
  have hkk : t.ky = (kk : Int) := hkk
  have hkl : kk < t.cs.xs.length := hkl
  have h40' : ¬ (40 : Int) ≤ (sn : Int) := by omega
  rw [hm1] at HMb
  rw [hn1] at HNm
  have HCb := hide (cols_pos hcb)
  obtain ⟨c0, hc0⟩ : ∃ c0, t.cs.xs[kk]? = some c0 := ⟨_, List.getElem?_eq_getElem hkl⟩
  have HC0 := hide hc0
  have HKk := hide hkk
  have HBl := hide h.bl
  have HTf := hide htf
  clear h ht hb0 hb01 hs0 hs1 hT0 hf0 hZ1 H0 H1 ev hl hI' hm1 hn1 h40 hcb hpb hkk hc0 htf
  go_enter Tryz.func80, Tryz.ntmps80
  go_upto_region 1 with fail
  rw [← hW1]
  clear hW1 hW0
  go_upto_region 3 with (first
    | (go_at_call 121; go_must (refine HNm2.out.mono ?_); rintro e w3 ⟨rfl, hb3⟩; have c3' : w3.cell? ⟨a.p, 3, none⟩ = some (.slice sa sn sc) := (by rw [← Hev.out]; exact ((H1h.out.keep HB2.out).keep hb3).c3); have hz3 := HZ2.out.same (hb3.block (w.heap.size + 1) (by have := HB2.out.size; have := HS1.out; omega)); have HZ3 := hide hz3; obtain ⟨v0, v1, v2, v3, v4, v5, v6, vf⟩ := hz3; have k0 := vf 0; have k1 := vf 1; have k2 := vf 2; have k3 := vf 3; have k4 := vf 4; have k5 := vf 5; have k6 := vf 6; have HB3 := hide hb3; clear vf hb3)
    | (go_at_call 120; go_must (refine HMb.out.mono ?_); rintro e w2 ⟨rfl, hb2⟩; have hbk := hb2.block w.heap.size (by have := HS1.out; omega); have y1 := (HT1.out.same hbk).zero.2.1; have HB2 := hide hb2; have c3 : w2.cell? ⟨a.p, 3, none⟩ = some (.slice sa sn sc) := (by rw [← Hev.out]; exact (H1h.out.keep hb2).c3); have hz2 := HZ1.out.same (hb2.block (w.heap.size + 1) (by have := HS1.out; omega)); have HZ2 := hide hz2; obtain ⟨z0, z1, z2, z3, z4, z5, z6, zf⟩ := hz2; have g0 := zf 0; have g1 := zf 1; have g2 := zf 2; have g3 := zf 3; have g4 := zf 4; have g5 := zf 5; have g6 := zf 6; have HNm2 := hide (HNm.out w2 hb2); clear zf hb2 hbk))
  have hb13 : Below W1.heap.size W1 w3 := HB2.out.trans (HB3.out.mono HB2.out.size)
  have hl3 : w.heap.size + 2 ≤ w3.heap.size := by have := hb13.size; have := HS1.out; omega
  have HT3 := hide (HT1.out.same (hb13.block w.heap.size (by have := HS1.out; omega)))
  have Hf3 : Hid (∀ j, w3.frozen? ⟨w.heap.size, j, none⟩ = false) := fun j => (World.frozen?_of_block (a := ⟨w.heap.size, j, none⟩) (hb13.block w.heap.size (by have := HS1.out; omega))).trans (Hf1.out j)
  have H3 := hide (H1h.out.keep hb13)
  have HCp := hide (pcopyT_any t w3 (Htk.out.keep hb13).now (by have := HTf.out; omega) (by have := HTf.out; omega))
  have HB13 := hide hb13
  clear hb13 x0 x1 x2 x3 x4 y1 z0 z1 z2 z3 z4 z5 z6 g0 g1 g2 g3 g4 g5 g6 v0 v1 v2 v3 v4 v5 v6 k0 k1 k2 k3 k4 k5 k6 c3 c3'
  obtain ⟨x0, x1, x2, x3, x4⟩ := HT3.out.zero
  go_upto_region 4 with (first
    | (go_at_call 122; go_must (refine HCp.out.mono ?_); rintro e w4 ⟨⟨yid, ynm, ⟨ya, yn, yc, yxs⟩, yky, ⟨ja, jn, jc, jxs⟩⟩, rfl, hyt, hyo, hyi, hb4⟩; dsimp only at hyo hyi; obtain rfl : yid = t.id := congrArg Tbl.id hyt; obtain rfl : ynm = t.nm := congrArg Tbl.nm hyt; obtain rfl : yxs = t.cs.xs := congrArg Tbl.cs hyt; obtain rfl : yky = t.ky := congrArg Tbl.ky hyt; obtain rfl : jxs = t.ix.xs := congrArg Tbl.ix hyt; have hbk := hb4.block w.heap.size (by omega); obtain ⟨y0, y1, y2, y3, y4⟩ := (HT3.out.same hbk).zero; have f0 := (World.frozen?_of_block (a := ⟨w.heap.size, 0, none⟩) hbk).trans (Hf3.out 0); have f1 := (World.frozen?_of_block (a := ⟨w.heap.size, 1, none⟩) hbk).trans (Hf3.out 1); have f2 := (World.frozen?_of_block (a := ⟨w.heap.size, 2, none⟩) hbk).trans (Hf3.out 2); have f3 := (World.frozen?_of_block (a := ⟨w.heap.size, 3, none⟩) hbk).trans (Hf3.out 3); have f4 := (World.frozen?_of_block (a := ⟨w.heap.size, 4, none⟩) hbk).trans (Hf3.out 4); have HYo := hide hyo; have HYi := hide hyi; have HB4 := hide hb4; clear hyt hyo hyi hb4 hbk))
  obtain ⟨g, cap, hg1, hg2, hyl, hcc, hcm, hYC, hYf⟩ : ∃ g cap, base ≤ base ∧ ya = some ⟨g, 0, none⟩ ∧ yn = t.cs.xs.length ∧ yc = cap ∧ w3.heap.size ≤ g ∧ CellsY layCo w4 g 0 t.cs.xs ∧ ∀ i, w4.frozen? ⟨g, i, none⟩ = false := by
    rcases HYo.out.form with ⟨-, e0⟩ | ⟨g, cap, e, h1, h2, -, -, hC, hf⟩
    · exact absurd e0 HCb.out
    · simp only [Value.slice.injEq] at e
      exact ⟨g, cap, Nat.le_refl _, e.1, e.2.1, e.2.2, h1, hC, hf⟩
  subst hg2 hyl hcc
  have hg4 : g < w4.heap.size := (HYo.out.lt g rfl).2
  have HYC := hide hYC
  have HYf := hide hYf
  clear hg1 hYC hYf
  -- the box holds the copy
  obtain ⟨W5, hW5⟩ : ∃ W5, W5 = ((((w4.setCell ⟨w.heap.size, 0, none⟩ (.int .i64 t.id)).setCell ⟨w.heap.size, 1, none⟩ (.string (strB t.nm))).setCell ⟨w.heap.size, 2, none⟩ (.slice (some ⟨g, 0, none⟩) t.cs.xs.length yc)).setCell ⟨w.heap.size, 3, none⟩ (.int .i64 t.ky)).setCell ⟨w.heap.size, 4, none⟩ (.slice ja jn jc) := ⟨_, rfl⟩
  rw [← hW5]
  have hk5 : Keeps (fun k => k = w.heap.size) w4 W5 := by rw [hW5]; exact kpSet (kpSet (kpSet (kpSet (kpSet (kpSelf (fun k => k = w.heap.size) _) (.inl rfl) _) (.inl rfl) _) (.inl rfl) _) (.inl rfl) _) (.inl rfl) _
  have hT5 : At5t W5 w.heap.size 0 ⟨t.id, t.nm, ⟨some ⟨g, 0, none⟩, t.cs.xs.length, yc, t.cs.xs⟩, t.ky, ⟨ja, jn, jc, t.ix.xs⟩⟩ := by
    have h0 : w4.rangeAt w.heap.size 0 (layTb.cells t) := rangeT (m := t) (at5t_mk y0 y1 y2 y3 y4)
    have h1 := range_set (i := 0) (v := .int .i64 t.id) h0 (by show 0 < 5; decide)
    have h2 := range_set (i := 1) (v := .string (strB t.nm)) h1 (by show 1 < 5; decide)
    have h3 := range_set (i := 2) (v := .slice (some ⟨g, 0, none⟩) t.cs.xs.length yc) h2 (by show 2 < 5; decide)
    have h4 := range_set (i := 3) (v := .int .i64 t.ky) h3 (by show 3 < 5; decide)
    have h5 := range_set (i := 4) (v := .slice ja jn jc) h4 (by show 4 < 5; decide)
    rw [hW5]
    exact at5t_of h5
  have hf5 : ∀ j, W5.frozen? ⟨w.heap.size, j, none⟩ = false := fun j => by
    rw [hW5]
    simp only [World.frozen?_setCell]
    exact (World.frozen?_of_block (a := ⟨w.heap.size, j, none⟩) (HB4.out.block w.heap.size (by omega))).trans (Hf3.out j)
  have hs5e : W5.heap.size = w4.heap.size := by rw [hW5]; simp [World.setCell]
  have hs5 := Nat.le_of_eq hs5e
  have hs5' := Nat.le_of_eq hs5e.symm
  clear hs5e
  have HT5 := hide hT5
  have Hf5 := hide hf5
  have HK5 := hide hk5
  -- whose blocks are whose
  have hl4 := HB4.out.size
  have H4 := H3.out.other (F' := fun k => (((F k ∨ k = w.heap.size) ∨ k = w.heap.size + 1) ∨ k = g)) (Below.keeps HB4.out _) (fun k hk => by
    rcases hk with hk | hk
    · exact ⟨.inl hk, Nat.lt_of_lt_of_le (H3.out.fl k hk) hl4⟩
    · exact ⟨.inr (by omega), by omega⟩) (fun e => by
    rcases e with e | e
    · exact H3.out.f0 e
    · omega)
  have H5 := hide (H4.other (Keeps.wider hk5 (fun k hk => .inl (.inl (.inr hk)))) (fun k hk => ⟨.inl hk, by have := H4.fl k hk; omega⟩) H4.f0)
  have hgn : ¬ g = w.heap.size := by omega
  have hgn2 : ¬ w.heap.size = g := by omega
  have HYC5 := hide (HYC.out.same (hk5.block g hg4 hgn))
  have HYf5 : Hid (∀ i, W5.frozen? ⟨g, i, none⟩ = false) := fun i => (World.frozen?_of_block (a := ⟨g, i, none⟩) (hk5.block g hg4 hgn)).trans (HYf.out i)
  have HYo5 := hide (HYo.out.lies (w' := W5) (fun j hj => hk5.block j (HYo.out.lt j hj).2 (fun e => by have := (HYo.out.lt j hj).1; omega)))
  have HYi5 : Hid (Foot (fun k => k < w3.heap.size ∨ k = g) W5 (fun V => IsY layIx V ja jn jc t.ix.xs)) := (HYi.out.step (Keeps.wider hk5 (fun k hk => by show k < _ ∨ _; exact .inl (by omega))) (fun k hk => .inl hk)).more (fun k hk => .inl (by
    rcases hk with hk | hk
    · exact .inl hk
    · exact .inr (by rw [hk]; rfl)))
  have hc3 : W5.cell? ⟨a.p, 3, none⟩ = some (.slice sa sn sc) := by rw [← Hev.out]; exact H5.out.c3
  obtain ⟨q0, q1, q2, q3, q4⟩ := HT5.out.zero
  have f0' := hf5 0
  have hsm' : (sn : Int) + 1 ≤ 9223372036854775807 := by omega
  clear hW5 hk5 hT5 hf5 H4 y0 y1 y2 y3 y4 f0 f1 f2 f3 f4 x0 x1 x2 x3 x4
  go_upto_region 5 with fail
  -- the number
  obtain ⟨W6, hW6⟩ : ∃ W6, W6 = W5.setCell ⟨w.heap.size, 0, none⟩ (.int .i64 ((sn : Int) + 1)) := ⟨_, rfl⟩
  rw [← hW6]
  have hk6 : Keeps (fun k => k = w.heap.size) W5 W6 := by rw [hW6]; exact keepsY_cell _
  have hs6e : W6.heap.size = W5.heap.size := by rw [hW6]; simp [World.setCell]
  have hs6 := Nat.le_of_eq hs6e
  have hs6' := Nat.le_of_eq hs6e.symm
  clear hs6e
  have HT6 : Hid (At5t W6 w.heap.size 0 ⟨(sn : Int) + 1, t.nm, ⟨some ⟨g, 0, none⟩, t.cs.xs.length, yc, t.cs.xs⟩, t.ky, ⟨ja, jn, jc, t.ix.xs⟩⟩) := by
    show At5t _ _ _ _
    rw [hW6]
    exact at5t_mk (World.cell?_setCell_same' _ _ _ (by rw [q0]; rfl)) ((cell_offY (by decide)).trans q1) ((cell_offY (by decide)).trans q2) ((cell_offY (by decide)).trans q3) ((cell_offY (by decide)).trans q4)
  have HYo6 := hide (HYo5.out.lies (w' := W6) (fun j hj => hk6.block j (HYo5.out.lt j hj).2 (fun e => by have := (HYo5.out.lt j hj).1; omega)))
  have HYi6 : Hid (Foot (fun k => k < w3.heap.size ∨ k = g) W6 (fun V => IsY layIx V ja jn jc t.ix.xs)) := HYi5.out.step (Keeps.wider hk6 (fun k hk => .inl (by omega))) (fun k hk => .inl hk)
  have H6 := hide (H5.out.other (Keeps.wider hk6 (fun k hk => .inl (.inl (.inr hk)))) (fun k hk => ⟨.inl hk, by have := H5.out.fl k hk; omega⟩) H5.out.f0)
  have hC6 := HYC5.out.same (hk6.block g (by omega) hgn)
  obtain ⟨-, -, d2⟩ := at3c_list hC6 HC0.out
  simp only [Nat.zero_add] at d2
  have fg : W6.frozen? ⟨g, kk * 3 + 2, none⟩ = false := (World.frozen?_of_block (a := ⟨g, kk * 3 + 2, none⟩) (hk6.block g (by omega) hgn)).trans (HYf5.out _)
  clear q0 q1 q2 q3 q4
  obtain ⟨-, -, q2, q3, -⟩ := HT6.out.zero
  have q3' : W6.cell? ⟨w.heap.size, 3, none⟩ = some (.int .i64 (kk : Int)) := by rw [← HKk.out]; exact q3
  have hkl' : (kk : Int) < (t.cs.xs.length : Int) := by omega
  have hnl : (t.cs.xs.length : Int) ≤ 9223372036854775807 := by have := HYo6.out.len.2.1; have := HYo6.out.len.2.2; unfold maxLen at this; omega
  clear hW6 q3 f0' hc3
  go_upto_region 6 with fail
  -- the key's column
  obtain ⟨W7, hW7⟩ : ∃ W7, W7 = W6.setCell ⟨g, kk * 3 + 2, none⟩ (.bool true) := ⟨_, rfl⟩
  rw [← hW7]
  have hk7 : Keeps (fun k => k = g) W6 W7 := by rw [hW7]; exact keepsY_cell _
  have hs7e : W7.heap.size = W6.heap.size := by rw [hW7]; simp [World.setCell]
  have hs7 := Nat.le_of_eq hs7e
  have hs7' := Nat.le_of_eq hs7e.symm
  clear hs7e
  obtain ⟨y7, hy7⟩ : ∃ y7 : MTb, y7 = ⟨(sn : Int) + 1, t.nm, ⟨some ⟨g, 0, none⟩, t.cs.xs.length, yc, t.cs.xs.set kk { c0 with nn := true }⟩, t.ky, ⟨ja, jn, jc, t.ix.xs⟩⟩ := ⟨_, rfl⟩
  have hy7t : y7.t = keptT S.tbs.length t.t := by
    rw [hy7]
    unfold keptT
    have e1 : t.t.ky.toNat = kk := by show t.ky.toNat = kk; rw [HKk.out]; simp
    have e2 : (t.t.cs.modify t.t.ky.toNat (fun c => { c with nn := true })) = t.cs.xs.set kk { c0 with nn := true } := by rw [e1]; exact modify_set _ HC0.out
    rw [e2, HLn.out]
    rfl
  have hO7 : OwnY layCo W7 w3.heap.size (.slice (some ⟨g, 0, none⟩) t.cs.xs.length yc) (t.cs.xs.set kk { c0 with nn := true }) := by
    rw [hW7]
    exact HYo6.out.cell kk 2 c0 { c0 with nn := true } (.bool true) HC0.out (by decide) rfl (kk * 3 + 2) rfl
  have hF7 : Foot (fun k => k < w3.heap.size) W7 (fun V => y7.ok V) := by
    have h1 : Foot (fun k => k < w3.heap.size) W7 (fun V => IsY layIx V ja jn jc t.ix.xs) := (HYi6.out.step (Keeps.wider hk7 (fun k hk => .inr hk)) (fun k hk => .inl hk)).more (fun k hk => .inl (.inl hk))
    rw [hy7]
    exact ((foot_ownY hO7 (fun k hk => hk)).and h1).imp (fun V hV => ⟨hV.1, hV.2⟩)
  have hT7 : At5t W7 w.heap.size 0 y7 := by
    rw [hy7]
    have q := HT6.out.same (hk7.block w.heap.size (by omega) hgn2)
    exact ⟨q.c0, q.c1, q.c2, q.c3, q.c4⟩
  have H7 := hide (H6.out.other (F' := fun k => (F k ∨ k = w.heap.size) ∨ k = w.heap.size + 1) (Keeps.wider hk7 (fun k hk => .inr hk)) (fun k hk => ⟨.inl (.inl hk), by have := H6.out.fl k (.inl hk); omega⟩) (fun e => H6.out.f0 (.inl e)))
  have HF7 := hide hF7
  have HT7 := hide hT7
  have HY7 := hide hy7t
  have hkp7 : Keeps a.X w W7 := kpThen (kpThen (kpThen (Below.keeps (HB1.out.trans ((HB13.out.trans (HB4.out.mono HB13.out.size)).mono HB1.out.size)) _) (fun k (e : k = w.heap.size) => .inr (by omega)) HK5.out) (fun k (e : k = w.heap.size) => .inr (by omega)) hk6) (fun k (e : k = g) => .inr (by omega)) hk7
  have HKp7 := hide hkp7
  have hl7 : w3.heap.size ≤ W7.heap.size := by omega
  obtain ⟨-, -, q2', -, -⟩ := hT7.zero
  rw [hy7] at hT7
  obtain ⟨p0, p1, p2, p3, p4⟩ := hT7.zero
  have HK6 := hide hk6
  have HK7 := hide hk7
  clear hW7 hk7 hO7 hF7 hT7 hy7t hkp7 hk6 fg d2 hC6 q2 q3' q2'
  have HV : Hid (∀ V, Keeps (fun k => (Value.slice sa sn sc).ownBlock = some k) W7.drew V → V.cell? ⟨a.p, 3, none⟩ = some (.slice sa sn sc) ∧ V.cell? ⟨w.heap.size, 0, none⟩ = some (.int .i64 ((sn : Int) + 1)) ∧ V.cell? ⟨w.heap.size, 1, none⟩ = some (.string (strB t.nm)) ∧ V.cell? ⟨w.heap.size, 2, none⟩ = some (.slice (some ⟨g, 0, none⟩) t.cs.xs.length yc) ∧ V.cell? ⟨w.heap.size, 3, none⟩ = some (.int .i64 t.ky) ∧ V.cell? ⟨w.heap.size, 4, none⟩ = some (.slice ja jn jc)) := fun V hV => by
    have hbp := hV.block a.p H7.out.lt (fun e => H7.out.d2 (by rw [Hev.out]; exact e))
    have hbw := hV.block w.heap.size (by show w.heap.size < W7.heap.size; omega) (fun e => by have := H0x.out w.heap.size (.inl (.inr (.inr (.inl (by rw [Hev.out]; exact e))))); omega)
    refine ⟨?_, (World.cell?_of_block (a := ⟨w.heap.size, 0, none⟩) hbw).trans p0, (World.cell?_of_block (a := ⟨w.heap.size, 1, none⟩) hbw).trans p1, (World.cell?_of_block (a := ⟨w.heap.size, 2, none⟩) hbw).trans p2, (World.cell?_of_block (a := ⟨w.heap.size, 3, none⟩) hbw).trans p3, (World.cell?_of_block (a := ⟨w.heap.size, 4, none⟩) hbw).trans p4⟩
    rw [← Hev.out]
    exact (World.cell?_of_block (a := ⟨a.p, 3, none⟩) hbp).trans H7.out.c3
  clear p0 p1 p2 p3 p4
  refine startG (fun V => Keeps (fun k => (Value.slice sa sn sc).ownBlock = some k) W7.drew V) (fun i => i == 10) (by kernel_rfl) ?_
  refine' takeG (i := 0) (v := _) rfl (by kernel_rfl) (by kernel_rfl) (by kernel_rfl) (by kernel_rfl) (fun _ _ _ h => h) (by rfl) (kpSelf _ _) ?_ ?_; rotate_left
  · (intro V hSV; obtain ⟨t3, x0, x1, x2, x3, x4⟩ := HV.out V hSV; go_simp; all_goals (with_reducible rfl))
  (try simp only [Act.put, List.setIfInBounds_toArray, List.set_cons_zero, List.set_cons_succ])
  refine' takeG (i := 1) (v := _) rfl (by kernel_rfl) (by kernel_rfl) (by kernel_rfl) (by kernel_rfl) (fun _ _ _ h => h) (by rfl) (kpSelf _ _) ?_ ?_; rotate_left
  · (intro V hSV; obtain ⟨t3, x0, x1, x2, x3, x4⟩ := HV.out V hSV; go_simp; all_goals (with_reducible rfl))
  (try simp only [Act.put, List.setIfInBounds_toArray, List.set_cons_zero, List.set_cons_succ])
  refine' takeG (i := 2) (v := _) rfl (by kernel_rfl) (by kernel_rfl) (by kernel_rfl) (by kernel_rfl) (fun _ _ _ h => h) (by rfl) (kpSelf _ _) ?_ ?_; rotate_left
  · (intro V hSV; obtain ⟨t3, x0, x1, x2, x3, x4⟩ := HV.out V hSV; go_simp; all_goals (with_reducible rfl))
  (try simp only [Act.put, List.setIfInBounds_toArray, List.set_cons_zero, List.set_cons_succ])
  refine' takeG (i := 3) (v := _) rfl (by kernel_rfl) (by kernel_rfl) (by kernel_rfl) (by kernel_rfl) (fun _ _ _ h => h) (by rfl) (kpSelf _ _) ?_ ?_; rotate_left
  · (intro V hSV; obtain ⟨t3, x0, x1, x2, x3, x4⟩ := HV.out V hSV; go_simp; all_goals (with_reducible rfl))
  (try simp only [Act.put, List.setIfInBounds_toArray, List.set_cons_zero, List.set_cons_succ])
  refine' takeG (i := 4) (v := _) rfl (by kernel_rfl) (by kernel_rfl) (by kernel_rfl) (by kernel_rfl) (fun _ _ _ h => h) (by rfl) (kpSelf _ _) ?_ ?_; rotate_left
  · (intro V hSV; obtain ⟨t3, x0, x1, x2, x3, x4⟩ := HV.out V hSV; go_simp; all_goals (with_reducible rfl))
  (try simp only [Act.put, List.setIfInBounds_toArray, List.set_cons_zero, List.set_cons_succ])
  refine' takeG (i := 5) (v := _) rfl (by kernel_rfl) (by kernel_rfl) (by kernel_rfl) (by kernel_rfl) (fun _ _ _ h => h) (by rfl) (kpSelf _ _) ?_ ?_; rotate_left
  · (intro V hSV; obtain ⟨t3, x0, x1, x2, x3, x4⟩ := HV.out V hSV; go_simp; all_goals (with_reducible rfl))
  (try simp only [Act.put, List.setIfInBounds_toArray, List.set_cons_zero, List.set_cons_succ])
  obtain ⟨W8, hW8⟩ : ∃ W8, W8 = (W7.alloc (.cells #[.int .i64 ((sn : Int) + 1), .string (strB t.nm), .slice (some ⟨g, 0, none⟩) t.cs.xs.length yc, .int .i64 t.ky, .slice ja jn jc] 48)).drew := ⟨_, rfl⟩
  have hb8 : Below W7.heap.size W7 W8 := by rw [hW8]; exact (new_below W7 _).drew
  have hS8 : Keeps (fun k => (Value.slice sa sn sc).ownBlock = some k) W7.drew W8 := Below.keeps (⟨hb8.os, hb8.tape, hb8.output, hb8.size, hb8.block⟩ : Below W7.drew.heap.size W7.drew W8) _
  refine callE (i := 6) rfl (by kernel_rfl) (fun K hK => ?_)
  go_simp
  rw [← hW8]
  refine hK.out _ _ (fun _ => hS8) ?_
  clear hK K
  (try simp only [Act.put, List.setIfInBounds_toArray, List.set_cons_zero, List.set_cons_succ])
  have HOne : Hid (OwnY layTb W8 W7.heap.size (.slice (some ⟨W7.heap.size, 0, none⟩) 1 1) [y7]) := by
    show OwnY _ _ _ _ _
    rw [hW8]
    refine OwnY.keep (ownY_one (L := layTb) W7 W7.heap.size #[.int .i64 ((sn : Int) + 1), .string (strB t.nm), .slice (some ⟨g, 0, none⟩) t.cs.xs.length yc, .int .i64 t.ky, .slice ja jn jc] y7 (Nat.le_refl _) (by rw [hy7]; rfl)) (Below.refl _ _).drew
  have hs8 : W7.heap.size ≤ W8.heap.size := hb8.size
  have HH8 : Hid (OwnY layTb W8 base (.slice sa sn sc) a.ms) := by
    show OwnY _ _ _ _ _
    rw [← Hev.out]
    exact H7.out.tt.keep hb8
  have HB8 := hide hb8
  have hsn : a.ms.length = sn := HH8.out.len.1
  have hbl := HBl.out
  clear hW8 hb8
  refine callE (i := 7) rfl (by kernel_rfl) (fun K hK => ?_)
  refine step_joinY layTb _ (by rfl) (.tmp 42) (.tmp 44) (by rfl) base (.slice sa sn sc) a.ms (by rfl) HH8.out (some ⟨W7.heap.size, 0, none⟩) 1 1 [y7] (by rfl) HOne.out.is.src (by simp only [List.length_singleton]; omega) (by omega) ?_
  intro v9 w9 hown9 hg9 hat9
  obtain ⟨va, vn, vc, rfl⟩ := hown9.any3
  have HO9 := hide hown9
  have hS9 : Keeps (fun k => (Value.slice sa sn sc).ownBlock = some k) W7.drew w9 := kpThen hS8 (fun k hk => .inl hk) (grown_kp hg9)
  have HK9 : Hid (Keeps (fun k => a.tv.ownBlock = some k) W7 w9) := by
    show Keeps _ _ _
    rw [Hev.out]
    exact kpThen (Below.keeps HB8.out _) (fun k hk => .inl hk) (grown_kp hg9)
  have HAt9 : Hid (AtB W7 a.tv (.slice va vn vc)) := by
    show AtB _ _ _
    rw [Hev.out]
    rcases hat9 with e | ⟨g2, e, hg2⟩
    · exact .inl e
    · exact .inr ⟨g2, e, Nat.le_trans hs8 hg2⟩
  refine hK.out _ _ (fun _ => hS9) ?_
  clear hown9 hg9 hat9
  clear hK K
  (try simp only [Act.put, List.setIfInBounds_toArray, List.set_cons_zero, List.set_cons_succ])
  refine callE (i := 8) rfl (by kernel_rfl) (fun K hK => ?_)
  go_simp
  refine hK.out _ _ (fun _ => hS9) ?_
  clear hK K
  (try simp only [Act.put, List.setIfInBounds_toArray, List.set_cons_zero, List.set_cons_succ])
  refine callE (i := 9) rfl (by kernel_rfl) (fun K hK => ?_)
  go_simp
  refine hK.out _ _ (fun _ => hS9) ?_
  clear hK K
  (try simp only [Act.put, List.setIfInBounds_toArray, List.set_cons_zero, List.set_cons_succ])

  have t9 := (HV.out _ hS9).1
  have f9 : w9.frozen? ⟨a.p, 3, none⟩ = false := (World.frozen?_of_block (a := ⟨a.p, 3, none⟩) (hS9.block a.p H7.out.lt (fun e => H7.out.d2 (by rw [Hev.out]; exact e)))).trans (H7.out.fz 3)
  have HS9 := hide hS9
  refine callE (i := 10) rfl (by kernel_rfl) (fun K hK => ?_)
  go_simp
  refine hK.out _ _ (fun h => by cases h) ?_
  clear hK K
  (try simp only [Act.put, List.setIfInBounds_toArray, List.set_cons_zero, List.set_cons_succ])
  refine doneE (by kernel_rfl) ?_ _
  -- the machine with the table
  have hk10 := keepsY_cell (w := w9) (g := a.p) (i := 3) (.slice va vn vc)
  have hkX : Keeps (fun k => a.X k ∨ ((F k ∨ k = w.heap.size) ∨ k = w.heap.size + 1)) W7 (w9.setCell ⟨a.p, 3, none⟩ (.slice va vn vc)) := kpThen (Keeps.wider HK9.out (fun k hk => .inl (.inl (.inr (.inr (.inl hk)))))) (fun k (e : k = a.p) => .inl (.inl (.inl (.inl e)))) hk10
  have hX' : ∀ k, ({ a with tv := .slice va vn vc, ms := a.ms ++ [y7] } : Mm).X k → a.X k ∨ W7.heap.size ≤ k := fun k hk => by
    rcases hk with (hk | hk | hk | hk) | hk
    · exact .inl (.inl (.inl hk))
    · exact .inl (.inl (.inr (.inl hk)))
    · rcases atB_or HAt9.out k hk with h1 | h1
      · exact .inl (.inl (.inr (.inr (.inl h1))))
      · exact .inr h1
    · exact .inl (.inl (.inr (.inr (.inr hk))))
    · exact .inl (.inr hk)
  have hxl : ∀ k, a.X k ∨ ((F k ∨ k = w.heap.size) ∨ k = w.heap.size + 1) → k < w3.heap.size := fun k hk => by
    rcases hk with hk | (hk | hk) | hk
    · have := H0x.out k hk; omega
    · have := H0f.out k hk; omega
    · omega
    · omega
  obtain ⟨a', hI10, hst10⟩ := H7.out.setTb (l' := a.ms ++ [y7]) (ts := S.tbs ++ [keptT S.tbs.length t.t]) HK9.out HO9.out HAt9.out (Nat.le_succ z) (by rw [List.map_append, H7.out.tm, List.map_singleton, HY7.out]) HI'.out (fun m hm => by
    rcases List.mem_append.1 hm with hm | hm
    · exact (H7.out.tf m hm).step hkX (fun k hk => by
        rcases hk with hk | hk
        · rcases hX' k hk with h1 | h1
          · exact .inl (.inl h1)
          · exact .inr h1
        · exact .inl (.inr hk))
    · rw [List.mem_singleton.1 hm]
      exact HF7.out.step (Keeps.wider hkX hxl) (fun k hk => by
        rcases hk with hk | hk
        · rcases hX' k hk with h1 | h1
          · exact .inl (hxl k (.inl h1))
          · exact .inr h1
        · exact .inl (hxl k (.inr hk))))
  have hT10 : At5t (w9.setCell ⟨a.p, 3, none⟩ (.slice va vn vc)) w.heap.size 0 y7 := HT7.out.same (hkY HK9.out hk10 w.heap.size (by omega) (fun e => by have := H0x.out w.heap.size (.inl (.inr (.inr (.inl e)))); omega) (fun e => hnp e.symm))
  have hkp10 : Keeps a.X w (w9.setCell ⟨a.p, 3, none⟩ (.slice va vn vc)) := kpThen HKp7.out (fun k hk => .inl hk) (kpThen (Keeps.wider HK9.out (fun k hk => .inl (.inr (.inr (.inl hk))))) (fun k (e : k = a.p) => .inl (.inl (.inl e))) hk10)
  have hz10 : Zero7 (w9.setCell ⟨a.p, 3, none⟩ (.slice va vn vc)) (w.heap.size + 1) := ((((((HZ1.out.same (HB13.out.block (w.heap.size + 1) (by have := HS1.out; omega))).same (HB4.out.block (w.heap.size + 1) (by omega))).same (HK5.out.block (w.heap.size + 1) (by omega) (by omega))).same (HK6.out.block (w.heap.size + 1) (by omega) (by omega))).same (HK7.out.block (w.heap.size + 1) (by omega) (by omega))).same (hkY HK9.out hk10 (w.heap.size + 1) (by omega) (fun e => by have := H0x.out (w.heap.size + 1) (.inl (.inr (.inr (.inl e)))); omega) (fun e => by have := H0x.out a.p (.inl (.inl rfl)); omega)))
  have hf10 : Foot (fun k => k < w3.heap.size) (w9.setCell ⟨a.p, 3, none⟩ (.slice va vn vc)) (fun V => y7.ok V) := HF7.out.step (Keeps.wider hkX hxl) (fun k hk => .inl hk)
  have hs10 : W7.heap.size ≤ (w9.setCell ⟨a.p, 3, none⟩ (.slice va vn vc)).heap.size := hkX.size
  obtain ⟨W10, hW10⟩ : ∃ W10, W10 = w9.setCell ⟨a.p, 3, none⟩ (.slice va vn vc) := ⟨_, rfl⟩
  rw [← hW10] at hI10 hst10 hT10 hkp10 hz10 hf10 hs10
  rw [← hW10]
  have HI10 := hide hI10
  have HSt10 := hide hst10
  have HKp10 := hide hkp10
  have HZ10 := hide hz10
  have hcl : y7.cs.n = t.cs.xs.length := by rw [hy7]
  have hjl : y7.ix.n = t.ix.xs.length := by have := hf10.now.ix.1; rw [← this, hy7]
  have hjn : y7.ix.n ≤ 20 := by rw [hjl]; have := (Htk.out.now).ix.1; have := HTf.out.2; omega
  have hcn : y7.cs.n ≤ 20 := by rw [hcl]; have := (Htk.out.now).cs.1; have := HTf.out.1; omega
  have hCp2 := pcopyT_any y7 W10 hf10.now (by omega) (by omega)
  rw [hy7] at hT10 hCp2
  have HCp2 := hide hCp2
  obtain ⟨p0, p1, p2, p3, p4⟩ := hT10.zero
  clear hW10 hk10 hkX hX' hI10 hst10 hkp10 hz10 hf10 hT10 t9 f9 hS9 hCp2
  go_wp2_with (first
    | (go_at_call 122; go_must (refine HCp2.out.mono ?_); rintro e w11 ⟨y8, rfl, h8t, h8o, h8i, hb11⟩; have hz11 := HZ10.out.same (hb11.block (w.heap.size + 1) (by omega)); have HZ11 := hide hz11; have ha4 := fun o => hz11.same ((new_below w11 o).block (w.heap.size + 1) (by have := hb11.size; omega)); have z0 := fun o => (ha4 o).c0; have z1 := fun o => (ha4 o).c1; have z2 := fun o => (ha4 o).c2; have z3 := fun o => (ha4 o).c3; have z4 := fun o => (ha4 o).c4; have z5 := fun o => (ha4 o).c5; have z6 := fun o => (ha4 o).c6; have g0 := fun o => (ha4 o).fz 0; have g1 := fun o => (ha4 o).fz 1; have g2 := fun o => (ha4 o).fz 2; have g3 := fun o => (ha4 o).fz 3; have g4 := fun o => (ha4 o).fz 4; have g5 := fun o => (ha4 o).fz 5; have g6 := fun o => (ha4 o).fz 6; have n4 : ¬ w.heap.size + 1 = w11.heap.size := (by have := hb11.size; omega); have n4' : ¬ w11.heap.size = w.heap.size + 1 := (fun e => n4 e.symm); have H8t := hide h8t; have H8o := hide h8o; have H8i := hide h8i; have HB11 := hide hb11; clear ha4 hz11 hb11 h8t h8o h8i))
  change bodyPost _ _ _ _ _ (ResAt (w11.alloc (.cells #[.int .i64 y8.id, .string (strB y8.nm), .slice y8.cs.a y8.cs.n y8.cs.c, .int .i64 y8.ky, .slice y8.ix.a y8.ix.n y8.ix.c] 48)) (w.heap.size + 1) (mresT w11.heap.size y8))
  have hI11 := HI10.out.keep HB11.out
  have hst11 := ((MStep.keep a (Below.refl W7.heap.size W7)).trans HSt10.out).trans ((MStep.keep a' HB11.out).trans (MStep.keep a' (new_below w11 (.cells #[.int .i64 y8.id, .string (strB y8.nm), .slice y8.cs.a y8.cs.n y8.cs.c, .int .i64 y8.ky, .slice y8.ix.a y8.ix.n y8.ix.c] 48))))
  have hl11 := HB11.out.size
  have h8 : y8.t = keptT S.tbs.length t.t := by
    have h9 : y7.t = keptT S.tbs.length t.t := HY7.out
    rw [← h9, hy7]
    exact H8t.out
  have hF8 := copyT_foot H8o.out H8i.out
  have hend := rs_close2 (F := F) (w := w) (V := w11.alloc (.cells #[.int .i64 y8.id, .string (strB y8.nm), .slice y8.cs.a y8.cs.n y8.cs.c, .int .i64 y8.ky, .slice y8.ix.a y8.ix.n y8.ix.c] 48)) (z := z + 1) (x := ({ res0 with tbs := [keptT S.tbs.length t.t] }, { S with tbs := S.tbs ++ [keptT S.tbs.length t.t] })) (mr := mresT w11.heap.size y8) (b := w.heap.size + 1) (fun k hk => .inl (.inl hk)) (fun k hk => by
    rcases hk with (hk | hk) | hk
    · exact .inl hk
    · exact .inr (by omega)
    · exact .inr (by omega)) (Nat.le_succ _) (.inr rfl) (hI11.keep (new_below w11 (.cells #[.int .i64 y8.id, .string (strB y8.nm), .slice y8.cs.a y8.cs.n y8.cs.c, .int .i64 y8.ky, .slice y8.ix.a y8.ix.n y8.ix.c] 48))) hst11.p (kpThen HKp10.out (fun k hk => .inl hk) (Below.keeps (HB11.out.trans ((new_below w11 (.cells #[.int .i64 y8.id, .string (strB y8.nm), .slice y8.cs.a y8.cs.n y8.cs.c, .int .i64 y8.ky, .slice y8.ix.a y8.ix.n y8.ix.c] 48)).mono HB11.out.size)) a.X)) (fun k hk => by
      rcases hst11.st k hk with h1 | h1
      · exact .inl h1
      · exact .inr (by omega)) (by rw [← h8]; rfl) (mresT_foot (fun k hk => by
        rcases hk with hk | (hk | hk) | hk
        · exact (hI11.xl k hk).2
        · have := H0f.out k hk; omega
        · omega
        · omega) (hF8.more (fun k hk => .inl (by
        rcases hk with hk | (hk | hk) | hk
        · exact (HI10.out.xl k hk).2
        · have := H0f.out k hk; omega
        · omega
        · omega))))
  obtain ⟨r0, r1, r2, r3, r4, r5, r6⟩ := resAt_box (HZ11.out.same ((new_below w11 (.cells #[.int .i64 y8.id, .string (strB y8.nm), .slice y8.cs.a y8.cs.n y8.cs.c, .int .i64 y8.ky, .slice y8.ix.a y8.ix.n y8.ix.c] 48)).block (w.heap.size + 1) (by omega))) (mresT w11.heap.size y8)
  generalize ResAt (w11.alloc (.cells #[.int .i64 y8.id, .string (strB y8.nm), .slice y8.cs.a y8.cs.n y8.cs.c, .int .i64 y8.ky, .slice y8.ix.a y8.ix.n y8.ix.c] 48)) (w.heap.size + 1) (mresT w11.heap.size y8) = W at *
  exact bodyPost_ret (v := (mresT w11.heap.size y8).v) (by simp [results, Tryz.results80, go_sem, MRes.v, r0, r1, r2, r3, r4, r5, r6]) rfl hend

theorem ptable_any {w : World} (h : IsMm F base w a z S) (t : MTb) (ht : Foot (fun k => a.X k ∨ F k) w (fun V => t.ok V)) (htf : t.cs.n ≤ 20 ∧ t.ix.n ≤ 20) (hz : z ≤ 1000) :
    Calls Tryz.prog 80 #[.pointer (some ⟨a.p, 0, none⟩), .agg #[.int .i64 t.id, .string (strB t.nm), .slice t.cs.a t.cs.n t.cs.c, .int .i64 t.ky, .slice t.ix.a t.ix.n t.ix.c]] w (RsPost F base w a (z + 1) (tableM S t.t)) := by
  unfold tableM
  by_cases h1 : takesB S.tbs t.t = true
  · rw [if_pos h1]
    exact ptable_yes h t ht htf hz h1
  · rw [if_neg h1]
    exact ptable_no h t ht (by simpa using h1)

end Go.Proofs.YtcgiicmmfleinaaGreatDoor
