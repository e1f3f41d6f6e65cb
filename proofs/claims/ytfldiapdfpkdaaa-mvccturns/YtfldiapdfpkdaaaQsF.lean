/- The program's store: At. The program's store: Intend. -/
import Derived.Test.YtfldiapdfpkdaaaQsE
namespace Go.Proofs.Ytfldiapdfpkdaaa
open Go.RowKit NumMath Go.ChangeShapes Go.WideShapes Go.Deep
set_option linter.unusedVariables false
set_option maxRecDepth 100000

theorem atV_pos {α : Type} (tv : α → Int) (ts : Int) : ∀ (vs : List α), atV tv ts vs = vs[posV tv ts vs]? := by
  intro vs
  unfold atV posV
  induction vs with
  | nil => rfl
  | cons a r ih =>
    rw [List.find?_cons, List.takeWhile_cons]
    by_cases h : tv a ≤ ts
    · rw [decide_eq_true h, decide_eq_false (by omega : ¬ ts < tv a)]
      rfl
    · rw [decide_eq_false h, decide_eq_true (by omega : ts < tv a)]
      simpa using ih

theorem atC_some {cs : List PC} (hs : SortC (cs.map PC.c)) {key : List Int} {m : PC} (h : atS cs key = some m) (ts : Int) : atC (cs.map PC.c) key ts = (m.vs[posV tsM ts m.vs]?).map MV.v := by
  obtain ⟨i, hi, hk⟩ := atS_get h
  have := atC_mem hs (c := m.c) (List.mem_map_of_mem (List.mem_of_getElem? hi)) ts
  have e : m.c.key = key := hk
  rw [e] at this
  rw [this, ← atV_pos]
  exact atV_map MV.v tsM Ver.ts (fun _ => rfl) ts m.vs

theorem atC_none {cs : List PC} {key : List Int} (h : atS cs key = none) (ts : Int) : atC (cs.map PC.c) key ts = none := by
  unfold atC
  rw [atS_notAt h, if_neg (by simp)]

/-- what At answers: a copy -/
def PAtPost (w : World) (r : Option Ver) (e : Ending) (w' : World) : Prop :=
  ∃ m : MV, e = .returned (.tuple #[.agg #[.int .u64 m.v.ts, .int .u64 m.v.tx, .bool m.v.dd, .slice m.va m.vn m.vc, .slice m.ka m.kn m.kc], .bool r.isSome]) ∧ m.v = r.getD ver0 ∧ Foot (fun k => k < w.heap.size) w' (fun w => m.at w) ∧ Below w.heap.size w w'

set_option maxHeartbeats 4000000 in
theorem pAt_any (G : Nat → Prop) (base : Nat) (w : World) (p mb z : Nat) (cs : List PC) (h : IsS G base w p mb z cs) (hz : z ≤ 100000) (a : Option Addr) (n c : Nat) (key : List Int) (hk : IsBytes w a n c key) (hn : n ≤ 100000) (ts : Int) :
    Calls Try.prog 13 #[.pointer (some ⟨p, 0, none⟩), .slice a n c, .int .u64 ts] w fun e w' => PAtPost w (atC (cs.map PC.c) key ts) e w' := by
  obtain ⟨W0, hW0⟩ : ∃ W0, W0 = w.alloc (.cells #[.int .u64 0, .int .u64 0, .bool false, .slice none 0 0, .slice none 0 0] 36) := ⟨_, rfl⟩
  have hb0 : Below w.heap.size w W0 := by rw [hW0]; exact new_below _ _
  have HX0 : Hid (BxV W0 w.heap.size mv0) := by show BxV _ _ _; rw [hW0]; exact bxV_new w mv0 _ rfl
  have h0 := h.keep hb0
  have HMd := hide (pmade_any W0 p mb h0.c)
  have hkr := hk.2.2.2.1
  have HLk := hide (h0.map.look hkr (by rw [hk.1]; omega))
  have HB0 := hide hb0
  have H0 := hide h0
  have HW0 := hide hW0
  have c0 := h0.c
  have c0d : W0.drew.cell? ⟨p, 0, none⟩ = some (.map (some mb)) := c0
  have q1 : (convert 23 9 (.slice a n c)).run Try.prog W0.drew = .ok (.string (strB key)) W0.drew := ((hk.keep hb0).keep (Below.refl _ W0).drew).conv
  have HC : Hid (∀ W, Below W0.drew.heap.size W0.drew W → W.cell? ⟨p, 0, none⟩ = some (.map (some mb)) ∧ (convert 23 9 (.slice a n c)).run Try.prog W = .ok (.string (strB key)) W ∧ (Instr.lookup 72 (.map (some mb)) (.string (strB key)) false).run Try.prog W = .ok (ptrV (blkOf cs key)) W) := fun W hW =>
    ⟨((h0.keep (Below.refl _ W0).drew).keep hW).c, (((hk.keep hb0).keep (Below.refl _ W0).drew).keep hW).conv, HLk.out W (hW.block mb h0.map.lt)⟩
  rw [hW0] at HMd
  have hs0 : W0.heap.size = w.heap.size + 1 := by rw [hW0]; simp
  have HS0 := hide hs0
  clear hb0 hW0 hs0
  cases hat : atS cs key with
  | none =>
    have hf : blkOf cs key = -1 := by unfold blkOf; rw [hat]
    have hpv : ptrV (-1) = .pointer none := rfl
    have HR : Hid (atC (cs.map PC.c) key ts = none) := atC_none hat ts
    have l1 := (HC.out W0.drew (Below.refl _ _)).2.2
    rw [hf, hpv] at HC l1
    clear h h0 hk hat hf hkr
    go_enter Try.func13, Try.ntmps13
    go_upto_region 3 with (first
      | (go_at_call 41; go_must (refine HMd.out.mono ?_); rintro e w1 ⟨rfl, hw⟩; rw [← HW0.out] at hw; have hw := hw.symm; subst hw))
    go_region_with (first
      | (go_at_call 36; go_must (refine (upTo_nil _ ts).mono ?_); rintro e w2 ⟨rfl, hw⟩; have hw := hw.symm; subst hw))
    all_goals
      obtain ⟨z0, z1, z2, z3, z4⟩ := HX0.out.x
      have hzf := HX0.out.fz
      go_wp2
      have r9 := resV (w := W0) HX0.out.r HX0.out.fz mv0
      obtain ⟨r0, r1, r2, r3, r4⟩ := rangeV r9
      have hk4 := keepsYs W0 w.heap.size 0 (layV.cells mv0)
      change bodyPost _ _ _ _ _ (W0.setCells w.heap.size 0 (layV.cells mv0)).drew
      generalize W0.setCells w.heap.size 0 (layV.cells mv0) = W9 at *
      refine bodyPost_ret (v := .tuple #[.agg (cellsV mv0), .bool false]) (by simp [results, Try.results13, go_sem, r0, r1, r2, r3, r4]) rfl ?_
      refine ⟨mv0, by rw [HR.out]; rfl, by rw [HR.out]; rfl, mv0_foot _ _, ?_⟩
      exact (HB0.out.trans (hk4.below HB0.out.size (fun k e => by rw [e]; exact Nat.le_refl _))).drew
  | some m =>
    have hm := (atS_mem hat).1
    have hf : blkOf cs key = (m.b : Int) := by unfold blkOf; rw [hat]
    have HR := hide (atC_some h.sort hat ts)
    have HU : Hid (∀ W, Below W0.heap.size W0 W → Calls Try.prog 36 #[.pointer (some ⟨m.b, 0, none⟩), .int .u64 ts] W fun e w' => UpPost W m ts e w') := fun W hW => pupTo_any base W m ((h0.is m hm).keep hW) (h.go m hm).desc (by have := (h.go m hm).few; omega) ts
    have HDt := hide (h0.dat m hm)
    have HFt := hide (h.go m hm).fit
    have l1 := (HC.out W0.drew (Below.refl _ _)).2.2
    rw [hf, ptrV_of] at HC l1
    clear h h0 hk hat hf hkr hm
    go_enter Try.func13, Try.ntmps13
    go_upto_region 3 with (first
      | (go_at_call 41; go_must (refine HMd.out.mono ?_); rintro e w1 ⟨rfl, hw⟩; rw [← HW0.out] at hw; have hw := hw.symm; subst hw))
    go_region_with (first
      | (go_at_call 36; go_must (refine (HU.out _ (by exact (Below.refl _ W0).drew)).mono ?_); rintro e w2 ⟨a2, n2, c2, rfl, hl2, hI2, hb2⟩; have HL2 := hide hl2; have HI2 := hide hI2; have HB2d := hide hb2; have HB2 := hide (below_undrew hb2); clear hl2 hI2 hb2))
    all_goals
      have HX2 := hide (HX0.out.keep HB2.out)
      obtain ⟨z0, z1, z2, z3, z4⟩ := HX2.out.x
      have hzf := HX2.out.fz
      have hsz2 : w.heap.size + 1 ≤ w2.heap.size := by have := HB2.out.size; rw [HS0.out] at this; exact this
      have HBw : Hid (Below w.heap.size w w2) := HB0.out.trans (HB2.out.mono (by rw [HS0.out]; omega))
      by_cases hn0 : n2 = 0
      · subst hn0
        have HR2 : Hid (atC (cs.map PC.c) key ts = none) := by
          show _ = _
          rw [HR.out, List.getElem?_eq_none (by have := HL2.out; rw [List.length_drop] at this; omega)]; rfl
        go_wp2
        have r9 := resV (w := w2) HX2.out.r HX2.out.fz mv0
        obtain ⟨r0, r1, r2, r3, r4⟩ := rangeV r9
        have hk4 := keepsYs w2 w.heap.size 0 (layV.cells mv0)
        change bodyPost _ _ _ _ _ (w2.setCells w.heap.size 0 (layV.cells mv0))
        generalize w2.setCells w.heap.size 0 (layV.cells mv0) = W9 at *
        refine bodyPost_ret (v := .tuple #[.agg (cellsV mv0), .bool false]) (by simp [results, Try.results13, go_sem, r0, r1, r2, r3, r4]) rfl ?_
        refine ⟨mv0, by rw [HR2.out]; rfl, by rw [HR2.out]; rfl, mv0_foot _ _, ?_⟩
        exact HBw.out.trans (hk4.below HBw.out.size (fun k e => by rw [e]; exact Nat.le_refl _))
      · have hP : posV tsM ts m.vs < m.vs.length := by have := HL2.out; rw [List.length_drop] at this; omega
        obtain ⟨x, hx⟩ : ∃ x, m.vs[posV tsM ts m.vs]? = some x := ⟨_, List.getElem?_eq_getElem hP⟩
        have HR2 : Hid (atC (cs.map PC.c) key ts = some x.v) := by
          show _ = _
          rw [HR.out, hx]; rfl
        have hmx : x ∈ m.vs := List.mem_of_getElem? hx
        have hI := HI2.out w2 HB2d.out
        obtain ⟨g, off, ha2, hg, hCv⟩ := hI.at (j := 0) (by omega)
        have hx0 : (m.vs.drop (posV tsM ts m.vs))[0]? = some x := by rw [List.getElem?_drop]; exact hx
        have hcell : w2.rangeAt g off (layV.cells x) := by have := hCv 0 x hx0; rw [Nat.zero_mul, Nat.add_zero] at this; exact this
        obtain ⟨y0, y1, y2, y3, y4⟩ := rangeV hcell
        have HCp := hide (copyOf_any x w2 (((HDt.out.1 x hmx).keep HB2.out).now) (HFt.out x hmx))
        have hnI : ¬ ((n2 : Int) = 0) := by omega
        have hnI' : ((n2 : Int) == 0) = false := by simp; omega
        have hnp : 0 < (n2 : Int) := by omega
        rw [ha2]
        clear hP hx hmx hI hCv hx0 hcell
        go_wp2_with (first
          | (go_at_call 39; go_must (refine HCp.out.mono ?_); rintro e w3 ⟨m3, rfl, hv3, hF3, hb3⟩; have HX3 := hide (HX2.out.keep hb3); obtain ⟨z0, z1, z2, z3, z4⟩ := HX3.out.x; have hzf := HX3.out.fz; have HV3 := hide hv3; have HF3 := hide hF3; have HB3 := hide hb3; clear hv3 hF3 hb3))
        have r9 := resV (w := w3) HX3.out.r HX3.out.fz m3
        obtain ⟨r0, r1, r2, r3, r4⟩ := rangeV r9
        have hk4 := keepsYs w3 w.heap.size 0 (layV.cells m3)
        change bodyPost _ _ _ _ _ (w3.setCells w.heap.size 0 (layV.cells m3))
        generalize w3.setCells w.heap.size 0 (layV.cells m3) = W9 at *
        refine bodyPost_ret (v := .tuple #[.agg (cellsV m3), .bool true]) (by simp [results, Try.results13, go_sem, r0, r1, r2, r3, r4]) rfl ?_
        have hsz3 := HB3.out.size
        refine ⟨m3, by rw [HR2.out]; rfl, by rw [HR2.out, HV3.out]; rfl, ?_, ?_⟩
        · exact (HF3.out.more (Y := fun k => k < w.heap.size + 1) (fun k hk => .inl (by omega))).step (Keeps.wider hk4 (fun k e => by rw [e]; omega)) (fun k hk => .inl (by omega))
        · have hbw3 := HBw.out.trans (HB3.out.mono HBw.out.size)
          exact hbw3.trans (hk4.below hbw3.size (fun k e => by rw [e]; exact Nat.le_refl _))

end Go.Proofs.Ytfldiapdfpkdaaa

namespace Go.Proofs.Ytfldiapdfpkdaaa
open Go.RowKit NumMath Go.ChangeShapes Go.WideShapes Go.Deep
set_option linter.unusedVariables false
set_option maxRecDepth 100000

/-- another intent -/
theorem PC.is.setIt {base : Nat} {w : World} {m : PC} (h : m.is base w) (mi : MV) : PC.is base (w.setCells m.b 1 (layV.cells mi)) { m with it := mi } ∧ Keeps m.blk w (w.setCells m.b 1 (layV.cells mi)) := by
  have hk := keepsYs w m.b 1 (layV.cells mi)
  have r1 := range_set (i := 1) (v := .int .u64 mi.v.ts) h.r (by simp [layV])
  have r2 := range_set (i := 2) (v := .int .u64 mi.v.tx) r1 (by simp [layV])
  have r3 := range_set (i := 3) (v := .bool mi.v.dd) r2 (by simp [layV])
  have r4 := range_set (i := 4) (v := .slice mi.va mi.vn mi.vc) r3 (by simp [layV])
  have r5 := range_set (i := 5) (v := .slice mi.ka mi.kn mi.kc) r4 (by simp [layV])
  refine ⟨⟨r5, fun j => ?_, h.lo, Nat.lt_of_lt_of_le h.lt hk.size, h.own.lies (fun g hg => hk.block g (h.own.lt g hg).2 (fun e => h.ne (by rw [hg, e]))), h.ne⟩, Keeps.wider hk (fun k e => .inl e)⟩
  show (World.setCell _ _ _).frozen? _ = _
  simp only [World.frozen?_setCell]
  exact h.fz j

/-- an intent laid into one of the cells -/
theorem IsS.setIt {G : Nat → Prop} {base : Nat} {w : World} {p mb z : Nat} {cs : List PC} (h : IsS G base w p mb z cs) {i : Nat} {m : PC} (hi : cs[i]? = some m) (mi : MV) (hf : FitV mi.v) (hd : Foot (MutG G mb cs) w (fun w => mi.at w)) :
    ∃ cs', IsS G base (w.setCells m.b 1 (layV.cells mi)) p mb z cs' ∧ cs' = cs.set i { m with it := mi } ∧ cs'.map PC.c = (cs.map PC.c).modify i (Go.Proofs.Ytfldiapdfpkdaaa.setIt mi.v) ∧ Keeps (Mut mb cs) w (w.setCells m.b 1 (layV.cells mi)) ∧ ∀ k, Mut mb cs' k → Mut mb cs k ∨ w.heap.size ≤ k := by
  have hm := List.mem_of_getElem? hi
  obtain ⟨s1, s2⟩ := (h.is m hm).setIt mi
  have hg := h.go m hm
  obtain ⟨r1, r2, r3⟩ := h.turn hi (m' := { m with it := mi }) rfl rfl ⟨s1, s2, fun k hk => .inl hk⟩ ⟨(h.dat m hm).1, hd⟩ (Nat.le_refl z) ⟨hg.key, hg.kl, hg.desc, hg.fit, hf, hg.few⟩
  exact ⟨_, r1, rfl, set_map_c hi rfl rfl, r2, r3⟩

theorem busy_none {cs : List PC} {key : List Int} (h : atS cs key = none) (tx : Int) : busyC (cs.map PC.c) key tx = false := by
  unfold busyC
  rw [atS_notAt h]
  rfl

theorem busy_some {cs : List PC} (hs : SortC (cs.map PC.c)) {key : List Int} {m : PC} (h : atS cs key = some m) (tx : Int) : busyC (cs.map PC.c) key tx = (m.it.v.tx != 0 && m.it.v.tx != tx) := by
  obtain ⟨i, hi, hk⟩ := atS_get h
  obtain ⟨e1, e2⟩ := atS_isAt hs hi hk
  rw [busyC_of (c := m.c) e1 (by rw [e2, List.getElem?_map, hi]; rfl)]
  have e3 : m.c.it.tx = m.it.v.tx := rfl
  rw [e3]
  by_cases h1 : m.it.v.tx = 0 <;> by_cases h2 : m.it.v.tx = tx <;> simp [h1, h2]

set_option maxHeartbeats 4000000 in
theorem pIntend_any (G : Nat → Prop) (base : Nat) (w : World) (p mb z : Nat) (cs : List PC) (h : IsS G base w p mb z cs) (hz : z ≤ 10000) (a : Option Addr) (n c : Nat) (key : List Int) (hk : IsBytes w a n c key) (hn : n ≤ 100000) (mv : MV) (hmv : Foot (Mut mb cs) w (fun w => mv.at w)) (hf : FitV mv.v) :
    Calls Try.prog 27 #[.pointer (some ⟨p, 0, none⟩), .slice a n c, .agg #[.int .u64 mv.v.ts, .int .u64 mv.v.tx, .bool mv.v.dd, .slice mv.va mv.vn mv.vc, .slice mv.ka mv.kn mv.kc]] w fun e w' => e = .returned (.int .i64 (intendC (cs.map PC.c) key mv.v).2) ∧ StPost G base w p mb (z + 2) cs (intendC (cs.map PC.c) key mv.v).1 w' := by
  obtain ⟨W0, hW0⟩ : ∃ W0, W0 = w.alloc (.cells #[.int .u64 mv.v.ts, .int .u64 mv.v.tx, .bool mv.v.dd, .slice mv.va mv.vn mv.vc, .slice mv.ka mv.kn mv.kc] 36) := ⟨_, rfl⟩
  have hb0 : Below w.heap.size w W0 := by rw [hW0]; exact new_below _ _
  have HX0 : Hid (BxV W0 w.heap.size mv) := by show BxV _ _ _; rw [hW0]; exact bxV_new w mv _ rfl
  have h0 := h.keep hb0
  have HMd : Hid (∀ W, W.cell? ⟨p, 0, none⟩ = some (.map (some mb)) → Calls Try.prog 41 #[.pointer (some ⟨p, 0, none⟩)] W fun e w' => e = .returned (.bool true) ∧ w' = W) := fun W hW => pmade_any W p mb hW
  have HCo : Hid (∀ W, Below W0.heap.size W0 W → Calls Try.prog 49 #[.pointer (some ⟨p, 0, none⟩), .slice a n c] W fun e w' => CofPost G base W p mb z cs key e w') := fun W hW => pcellOf_any G base W p mb z cs (h0.keep hW) (by omega) a n c key ((hk.keep hb0).keep hW) hn
  have hkr := hk.2.2.2.1
  have HLk := hide (h0.map.look hkr (by rw [hk.1]; omega))
  have HF0 := hide (hmv.keep hb0)
  have HB0 := hide hb0
  have HML : Hid (∀ k, Mut mb cs k → k < w.heap.size) := fun k hk => h.mlt hk
  have HS0 : Hid (∀ W, Below W0.heap.size W0 W → StPost G base w p mb (z + 2) cs (cs.map PC.c) W) := fun W hW => ⟨cs, (h0.keep hW).more (by omega), rfl, Below.keeps (hb0.trans (hW.mono hb0.size)) _, fun k hk => .inl hk⟩
  have H := hide h
  have HW0 := hide hW0
  have c0 := h0.c
  obtain ⟨z0, z1, z2, z3, z4⟩ := HX0.out.x
  have HNm : Hid (¬ Mut mb cs w.heap.size) := fun e => by have := HML.out _ e; omega
  have q1 := fun nd => ((hk.keep hb0).keep (below_drewN (Below.refl _ W0) nd)).conv
  have q2 := fun nd => HLk.out (W0.drewN nd) rfl
  unfold intendC
  by_cases htx : mv.v.tx = 0
  · have HE : Hid (mv.v.tx = 0) := htx
    have htb : (mv.v.tx == 0) = true := by simp [htx]
    rw [if_pos htx]
    clear h h0 hk hmv hb0 htx q2
    go_enter Try.func27, Try.ntmps27
    rw [hW0] at c0 z1 HS0
    go_wp2
    go_quiet (first
      | (go_at_call 41; refine Calls.quiet_of_same (HMd.out _ (by exact c0))))
    go_wp2
    go_ret
    exact ⟨rfl, HS0.out _ (below_drewN (Below.refl _ _) _)⟩
  · have HE : Hid (¬ mv.v.tx = 0) := htx
    have htb : (mv.v.tx == 0) = false := by simp [htx]
    rw [if_neg htx]
    cases hat : atS cs key with
    | none =>
      have hf0 : blkOf cs key = -1 := by unfold blkOf; rw [hat]
      have hpv : ptrV (-1) = .pointer none := rfl
      rw [hf0, hpv] at q2
      rw [busy_none hat, if_neg (by simp)]
      clear h h0 hk hmv hb0 htx hat hf0
      go_enter Try.func27, Try.ntmps27
      rw [hW0] at c0 z1 q1 q2
      go_wp2
      go_quiet (first
        | (go_at_call 41; refine Calls.quiet_of_same (HMd.out _ (by exact c0)))
        | (go_at_call 51; refine Calls.quiet_of_same (ptaken_nil _ mv.v.tx)))
      obtain ⟨W1, hW1⟩ : ∃ W, W = W0.drewN nq := ⟨_, rfl⟩
      rw [← hW0, ← hW1]
      have hb1 : Below W0.heap.size W0 W1 := by rw [hW1]; exact below_drewN (Below.refl _ W0) nq
      have HB1 := hide hb1
      have HX1 := hide (HX0.out.keep hb1)
      obtain ⟨y0, y1, y2, y3, y4⟩ := HX1.out.x
      clear q1 q2 hb1 hW1 z0 z1 z2 z3 z4 c0
      go_wp2_with fail
      go_region_with (first
        | (go_at_call 39; go_must (refine HCp.out.mono ?_); rintro e w3 ⟨m3, rfl, hv3, hF3, hb3⟩; have HM3 := hide (PC.is.keep HM2.out hb3); have hmf := HM3.out.fz; obtain ⟨v0, v1, v2, v3, v4, v5⟩ := HM3.out.x; have HV3 := hide hv3; have HF3 := hide hF3; have HB3 := hide hb3; clear hv3 hF3 hb3)
        | (go_at_call 49; go_must (refine (HCo.out _ (by exact HB1.out.trans (Below.refl _ W1).drew)).mono ?_); rintro e w2 ⟨cs2, m2, rfl, hS2, hi2, hk2, hc2, hkp2, hn2⟩; obtain ⟨x0, x1, x2, x3, x4⟩ := (BxV.lies (w := W1.drew) (HX1.out.keep (Below.refl _ W1).drew) hkp2 HNm.out).x; have HCp := hide (copyOf_any mv w2 (Foot.now (((HF0.out.keep HB1.out).keep (Below.refl _ W1).drew).step hkp2 (fun k hk => .inl hk))) hf); have HM2 := hide (hS2.is m2 (List.mem_of_getElem? hi2)); have HS2 := hide hS2; have HI2 := hide hi2; have HC2 := hide hc2; have HKp2 := hide hkp2; have HN2 := hide hn2; clear hS2 hi2 hk2 hc2 hkp2 hn2))
      all_goals
        go_wp2
        change bodyPost _ _ _ _ _ (w3.setCells m2.b 1 (layV.cells m3))
        go_ret
        have hS3 := HS2.out.keep HB3.out
        have hd : Foot (MutG G mb cs2) w3 (fun w => m3.at w) := HF3.out.more (fun k hk => .inl (by
          rcases hk with hk | hk
          · exact HS2.out.mlt hk
          · exact HS2.out.gl k hk))
        obtain ⟨cs4, r1, -, r2, r3, r4⟩ := hS3.setIt HI2.out m3 (by rw [HV3.out]; exact hf) hd
        have hs2 : w.heap.size ≤ W1.drew.heap.size := Nat.le_trans HB0.out.size HB1.out.size
        have hs3 : W1.drew.heap.size ≤ w2.heap.size := HKp2.out.size
        have hs4 := HB3.out.size
        refine ⟨rfl, cs4, r1.more (by omega), ?_, ?_, ?_⟩
        · rw [r2, HC2.out, HV3.out]
        · have k1 : Keeps (Mut mb cs) w w2 := kpThen (Below.keeps (HB0.out.trans (HB1.out.mono HB0.out.size)) _) (fun k hk => .inl hk) (kpThen (Below.keeps (Below.refl _ W1).drew _) (fun k hk => .inl hk) HKp2.out)
          exact kpThen (kpBelow k1 HB3.out) (fun k hk => by
            rcases HN2.out k hk with h1 | h1
            · exact .inl h1
            · exact .inr (Nat.le_trans hs2 h1)) r3
        · intro k hk
          rcases r4 k hk with h1 | h1
          · rcases HN2.out k h1 with h2 | h2
            · exact .inl h2
            · exact .inr (Nat.le_trans hs2 h2)
          · exact .inr (by omega)
    | some m =>
      have hm := (atS_mem hat).1
      have hf0 : blkOf cs key = (m.b : Int) := by unfold blkOf; rw [hat]
      rw [hf0, ptrV_of] at q2
      rw [busy_some h.sort hat]
      have HTk : Hid (∀ W, Below W0.heap.size W0 W → Calls Try.prog 51 #[.pointer (some ⟨m.b, 0, none⟩), .int .u64 mv.v.tx] W fun e w' => e = .returned (.bool (m.it.v.tx != 0 && m.it.v.tx != mv.v.tx)) ∧ w' = W) := fun W hW => ptaken_any base W m ((h0.is m hm).keep hW) mv.v.tx
      clear h h0 hk hmv hb0 htx hat hf0 hm
      obtain ⟨b, hb⟩ : ∃ b : Bool, (m.it.v.tx != 0 && m.it.v.tx != mv.v.tx) = b := ⟨_, rfl⟩
      rw [hb] at HTk ⊢
      clear hb
      cases b
      · rw [if_neg (by simp)]
        go_enter Try.func27, Try.ntmps27
        rw [hW0] at c0 z1 q1 q2 HTk
        go_wp2
        go_quiet (first
          | (go_at_call 41; refine Calls.quiet_of_same (HMd.out _ (by exact c0)))
          | (go_at_call 51; refine Calls.quiet_of_same (HTk.out _ (by exact below_drewN (Below.refl _ _) _))))
        obtain ⟨W1, hW1⟩ : ∃ W, W = W0.drewN nq := ⟨_, rfl⟩
        rw [← hW0, ← hW1]
        have hb1 : Below W0.heap.size W0 W1 := by rw [hW1]; exact below_drewN (Below.refl _ W0) nq
        have HB1 := hide hb1
        have HX1 := hide (HX0.out.keep hb1)
        obtain ⟨y0, y1, y2, y3, y4⟩ := HX1.out.x
        clear q1 q2 hb1 hW1 z0 z1 z2 z3 z4 c0
        go_wp2_with fail
        go_region_with (first
          | (go_at_call 39; go_must (refine HCp.out.mono ?_); rintro e w3 ⟨m3, rfl, hv3, hF3, hb3⟩; have HM3 := hide (PC.is.keep HM2.out hb3); have hmf := HM3.out.fz; obtain ⟨v0, v1, v2, v3, v4, v5⟩ := HM3.out.x; have HV3 := hide hv3; have HF3 := hide hF3; have HB3 := hide hb3; clear hv3 hF3 hb3)
          | (go_at_call 49; go_must (refine (HCo.out _ (by exact HB1.out.trans (Below.refl _ W1).drew)).mono ?_); rintro e w2 ⟨cs2, m2, rfl, hS2, hi2, hk2, hc2, hkp2, hn2⟩; obtain ⟨x0, x1, x2, x3, x4⟩ := (BxV.lies (w := W1.drew) (HX1.out.keep (Below.refl _ W1).drew) hkp2 HNm.out).x; have HCp := hide (copyOf_any mv w2 (Foot.now (((HF0.out.keep HB1.out).keep (Below.refl _ W1).drew).step hkp2 (fun k hk => .inl hk))) hf); have HM2 := hide (hS2.is m2 (List.mem_of_getElem? hi2)); have HS2 := hide hS2; have HI2 := hide hi2; have HC2 := hide hc2; have HKp2 := hide hkp2; have HN2 := hide hn2; clear hS2 hi2 hk2 hc2 hkp2 hn2))
        all_goals
          go_wp2
          change bodyPost _ _ _ _ _ (w3.setCells m2.b 1 (layV.cells m3))
          go_ret
          have hS3 := HS2.out.keep HB3.out
          have hd : Foot (MutG G mb cs2) w3 (fun w => m3.at w) := HF3.out.more (fun k hk => .inl (by
            rcases hk with hk | hk
            · exact HS2.out.mlt hk
            · exact HS2.out.gl k hk))
          obtain ⟨cs4, r1, -, r2, r3, r4⟩ := hS3.setIt HI2.out m3 (by rw [HV3.out]; exact hf) hd
          have hs2 : w.heap.size ≤ W1.drew.heap.size := Nat.le_trans HB0.out.size HB1.out.size
          have hs3 : W1.drew.heap.size ≤ w2.heap.size := HKp2.out.size
          have hs4 := HB3.out.size
          refine ⟨rfl, cs4, r1.more (by omega), ?_, ?_, ?_⟩
          · rw [r2, HC2.out, HV3.out]
          · have k1 : Keeps (Mut mb cs) w w2 := kpThen (Below.keeps (HB0.out.trans (HB1.out.mono HB0.out.size)) _) (fun k hk => .inl hk) (kpThen (Below.keeps (Below.refl _ W1).drew _) (fun k hk => .inl hk) HKp2.out)
            exact kpThen (kpBelow k1 HB3.out) (fun k hk => by
              rcases HN2.out k hk with h1 | h1
              · exact .inl h1
              · exact .inr (Nat.le_trans hs2 h1)) r3
          · intro k hk
            rcases r4 k hk with h1 | h1
            · rcases HN2.out k h1 with h2 | h2
              · exact .inl h2
              · exact .inr (Nat.le_trans hs2 h2)
            · exact .inr (by omega)
      · rw [if_pos rfl]
        go_enter Try.func27, Try.ntmps27
        rw [hW0] at c0 z1 q1 q2 HTk HS0
        go_wp2
        go_quiet (first
          | (go_at_call 41; refine Calls.quiet_of_same (HMd.out _ (by exact c0)))
          | (go_at_call 51; refine Calls.quiet_of_same (HTk.out _ (by exact below_drewN (Below.refl _ _) _))))
        go_wp2
        go_ret
        exact ⟨rfl, HS0.out _ (below_drewN (Below.refl _ _) _)⟩

end Go.Proofs.Ytfldiapdfpkdaaa
