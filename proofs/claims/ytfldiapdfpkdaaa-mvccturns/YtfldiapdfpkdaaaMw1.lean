/- The reference's store: an intent is laid; a store of several cells at once. The reference's Intend. -/
import Derived.Test.YtfldiapdfpkdaaaMv7
import Derived.Test.YtfldiapdfpkdaaaMv4
import Derived.Deep.Upon
import Derived.Deep.RegionLaw
namespace Go.Proofs.Ytfldiapdfpkdaaa
open Go.RowKit NumMath Go.ChangeShapes Go.WideShapes Go.Deep
set_option linter.unusedVariables false
set_option maxRecDepth 100000

/-- an intent in the place of another -/
def setIt (v : Ver) (c : Cel) : Cel := ⟨c.key, c.vs, v⟩

theorem OwnY.setIt {w : World} {base g n cap : Nat} {ms : List MC} (h : OwnY layC w base (.slice (some ⟨g, 0, none⟩) n cap) ms) {i : Nat} {m : MC} (hi : ms[i]? = some m) (mi : MV) : OwnY layC (w.setCells g (i * 7 + 2) (layV.cells mi)) base (.slice (some ⟨g, 0, none⟩) n cap) (ms.set i { m with it := mi }) := by
  have hlt := (List.getElem?_eq_some_iff.1 hi).1
  have g0 : ∀ (x : MC), (ms.set i x)[i]? = some x := fun x => List.getElem?_set_self hlt
  have h1 := h.cell i 2 m { m with it := { m.it with v := { m.it.v with ts := mi.v.ts } } } (.int .u64 mi.v.ts) hi (by show 2 < 7; decide) rfl (i * 7 + 2) rfl
  have h2 := h1.cell i 3 _ { m with it := { m.it with v := { m.it.v with ts := mi.v.ts, tx := mi.v.tx } } } (.int .u64 mi.v.tx) (g0 _) (by show 3 < 7; decide) rfl (i * 7 + 3) rfl
  rw [List.set_set] at h2
  have h3 := h2.cell i 4 _ { m with it := { m.it with v := { m.it.v with ts := mi.v.ts, tx := mi.v.tx, dd := mi.v.dd } } } (.bool mi.v.dd) (g0 _) (by show 4 < 7; decide) rfl (i * 7 + 4) rfl
  rw [List.set_set] at h3
  have h4 := h3.cell i 5 _ { m with it := { m.it with v := { m.it.v with ts := mi.v.ts, tx := mi.v.tx, dd := mi.v.dd }, va := mi.va, vn := mi.vn, vc := mi.vc } } (.slice mi.va mi.vn mi.vc) (g0 _) (by show 5 < 7; decide) rfl (i * 7 + 5) rfl
  rw [List.set_set] at h4
  have h5 := h4.cell i 6 _ { m with it := mi } (.slice mi.ka mi.kn mi.kc) (g0 _) (by show 6 < 7; decide) rfl (i * 7 + 6) rfl
  rw [List.set_set] at h5
  exact h5

/-- the store behind one cell of its list was given another intent -/
theorem IsXs.setIt {F : Nat → Prop} {w0 w : World} {p g n cap : Nat} {ms : List MC} (h : IsXs F w0 w p (.slice (some ⟨g, 0, none⟩) n cap) ms) {i : Nat} {m : MC} (hi : ms[i]? = some m) (mi : MV) (hok : mi.ok w0) :
    IsXs F w0 (w.setCells g (i * 7 + 2) (layV.cells mi)) p (.slice (some ⟨g, 0, none⟩) n cap) (ms.set i { m with it := mi }) ∧ Keeps (Sp p (.slice (some ⟨g, 0, none⟩) n cap)) w (w.setCells g (i * 7 + 2) (layV.cells mi)) := by
  have hK := keepsYs w g (i * 7 + 2) (layV.cells mi)
  have hgp : ¬ p = g := fun e => h.ne (by rw [e]; rfl)
  have hX : ∀ k, k = g → SpF F p (.slice (some ⟨g, 0, none⟩) n cap) k := fun k e => .inl (.inr (by rw [e]; rfl))
  have hg0 := (h.own.lt g rfl).1
  refine ⟨⟨(World.cell?_of_block (a := ⟨p, 0, none⟩) (hK.block p h.lt hgp)).trans h.c, (World.frozen?_of_block (a := ⟨p, 0, none⟩) (hK.block p h.lt hgp)).trans h.fz, h.lo, Nat.lt_of_lt_of_le h.lt hK.size, h.own.setIt hi mi, h.ne, h.b.trans (hK.below h.b.size (fun k hk => by rw [hk]; exact hg0)), ?_, fun k hk => Nat.lt_of_lt_of_le (h.fl k hk) hK.size, h.pf, h.cf⟩, hK.wider (fun k e => .inr (by rw [e]; rfl))⟩
  intro m' hm'
  rcases List.mem_or_eq_of_mem_set hm' with h1 | h1
  · exact (h.ok m' h1).lies (hK.wider hX)
  · subst h1
    have h0 := h.ok m (List.mem_of_getElem? hi)
    exact MC.ok.lies (w := w) ⟨h0.key, h0.ko, h0.vs, h0.vo, h0.vok, hok⟩ (hK.wider hX)

/-- there is room for an intent -/
theorem IsXs.there {F : Nat → Prop} {w0 w : World} {p g n cap : Nat} {ms : List MC} (h : IsXs F w0 w p (.slice (some ⟨g, 0, none⟩) n cap) ms) {i : Nat} {m : MC} (hi : ms[i]? = some m) : w.there g (i * 7 + 2) 5 := by
  obtain ⟨g', cap', e, _, _, _, hr, hf⟩ := h.at hi
  cases e
  obtain ⟨-, -, x2, x3, x4, x5, x6⟩ := rangeC hr
  intro j hj
  refine ⟨?_, hf _⟩
  have : j = 0 ∨ j = 1 ∨ j = 2 ∨ j = 3 ∨ j = 4 := by omega
  rcases this with rfl | rfl | rfl | rfl | rfl
  · rw [show i * 7 + 2 + 0 = i * 7 + 2 by omega, x2]; rfl
  · rw [show i * 7 + 2 + 1 = i * 7 + 3 by omega, x3]; rfl
  · rw [show i * 7 + 2 + 2 = i * 7 + 4 by omega, x4]; rfl
  · rw [show i * 7 + 2 + 3 = i * 7 + 5 by omega, x5]; rfl
  · rw [show i * 7 + 2 + 4 = i * 7 + 6 by omega, x6]; rfl

/-- the post of a call that sets a key's intent behind cell -/
theorem CellPost.setIt {F : Nat → Prop} {w0 w w1 w2 w3 : World} {p g n cap : Nat} {cv : Value} {st1 : List Cel} {ms2 : List MC} (hb : Below w.heap.size w w1) (h : CellPost F w0 w1 p cv st1 w2 (.slice (some ⟨g, 0, none⟩) n cap) ms2) {i : Nat} {m2 : MC} (hi : ms2[i]? = some m2)
    (hb3 : Below w2.heap.size w2 w3) (mi : MV) (hok : mi.ok w0) :
    CellPost F w0 w p cv (st1.modify i (Go.Proofs.Ytfldiapdfpkdaaa.setIt mi.v)) (w3.setCells g (i * 7 + 2) (layV.cells mi)) (.slice (some ⟨g, 0, none⟩) n cap) (ms2.set i { m2 with it := mi }) := by
  have h3 := h.is.keep hb3
  obtain ⟨r1, r2⟩ := h3.setIt hi mi hok
  have ha : AtB w cv (.slice (some ⟨g, 0, none⟩) n cap) := by
    rcases h.at' with e | ⟨g', e, hle⟩
    · exact .inl e
    · exact .inr ⟨g', e, Nat.le_trans hb.size hle⟩
  have hk1 : Keeps (Sp p cv) w w2 := ⟨h.kp.os.trans hb.os, h.kp.tape.trans hb.tape, h.kp.output.trans hb.output, Nat.le_trans hb.size h.kp.size, fun k hk hn => (h.kp.block k (Nat.lt_of_lt_of_le hk hb.size) hn).trans (hb.block k hk)⟩
  refine ⟨r1, ?_, keeps_sp hk1 ha (keeps_sp (keepsOfB hb3) (.inl rfl) r2), ha⟩
  have hd : st1[i]? = some m2.c := by rw [← h.eq, List.getElem?_map, hi]; rfl
  rw [modify_at _ st1 i m2.c hd, ← h.eq, List.map_set]
  rfl

end Go.Proofs.Ytfldiapdfpkdaaa

namespace Go.Proofs.Ytfldiapdfpkdaaa
open Go.RowKit NumMath Go.ChangeShapes Go.WideShapes Go.Deep
set_option linter.unusedVariables false
set_option maxRecDepth 100000

/-- whether another one's intent is there -/
def busyC (st : List Cel) (key : List Int) (tx : Int) : Bool := isAt st key && (match st[plc st key]? with
  | some c => decide (c.it.tx ≠ 0 ∧ c.it.tx ≠ tx)
  | none => false)

/-- an intent is laid: what there is, the error -/
def intendC (st : List Cel) (key : List Int) (v : Ver) : List Cel × Int :=
  if v.tx = 0 then (st, 150) else if busyC st key v.tx = true then (st, 150) else ((insC st key).modify (plc st key) (setIt v), 0)

theorem CellPost.same {F : Nat → Prop} {w0 w w' : World} {p : Nat} {cv : Value} {ms : List MC} (h : IsXs F w0 w p cv ms) (hb : Below w.heap.size w w') : CellPost F w0 w p cv (ms.map MC.c) w' cv ms :=
  ⟨h.keep hb, rfl, keepsOfB hb, .inl rfl⟩

/-- .. from an earlier world on -/
theorem CellPost.from {F : Nat → Prop} {w0 w w1 w' : World} {p : Nat} {cv cv' : Value} {st : List Cel} {ms' : List MC} (hb : Below w.heap.size w w1) (h : CellPost F w0 w1 p cv st w' cv' ms') : CellPost F w0 w p cv st w' cv' ms' :=
  ⟨h.is, h.eq, ⟨h.kp.os.trans hb.os, h.kp.tape.trans hb.tape, h.kp.output.trans hb.output, Nat.le_trans hb.size h.kp.size, fun k hk hn => (h.kp.block k (Nat.lt_of_lt_of_le hk hb.size) hn).trans (hb.block k hk)⟩, by
    rcases h.at' with e | ⟨g', e, hle⟩
    · exact .inl e
    · exact .inr ⟨g', e, Nat.le_trans hb.size hle⟩⟩

/-- the end of Intend, behind place: an intent is laid -/
theorem busyC_of {st : List Cel} {key : List Int} {tx : Int} {c : Cel} (h1 : isAt st key = true) (h2 : st[plc st key]? = some c) : busyC st key tx = decide (c.it.tx ≠ 0 ∧ c.it.tx ≠ tx) := by
  unfold busyC; rw [h1, h2]; rfl

theorem isAt_some {st : List Cel} {key : List Int} (h : isAt st key = true) : ∃ c, st[plc st key]? = some c ∧ c.key = key := by
  unfold isAt at h
  cases e : st[plc st key]? with
  | none => rw [e] at h; cases h
  | some c => rw [e] at h; exact ⟨c, rfl, by simpa using h⟩

set_option maxHeartbeats 4000000 in
theorem intend_any (F : Nat → Prop) (w0 w : World) (p : Nat) (cv : Value) (ms : List MC) (h : IsXs F w0 w p cv ms) (hf : ms.length ≤ 100000) (a : Option Addr) (n c : Nat) (key : List Int) (hk : IsBytes w a n c key) (hn : n ≤ 100000) (m : MV) (hm : m.ok w0) :
    Calls Try.prog 28 #[.pointer (some ⟨p, 0, none⟩), .slice a n c, .agg #[.int .u64 m.v.ts, .int .u64 m.v.tx, .bool m.v.dd, .slice m.va m.vn m.vc, .slice m.ka m.kn m.kc]] w fun e w' => e = .returned (.int .i64 (intendC (ms.map MC.c) key m.v).2) ∧ ∃ cv' ms', CellPost F w0 w p cv (intendC (ms.map MC.c) key m.v).1 w' cv' ms' := by
  have hb0 := new_below w (.cells (cellsV m) 36)
  have HB0 := hide hb0
  have HH := hide h
  have HBx := hide (boxV_new w m)
  obtain ⟨b0, b1, b2, b3, b4⟩ := rangeV HBx.out.r
  by_cases htx : m.v.tx = 0
  · have HE : Hid (intendC (ms.map MC.c) key m.v = (ms.map MC.c, 150)) := by show _ = _; unfold intendC; rw [if_pos htx]
    have htx' : (m.v.tx == 0) = true := by simpa using htx
    clear h hk htx
    go_enter Try.func28, Try.ntmps28
    go_wp2
    go_ret
    exact ⟨by rw [HE.out]; rfl, _, _, by rw [HE.out]; exact CellPost.same HH.out HB0.out⟩
  · have htx' : (m.v.tx == 0) = false := by simpa using htx
    have HI1 := hide (h.keep hb0)
    have HPl := hide (place_any F w0 _ p cv ms (h.keep hb0) a n c key (hk.keep hb0))
    have HKf := hide (fun W (hW : Below w.heap.size w W) => hk.keep hW)
    have HM := hide hm
    have HEb : Hid (intendC (ms.map MC.c) key m.v = if busyC (ms.map MC.c) key m.v.tx = true then (ms.map MC.c, 150) else ((insC (ms.map MC.c) key).modify (plc (ms.map MC.c) key) (setIt m.v), 0)) := by show _ = _; unfold intendC; rw [if_neg htx]
    have HAt := hide (insC_at (ms.map MC.c) key)
    have hNp : ¬ Sp p cv w.heap.size := by
      rintro (e | e)
      · have := h.lt; omega
      · have := (h.own.lt _ e).2; omega
    have HNp := hide hNp
    have HC0 := hide (fun W (hW : Below w.heap.size w W) => (h.keep hW).c)
    have HRa := hide (fun W (hW : Below w.heap.size w W) (m' : MC) (hm' : ms[plc (ms.map MC.c) key]? = some m') => (h.keep hW).at hm')
    cases hz : isAt (ms.map MC.c) key
    · have HE : Hid (intendC (ms.map MC.c) key m.v = ((insC (ms.map MC.c) key).modify (plc (ms.map MC.c) key) (setIt m.v), 0)) := by show _ = _; rw [HEb.out, if_neg (by unfold busyC; rw [hz]; simp)]
      rw [hz] at HPl
      clear h hk htx hz hNp
      go_enter Try.func28, Try.ntmps28
      go_wp2_with (first
        | (go_at_call 42; go_must (refine HPl.out.mono ?_); rintro e w1 ⟨rfl, hb1⟩; have HB1 := hide (HB0.out.trans (hb1.mono HB0.out.size)); have HB01 := hide hb1; obtain ⟨e0, e1, e2, e3, e4⟩ := rangeV (HBx.out.keep hb1).r; clear hb1))
      go_quiet (fail)
      have HBq := hide (fun k => below_drewN HB1.out k)
      have HBr := hide (fun k => below_drewN HB01.out k)
      go_wp2_with (first
        | (go_at_call 50; go_must (refine (cell_any F w0 _ p _ ms (HH.out.keep (HBq.out _)) hf a n c key (HKf.out _ (HBq.out _)) hn).mono ?_); rintro e w2 ⟨cv2, ms2, rfl, hpost⟩; have HPo := hide hpost; have HB2 := hide ((HBx.out.keep (HBr.out _)).lies hpost.kp HNp.out); obtain ⟨d0, hd0⟩ := HAt.out; have hd1 := hd0; rw [← hpost.eq, List.getElem?_map] at hd1; obtain ⟨m2, hm2, hmd⟩ := Option.map_eq_some_iff.1 hd1; obtain ⟨g, cap, rfl, hg, hcap, hmx, hr, hfr⟩ := hpost.is.at hm2; have c2 := hpost.is.c; have hil : (plc (ms.map MC.c) key : Int) < (ms2.length : Int) := (by have := (List.getElem?_eq_some_iff.1 hm2).1; omega); have hcapI : (cap : Int) ≤ 9223372036854775807 := (by unfold maxLen at hmx; omega); obtain ⟨f0, f1, f2, f3, f4⟩ := rangeV HB2.out.r; have HTh := hide (hpost.is.there hm2); have HKW := hide (fun W (hW : Below w2.heap.size w2 W) => And.intro ((HPo.out.is.keep hW).c) (rangeV (HB2.out.keep hW).r)); clear hpost hr hd1))
      refine startX 8 (by kernel_rfl) ?_
      refine' takeX (E := 8) (i := 0) (v := _) rfl (by kernel_rfl) (by kernel_rfl) (by kernel_rfl) (by kernel_rfl) (fun _ _ _ h => h) (by rfl) (Below.refl _ _) ?_ ?_; rotate_left
      · (intro W hSw; obtain ⟨y0, z0, z1, z2, z3, z4⟩ := HKW.out W (bel_undX hSw); go_simp; all_goals (with_reducible rfl))
      (try simp only [Act.put, List.setIfInBounds_toArray, List.set_cons_zero, List.set_cons_succ])
      refine' takeX (E := 8) (i := 1) (v := _) rfl (by kernel_rfl) (by kernel_rfl) (by kernel_rfl) (by kernel_rfl) (fun _ _ _ h => h) (by rfl) (Below.refl _ _) ?_ ?_; rotate_left
      · (intro W hSw; obtain ⟨y0, z0, z1, z2, z3, z4⟩ := HKW.out W (bel_undX hSw); go_simp; all_goals (with_reducible rfl))
      (try simp only [Act.put, List.setIfInBounds_toArray, List.set_cons_zero, List.set_cons_succ])
      refine' takeX (E := 8) (i := 2) (v := _) rfl (by kernel_rfl) (by kernel_rfl) (by kernel_rfl) (by kernel_rfl) (fun _ _ _ h => h) (by rfl) (Below.refl _ _) ?_ ?_; rotate_left
      · (intro W hSw; obtain ⟨y0, z0, z1, z2, z3, z4⟩ := HKW.out W (bel_undX hSw); go_simp; all_goals (with_reducible rfl))
      (try simp only [Act.put, List.setIfInBounds_toArray, List.set_cons_zero, List.set_cons_succ])
      refine' takeX (E := 8) (i := 3) (v := _) rfl (by kernel_rfl) (by kernel_rfl) (by kernel_rfl) (by kernel_rfl) (fun _ _ _ h => h) (by rfl) (Below.refl _ _) ?_ ?_; rotate_left
      · (intro W hSw; obtain ⟨y0, z0, z1, z2, z3, z4⟩ := HKW.out W (bel_undX hSw); go_simp; all_goals (with_reducible rfl))
      (try simp only [Act.put, List.setIfInBounds_toArray, List.set_cons_zero, List.set_cons_succ])
      refine' takeX (E := 8) (i := 4) (v := _) rfl (by kernel_rfl) (by kernel_rfl) (by kernel_rfl) (by kernel_rfl) (fun _ _ _ h => h) (by rfl) (Below.refl _ _) ?_ ?_; rotate_left
      · (intro W hSw; obtain ⟨y0, z0, z1, z2, z3, z4⟩ := HKW.out W (bel_undX hSw); go_simp; all_goals (with_reducible rfl))
      (try simp only [Act.put, List.setIfInBounds_toArray, List.set_cons_zero, List.set_cons_succ])
      refine' takeX (E := 8) (i := 5) (v := _) rfl (by kernel_rfl) (by kernel_rfl) (by kernel_rfl) (by kernel_rfl) (fun _ _ _ h => h) (by rfl) (Below.refl _ _) ?_ ?_; rotate_left
      · (intro W hSw; obtain ⟨y0, z0, z1, z2, z3, z4⟩ := HKW.out W (bel_undX hSw); go_simp; all_goals (with_reducible rfl))
      (try simp only [Act.put, List.setIfInBounds_toArray, List.set_cons_zero, List.set_cons_succ])
      refine callX (i := 6) rfl (by kernel_rfl) (fun K hK => ?_)
      go_simp
      refine hK.out _ _ (fun _ => Below.refl _ _) ?_
      clear hK K
      (try simp only [Act.put, List.setIfInBounds_toArray, List.set_cons_zero, List.set_cons_succ])
      refine callX (i := 7) rfl (by kernel_rfl) (fun K hK => ?_)
      go_simp
      refine hK.out _ _ (fun _ => Below.refl _ _) ?_
      clear hK K
      (try simp only [Act.put, List.setIfInBounds_toArray, List.set_cons_zero, List.set_cons_succ])
      refine callX (i := 8) rfl (by kernel_rfl) (fun K hK => ?_)
      refine step_setY _ (by rfl) 36 (.tmp 56) (.tmp 54) (by rfl) g (plc (ms.map MC.c) key * 7 + 2) (cellsV m) (by rfl) (by rfl) (by exact HTh.out) layV.size (all_oneCell_toArray (layV.one m)) ?_
      refine hK.out _ _ (fun h => absurd rfl h) ?_
      clear hK K
      (try simp only [Act.put])
      refine doneX (by kernel_rfl) ?_ _
      go_wp2
      go_ret
      exact ⟨by rw [HE.out]; rfl, _, _, by rw [HE.out]; exact CellPost.setIt (HBq.out _) HPo.out hm2 (Below.refl _ _).drew m HM.out⟩
    · obtain ⟨d, hd, _⟩ := isAt_some hz
      have hbz := busyC_of (tx := m.v.tx) hz hd
      have hd' := hd
      rw [List.getElem?_map] at hd'
      obtain ⟨m', hm', hmc⟩ := Option.map_eq_some_iff.1 hd'
      have eit : d.it.tx = m'.it.v.tx := by rw [← hmc]; rfl
      rw [eit] at hbz
      have HG := hide (fun W (hW : Below w.heap.size w W) => HRa.out W hW m' hm')
      have hil' : (plc (ms.map MC.c) key : Int) < (ms.length : Int) := by have := (List.getElem?_eq_some_iff.1 hm').1; omega
      obtain ⟨g', cap', rfl, hg', hcap', hmx', hr', _⟩ := h.at hm'
      have hcapI' : (cap' : Int) ≤ 9223372036854775807 := by unfold maxLen at hmx'; omega
      have HX3 : Hid (∀ W, Below w.heap.size w W → W.cell? ⟨g', plc (ms.map MC.c) key * 7 + 2 + 1, none⟩ = some (.int .u64 m'.it.v.tx)) := fun W hW => ((hW.cell (p := ⟨g', plc (ms.map MC.c) key * 7 + 3, none⟩) hg').trans (hr' 3 _ rfl))
      rw [hz] at HPl
      clear h hk htx hz hNp hd hd' hmc eit HG hr'
      by_cases q1 : m'.it.v.tx = 0
      · have HE : Hid (intendC (ms.map MC.c) key m.v = ((insC (ms.map MC.c) key).modify (plc (ms.map MC.c) key) (setIt m.v), 0)) := by show _ = _; rw [HEb.out, hbz, if_neg (by simp [q1])]
        have q1' : (m'.it.v.tx != 0) = false := by simpa using q1
        clear q1 hbz
        go_enter Try.func28, Try.ntmps28
        go_wp2_with (first
          | (go_at_call 42; go_must (refine HPl.out.mono ?_); rintro e w1 ⟨rfl, hb1⟩; have HB1 := hide (HB0.out.trans (hb1.mono HB0.out.size)); have HB01 := hide hb1; obtain ⟨e0, e1, e2, e3, e4⟩ := rangeV (HBx.out.keep hb1).r; clear hb1))
        have cp1 := HC0.out _ HB1.out
        have x31 := HX3.out _ HB1.out
        go_quiet (fail)
        have HBq := hide (fun k => below_drewN HB1.out k)
        have HBr := hide (fun k => below_drewN HB01.out k)
        go_wp2_with (first
          | (go_at_call 50; go_must (refine (cell_any F w0 _ p _ ms (HH.out.keep (HBq.out _)) hf a n c key (HKf.out _ (HBq.out _)) hn).mono ?_); rintro e w2 ⟨cv2, ms2, rfl, hpost⟩; have HPo := hide hpost; have HB2 := hide ((HBx.out.keep (HBr.out _)).lies hpost.kp HNp.out); obtain ⟨d0, hd0⟩ := HAt.out; have hd1 := hd0; rw [← hpost.eq, List.getElem?_map] at hd1; obtain ⟨m2, hm2, hmd⟩ := Option.map_eq_some_iff.1 hd1; obtain ⟨g, cap, rfl, hg, hcap, hmx, hr, hfr⟩ := hpost.is.at hm2; have c2 := hpost.is.c; have hil : (plc (ms.map MC.c) key : Int) < (ms2.length : Int) := (by have := (List.getElem?_eq_some_iff.1 hm2).1; omega); have hcapI : (cap : Int) ≤ 9223372036854775807 := (by unfold maxLen at hmx; omega); obtain ⟨f0, f1, f2, f3, f4⟩ := rangeV HB2.out.r; have HTh := hide (hpost.is.there hm2); have HKW := hide (fun W (hW : Below w2.heap.size w2 W) => And.intro ((HPo.out.is.keep hW).c) (rangeV (HB2.out.keep hW).r)); clear hpost hr hd1))
        refine startX 8 (by kernel_rfl) ?_
        refine' takeX (E := 8) (i := 0) (v := _) rfl (by kernel_rfl) (by kernel_rfl) (by kernel_rfl) (by kernel_rfl) (fun _ _ _ h => h) (by rfl) (Below.refl _ _) ?_ ?_; rotate_left
        · (intro W hSw; obtain ⟨y0, z0, z1, z2, z3, z4⟩ := HKW.out W (bel_undX hSw); go_simp; all_goals (with_reducible rfl))
        (try simp only [Act.put, List.setIfInBounds_toArray, List.set_cons_zero, List.set_cons_succ])
        refine' takeX (E := 8) (i := 1) (v := _) rfl (by kernel_rfl) (by kernel_rfl) (by kernel_rfl) (by kernel_rfl) (fun _ _ _ h => h) (by rfl) (Below.refl _ _) ?_ ?_; rotate_left
        · (intro W hSw; obtain ⟨y0, z0, z1, z2, z3, z4⟩ := HKW.out W (bel_undX hSw); go_simp; all_goals (with_reducible rfl))
        (try simp only [Act.put, List.setIfInBounds_toArray, List.set_cons_zero, List.set_cons_succ])
        refine' takeX (E := 8) (i := 2) (v := _) rfl (by kernel_rfl) (by kernel_rfl) (by kernel_rfl) (by kernel_rfl) (fun _ _ _ h => h) (by rfl) (Below.refl _ _) ?_ ?_; rotate_left
        · (intro W hSw; obtain ⟨y0, z0, z1, z2, z3, z4⟩ := HKW.out W (bel_undX hSw); go_simp; all_goals (with_reducible rfl))
        (try simp only [Act.put, List.setIfInBounds_toArray, List.set_cons_zero, List.set_cons_succ])
        refine' takeX (E := 8) (i := 3) (v := _) rfl (by kernel_rfl) (by kernel_rfl) (by kernel_rfl) (by kernel_rfl) (fun _ _ _ h => h) (by rfl) (Below.refl _ _) ?_ ?_; rotate_left
        · (intro W hSw; obtain ⟨y0, z0, z1, z2, z3, z4⟩ := HKW.out W (bel_undX hSw); go_simp; all_goals (with_reducible rfl))
        (try simp only [Act.put, List.setIfInBounds_toArray, List.set_cons_zero, List.set_cons_succ])
        refine' takeX (E := 8) (i := 4) (v := _) rfl (by kernel_rfl) (by kernel_rfl) (by kernel_rfl) (by kernel_rfl) (fun _ _ _ h => h) (by rfl) (Below.refl _ _) ?_ ?_; rotate_left
        · (intro W hSw; obtain ⟨y0, z0, z1, z2, z3, z4⟩ := HKW.out W (bel_undX hSw); go_simp; all_goals (with_reducible rfl))
        (try simp only [Act.put, List.setIfInBounds_toArray, List.set_cons_zero, List.set_cons_succ])
        refine' takeX (E := 8) (i := 5) (v := _) rfl (by kernel_rfl) (by kernel_rfl) (by kernel_rfl) (by kernel_rfl) (fun _ _ _ h => h) (by rfl) (Below.refl _ _) ?_ ?_; rotate_left
        · (intro W hSw; obtain ⟨y0, z0, z1, z2, z3, z4⟩ := HKW.out W (bel_undX hSw); go_simp; all_goals (with_reducible rfl))
        (try simp only [Act.put, List.setIfInBounds_toArray, List.set_cons_zero, List.set_cons_succ])
        refine callX (i := 6) rfl (by kernel_rfl) (fun K hK => ?_)
        go_simp
        refine hK.out _ _ (fun _ => Below.refl _ _) ?_
        clear hK K
        (try simp only [Act.put, List.setIfInBounds_toArray, List.set_cons_zero, List.set_cons_succ])
        refine callX (i := 7) rfl (by kernel_rfl) (fun K hK => ?_)
        go_simp
        refine hK.out _ _ (fun _ => Below.refl _ _) ?_
        clear hK K
        (try simp only [Act.put, List.setIfInBounds_toArray, List.set_cons_zero, List.set_cons_succ])
        refine callX (i := 8) rfl (by kernel_rfl) (fun K hK => ?_)
        refine step_setY _ (by rfl) 36 (.tmp 56) (.tmp 54) (by rfl) g (plc (ms.map MC.c) key * 7 + 2) (cellsV m) (by rfl) (by rfl) (by exact HTh.out) layV.size (all_oneCell_toArray (layV.one m)) ?_
        refine hK.out _ _ (fun h => absurd rfl h) ?_
        clear hK K
        (try simp only [Act.put])
        refine doneX (by kernel_rfl) ?_ _
        go_wp2
        go_ret
        exact ⟨by rw [HE.out]; rfl, _, _, by rw [HE.out]; exact CellPost.setIt (HBq.out _) HPo.out hm2 (Below.refl _ _).drew m HM.out⟩
      · have q1' : (m'.it.v.tx != 0) = true := by simpa using q1
        by_cases q2 : m'.it.v.tx = m.v.tx
        · have HE : Hid (intendC (ms.map MC.c) key m.v = ((insC (ms.map MC.c) key).modify (plc (ms.map MC.c) key) (setIt m.v), 0)) := by show _ = _; rw [HEb.out, hbz, if_neg (by simp [q2])]
          have q2' : (m'.it.v.tx != m.v.tx) = false := by simpa using q2
          clear q1 q2 hbz
          go_enter Try.func28, Try.ntmps28
          go_wp2_with (first
            | (go_at_call 42; go_must (refine HPl.out.mono ?_); rintro e w1 ⟨rfl, hb1⟩; have HB1 := hide (HB0.out.trans (hb1.mono HB0.out.size)); have HB01 := hide hb1; obtain ⟨e0, e1, e2, e3, e4⟩ := rangeV (HBx.out.keep hb1).r; clear hb1))
          have cp1 := HC0.out _ HB1.out
          have x31 := HX3.out _ HB1.out
          go_quiet (fail)
          have HBq := hide (fun k => below_drewN HB1.out k)
          have HBr := hide (fun k => below_drewN HB01.out k)
          go_wp2_with (first
            | (go_at_call 50; go_must (refine (cell_any F w0 _ p _ ms (HH.out.keep (HBq.out _)) hf a n c key (HKf.out _ (HBq.out _)) hn).mono ?_); rintro e w2 ⟨cv2, ms2, rfl, hpost⟩; have HPo := hide hpost; have HB2 := hide ((HBx.out.keep (HBr.out _)).lies hpost.kp HNp.out); obtain ⟨d0, hd0⟩ := HAt.out; have hd1 := hd0; rw [← hpost.eq, List.getElem?_map] at hd1; obtain ⟨m2, hm2, hmd⟩ := Option.map_eq_some_iff.1 hd1; obtain ⟨g, cap, rfl, hg, hcap, hmx, hr, hfr⟩ := hpost.is.at hm2; have c2 := hpost.is.c; have hil : (plc (ms.map MC.c) key : Int) < (ms2.length : Int) := (by have := (List.getElem?_eq_some_iff.1 hm2).1; omega); have hcapI : (cap : Int) ≤ 9223372036854775807 := (by unfold maxLen at hmx; omega); obtain ⟨f0, f1, f2, f3, f4⟩ := rangeV HB2.out.r; have HTh := hide (hpost.is.there hm2); have HKW := hide (fun W (hW : Below w2.heap.size w2 W) => And.intro ((HPo.out.is.keep hW).c) (rangeV (HB2.out.keep hW).r)); clear hpost hr hd1))
          refine startX 8 (by kernel_rfl) ?_
          refine' takeX (E := 8) (i := 0) (v := _) rfl (by kernel_rfl) (by kernel_rfl) (by kernel_rfl) (by kernel_rfl) (fun _ _ _ h => h) (by rfl) (Below.refl _ _) ?_ ?_; rotate_left
          · (intro W hSw; obtain ⟨y0, z0, z1, z2, z3, z4⟩ := HKW.out W (bel_undX hSw); go_simp; all_goals (with_reducible rfl))
          (try simp only [Act.put, List.setIfInBounds_toArray, List.set_cons_zero, List.set_cons_succ])
          refine' takeX (E := 8) (i := 1) (v := _) rfl (by kernel_rfl) (by kernel_rfl) (by kernel_rfl) (by kernel_rfl) (fun _ _ _ h => h) (by rfl) (Below.refl _ _) ?_ ?_; rotate_left
          · (intro W hSw; obtain ⟨y0, z0, z1, z2, z3, z4⟩ := HKW.out W (bel_undX hSw); go_simp; all_goals (with_reducible rfl))
          (try simp only [Act.put, List.setIfInBounds_toArray, List.set_cons_zero, List.set_cons_succ])
          refine' takeX (E := 8) (i := 2) (v := _) rfl (by kernel_rfl) (by kernel_rfl) (by kernel_rfl) (by kernel_rfl) (fun _ _ _ h => h) (by rfl) (Below.refl _ _) ?_ ?_; rotate_left
          · (intro W hSw; obtain ⟨y0, z0, z1, z2, z3, z4⟩ := HKW.out W (bel_undX hSw); go_simp; all_goals (with_reducible rfl))
          (try simp only [Act.put, List.setIfInBounds_toArray, List.set_cons_zero, List.set_cons_succ])
          refine' takeX (E := 8) (i := 3) (v := _) rfl (by kernel_rfl) (by kernel_rfl) (by kernel_rfl) (by kernel_rfl) (fun _ _ _ h => h) (by rfl) (Below.refl _ _) ?_ ?_; rotate_left
          · (intro W hSw; obtain ⟨y0, z0, z1, z2, z3, z4⟩ := HKW.out W (bel_undX hSw); go_simp; all_goals (with_reducible rfl))
          (try simp only [Act.put, List.setIfInBounds_toArray, List.set_cons_zero, List.set_cons_succ])
          refine' takeX (E := 8) (i := 4) (v := _) rfl (by kernel_rfl) (by kernel_rfl) (by kernel_rfl) (by kernel_rfl) (fun _ _ _ h => h) (by rfl) (Below.refl _ _) ?_ ?_; rotate_left
          · (intro W hSw; obtain ⟨y0, z0, z1, z2, z3, z4⟩ := HKW.out W (bel_undX hSw); go_simp; all_goals (with_reducible rfl))
          (try simp only [Act.put, List.setIfInBounds_toArray, List.set_cons_zero, List.set_cons_succ])
          refine' takeX (E := 8) (i := 5) (v := _) rfl (by kernel_rfl) (by kernel_rfl) (by kernel_rfl) (by kernel_rfl) (fun _ _ _ h => h) (by rfl) (Below.refl _ _) ?_ ?_; rotate_left
          · (intro W hSw; obtain ⟨y0, z0, z1, z2, z3, z4⟩ := HKW.out W (bel_undX hSw); go_simp; all_goals (with_reducible rfl))
          (try simp only [Act.put, List.setIfInBounds_toArray, List.set_cons_zero, List.set_cons_succ])
          refine callX (i := 6) rfl (by kernel_rfl) (fun K hK => ?_)
          go_simp
          refine hK.out _ _ (fun _ => Below.refl _ _) ?_
          clear hK K
          (try simp only [Act.put, List.setIfInBounds_toArray, List.set_cons_zero, List.set_cons_succ])
          refine callX (i := 7) rfl (by kernel_rfl) (fun K hK => ?_)
          go_simp
          refine hK.out _ _ (fun _ => Below.refl _ _) ?_
          clear hK K
          (try simp only [Act.put, List.setIfInBounds_toArray, List.set_cons_zero, List.set_cons_succ])
          refine callX (i := 8) rfl (by kernel_rfl) (fun K hK => ?_)
          refine step_setY _ (by rfl) 36 (.tmp 56) (.tmp 54) (by rfl) g (plc (ms.map MC.c) key * 7 + 2) (cellsV m) (by rfl) (by rfl) (by exact HTh.out) layV.size (all_oneCell_toArray (layV.one m)) ?_
          refine hK.out _ _ (fun h => absurd rfl h) ?_
          clear hK K
          (try simp only [Act.put])
          refine doneX (by kernel_rfl) ?_ _
          go_wp2
          go_ret
          exact ⟨by rw [HE.out]; rfl, _, _, by rw [HE.out]; exact CellPost.setIt (HBq.out _) HPo.out hm2 (Below.refl _ _).drew m HM.out⟩
        · have HE : Hid (intendC (ms.map MC.c) key m.v = (ms.map MC.c, 150)) := by show _ = _; rw [HEb.out, hbz, if_pos (by simp [q1, q2])]
          have q2' : (m'.it.v.tx != m.v.tx) = true := by simpa using q2
          clear q1 q2 hbz
          go_enter Try.func28, Try.ntmps28
          go_wp2_with (first
            | (go_at_call 42; go_must (refine HPl.out.mono ?_); rintro e w1 ⟨rfl, hb1⟩; have HB1 := hide (HB0.out.trans (hb1.mono HB0.out.size)); have HB01 := hide hb1; obtain ⟨e0, e1, e2, e3, e4⟩ := rangeV (HBx.out.keep hb1).r; clear hb1))
          have cp1 := HC0.out _ HB1.out
          have x31 := HX3.out _ HB1.out
          go_quiet (fail)
          go_wp2
          go_ret
          exact ⟨by rw [HE.out]; rfl, _, _, by rw [HE.out]; exact CellPost.same HH.out (below_drewN HB1.out _)⟩

end Go.Proofs.Ytfldiapdfpkdaaa
