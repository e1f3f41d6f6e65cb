/- The reference's Meta.table. Printed by part/gen_mxi.py. -/
import Derived.Test.YtcgiicmmfleinaaGreatDoorMxR
namespace Go.Proofs.YtcgiicmmfleinaaGreatDoor
open Go.RowKit NumMath Go.ChangeShapes Go.WideShapes Go.Deep
set_option linter.unusedVariables false
set_option linter.unusedSimpArgs false
set_option maxRecDepth 100000

theorem tab_no {S : Mac} {t : Tbl} (h : takesB S.tbs t = false) : tableM S t = (errR 151, S) := by
  unfold tableM
  rw [h]
  rfl

theorem tk_name {l : List Tbl} {t : Tbl} (h : noN t.nm = true) : takesB l t = false := by simp [takesB, mayB, h]
theorem tk_cols {l : List Tbl} {t : Tbl} (h : colsB t.cs = false) : takesB l t = false := by simp [takesB, mayB, h]
theorem tk_place {l : List Tbl} {t : Tbl} (h : placeB t.ky t.cs = false) : takesB l t = false := by simp [takesB, mayB, h]
theorem tk_ixs {l : List Tbl} {t : Tbl} (h : ixsB t.ix t.cs = false) : takesB l t = false := by simp [takesB, mayB, h]
theorem tk_named {l : List Tbl} {t : Tbl} (h : namedB l t.nm = true) : takesB l t = false := by simp [takesB, h]
theorem tk_many {l : List Tbl} {t : Tbl} (h : ¬ l.length < 40) : takesB l t = false := by simp [takesB, h]

/-- the catalog as one more table leaves it -/
theorem IsXm.tabled {F : Nat → Prop} {w0 w w' : World} {a : Xm} {z y : Nat} {S : Mac} (h : IsXm F w0 w a z S) {l : List MTb} {v : Value} (hq : TxQ layTb w a.p 5 l w' v) (hl : Foot (fun k => a.X k ∨ F k) w (fun V => ∀ m ∈ l, m.ok V)) {tbs' : List Tbl} (ht : l.map MTb.t = tbs') (hz : z ≤ y) (hi : MacI y { S with tbs := tbs' }) :
    ∃ a' : Xm, a'.p = a.p ∧ (∀ k, a'.X k ↔ a.X k) ∧ IsXm F w0 w' a' y { S with tbs := tbs' } := by
  obtain ⟨va, vn, vc, rfl⟩ := hq.o.any3
  have hk2 : Keeps (fun k => a.X k ∨ F k) w w' := Keeps.wider hq.kp (fun k hk => .inl (.inl hk))
  have hlt : ∀ k, (a.X k ∨ F k) → k < w.heap.size := fun k hk => by
    rcases hk with hk | hk
    · exact (h.xl k hk).2
    · exact (h.fx k hk).2
  have hb : ∀ {x : Option Addr}, (∀ b, x = some b → a.sv.ownBlock ≠ some b.block ∧ ¬ F b.block ∧ b.block < w.heap.size) → ∀ b, x = some b → a.sv.ownBlock ≠ some b.block ∧ ¬ F b.block ∧ b.block < w'.heap.size := fun hx b hb => ⟨(hx b hb).1, (hx b hb).2.1, Nat.lt_of_lt_of_le (hx b hb).2.2 hq.kp.size⟩
  refine ⟨{ a with ta := va, tn := vn, tc := vc, ms := l }, rfl, fun k => Iff.rfl, ⟨(hq.oc 0 (by omega)).trans h.c0, (hq.oc 1 (by omega)).trans h.c1, (hq.oc 2 (by omega)).trans h.c2, hq.c, h.so.lies (fun g hg => hq.kp.block g (h.so.lt g hg).2 (fun e => h.sp (by rw [hg, e]))), h.sp, ?_, h.eh, h.ew, hb h.hx, hb h.wx, ?_, ht, ?_, h.lo.step hk2 (fun k hk => .inl hk), h.lx, Nat.le_trans h.ll hz, fun k hk => ⟨(h.fx k hk).1, Nat.lt_of_lt_of_le (h.fx k hk).2 hq.kp.size⟩, h.fd, hi⟩⟩
  · exact ⟨(hq.oc 3 (by omega)).trans h.lk.c0, (hq.oc 4 (by omega)).trans h.lk.c1, Nat.lt_of_lt_of_le h.lt hq.kp.size, fun j => (hq.fz j).trans (h.lk.fz j), h.lk.h.lies hq.kp h.lk.oh, h.lk.wt.lies hq.kp h.lk.ow, h.lk.b0.trans (hq.kp.below h.lk.b0.size (fun k (e : k = a.p) => by have := h.lk.q0; omega)), h.lk.q0, h.lk.ho, h.lk.wo, h.lk.oh, h.lk.ow, h.lk.fh, h.lk.fw, fun _ _ _ => rfl⟩
  · exact (foot_ownY hq.o hlt).and (hl.step hk2 (fun k hk => .inl hk))
  · rcases hq.o.form with ⟨e, -⟩ | ⟨g, cap, e, -⟩
    · cases e; exact .inl rfl
    · cases e; exact .inr ⟨g, 0, rfl⟩

theorem kept_set {n : Nat} {t : MTb} {kk : Nat} {m : Colm} (hk : t.ky = (kk : Int)) (hm : t.cs.xs[kk]? = some m) (g : Option Addr) (x c : Nat) :
    (⟨(n : Int) + 1, t.nm, ⟨g, x, c, t.cs.xs.set kk { m with nn := true }⟩, t.ky, t.ix⟩ : MTb).t = keptT n t.t := by
  have e : t.cs.xs.set kk { m with nn := true } = t.cs.xs.modify kk (fun c => { c with nn := true }) := by
    apply List.ext_getElem?
    intro i
    rw [List.getElem?_set, List.getElem?_modify]
    by_cases hi : kk = i
    · subst hi
      obtain ⟨h3, e3⟩ := List.getElem?_eq_some_iff.1 hm
      simp [h3, e3]
    · simp [hi]
  unfold keptT MTb.t
  dsimp only
  rw [hk, e]
  rfl

theorem any_more2 {α : Type} {f : α → Bool} {l : List α} {j : Nat} {x : α} (h : l[j]? = some x) : (l.take (j + 1)).any f = ((l.take j).any f || f x) := by
  rw [List.take_add_one, h, List.any_append]
  simp

theorem any_bad {α : Type} {f : α → Bool} {l : List α} {j : Nat} {x : α} (h : l[j]? = some x) (hf : f x = true) : l.any f = true :=
  List.any_eq_true.2 ⟨x, List.mem_of_getElem? h, hf⟩

set_option maxHeartbeats 16000000 in
theorem xtable_any {F : Nat → Prop} {w0 w : World} {a : Xm} {z : Nat} {S : Mac} (h : IsXm F w0 w a z S) (t : MTb) (ht : t.ok w0) (hz : z ≤ 159) (hm : MacI (z + 1) (tableM S t.t).2) :
    Calls Tryz.prog 85 #[.pointer (some ⟨a.p, 0, none⟩), .agg #[.int .i64 t.id, .string (strB t.nm), .slice t.cs.a t.cs.n t.cs.c, .int .i64 t.ky, .slice t.ix.a t.ix.n t.ix.c]] w (XsPost F w0 w a (z + 1) (tableM S t.t)) := by
  obtain ⟨W1, hW1⟩ : ∃ W1, W1 = (((w.alloc (.cells #[.int .i64 t.id, .string (strB t.nm), .slice t.cs.a t.cs.n t.cs.c, .int .i64 t.ky, .slice t.ix.a t.ix.n t.ix.c] 48)).alloc (.cells #[.int .i64 0, .int .u64 0, .int .u64 0, .bool false, .slice none 0 0, .slice none 0 0, .slice none 0 0] 55)).alloc (.cells #[.int .i64 151, .int .u64 0, .int .u64 0, .bool false, .slice none 0 0, .slice none 0 0, .slice none 0 0] 55)) := ⟨_, rfl⟩
  have hb1 : Below w.heap.size w W1 := by
    rw [hW1]
    exact ((new_below w _).trans ((new_below _ _).mono (new_below w _).size)).trans ((new_below _ _).mono ((new_below w _).trans ((new_below _ _).mono (new_below w _).size)).size)
  have hl1 : W1.heap.size = w.heap.size + 3 := by rw [hW1]; simp
  have HX : Hid (∀ V, Below W1.heap.size W1 V → V.rangeAt w.heap.size 0 (layTb.cells t) ∧ V.rangeAt (w.heap.size + 1) 0 [.int .i64 0, .int .u64 0, .int .u64 0, .bool false, .slice none 0 0, .slice none 0 0, .slice none 0 0] ∧ (∀ j, V.frozen? ⟨w.heap.size + 1, j, none⟩ = false) ∧ V.rangeAt (w.heap.size + 2) 0 [.int .i64 151, .int .u64 0, .int .u64 0, .bool false, .slice none 0 0, .slice none 0 0, .slice none 0 0]) := by
    intro V hb
    subst hW1
    have q := two_boxes (w.alloc (.cells #[.int .i64 t.id, .string (strB t.nm), .slice t.cs.a t.cs.n t.cs.c, .int .i64 t.ky, .slice t.ix.a t.ix.n t.ix.c] 48)) #[.int .i64 0, .int .u64 0, .int .u64 0, .bool false, .slice none 0 0, .slice none 0 0, .slice none 0 0] #[.int .i64 151, .int .u64 0, .int .u64 0, .bool false, .slice none 0 0, .slice none 0 0, .slice none 0 0] 55 55 V hb
    have e1 : (w.alloc (.cells #[.int .i64 t.id, .string (strB t.nm), .slice t.cs.a t.cs.n t.cs.c, .int .i64 t.ky, .slice t.ix.a t.ix.n t.ix.c] 48)).heap.size = w.heap.size + 1 := by simp
    rw [e1] at q
    refine ⟨?_, q.1, fun j => ?_, q.2⟩
    · exact rangeY_same (rangeY_same (rangeY_new w w.heap.size #[.int .i64 t.id, .string (strB t.nm), .slice t.cs.a t.cs.n t.cs.c, .int .i64 t.ky, .slice t.ix.a t.ix.n t.ix.c] 48 rfl) (((new_below _ _).trans ((new_below _ _).mono (new_below _ _).size)).block _ (by simp))) (hb.block _ (by simp; omega))
    · rw [hb.frozen (p := ⟨w.heap.size + 1, j, none⟩) (by show w.heap.size + 1 < _; simp), (new_below _ _).frozen (p := ⟨w.heap.size + 1, j, none⟩) (by show w.heap.size + 1 < _; simp)]
      have h := fzY_new (w.alloc (.cells #[.int .i64 t.id, .string (strB t.nm), .slice t.cs.a t.cs.n t.cs.c, .int .i64 t.ky, .slice t.ix.a t.ix.n t.ix.c] 48)) #[.int .i64 0, .int .u64 0, .int .u64 0, .bool false, .slice none 0 0, .slice none 0 0, .slice none 0 0] 55 j
      rwa [World.size_alloc] at h
  have HFt : Hid (∀ V, Below W1.heap.size W1 V → ∀ j, V.frozen? ⟨w.heap.size, j, none⟩ = false) := by
    intro V hb j
    subst hW1
    rw [hb.frozen (p := ⟨w.heap.size, j, none⟩) (by show w.heap.size < _; simp; omega), (new_below _ _).frozen (p := ⟨w.heap.size, j, none⟩) (by show w.heap.size < _; simp; omega), (new_below _ _).frozen (p := ⟨w.heap.size, j, none⟩) (by show w.heap.size < _; simp)]
    exact fzY_new w _ _ j
  have HI := hide h
  have HTo := hide ht
  have HMi := hide hm
  have HB1 := hide hb1
  have HL1 := hide hl1
  have HTL := hide h.tb.now
  have HTM := hide h.tm
  have htl : a.tn = S.tbs.length := by rw [← h.tm, List.length_map, h.tb.now.1.1]
  have HTn := hide htl
  have hcs := (ht.cs.keep h.lk.b0).keep hb1
  have hix := (ht.ix.keep h.lk.b0).keep hb1
  have HCs := hide hcs
  have HIx := hide hix
  have hcm : (t.cs.n : Int) ≤ 9223372036854775807 := by have := hcs.2.1; have := hcs.2.2.1; unfold maxLen at this; omega
  have him : (t.ix.n : Int) ≤ 9223372036854775807 := by have := hix.2.1; have := hix.2.2.1; unfold maxLen at this; omega
  have htm : (a.tn : Int) ≤ 9223372036854775807 := by have h1 := h.i.nt40; omega
  have y5 : W1.cell? ⟨a.p, 5, none⟩ = some (.slice a.ta a.tn a.tc) := (hb1.cell (p := ⟨a.p, 5, none⟩) h.lt).trans h.c5
  have hpl := h.lt
  clear h ht hm hb1 hl1 htl hcs hix
  go_enter Tryz.func85, Tryz.ntmps85
  go_upto_region 2 with fail
  rw [← hW1]
  clear hW1
  go_cut [58] (fun s58 wx => ∃ zz, s58 = .bool zz ∧ wx = W1 ∧ (zz = true → takesB S.tbs t.t = false) ∧ (zz = false → noN t.nm = false ∧ 1 ≤ t.cs.n ∧ t.cs.n ≤ 12 ∧ placeB t.ky t.cs.xs = true ∧ t.ix.n ≤ 4 ∧ a.tn < 40))
  case first =>
    have t1 : W1.cell? ⟨w.heap.size, 1, none⟩ = some (.string (strB t.nm)) := (HX.out W1 (Below.refl _ _)).1 1 _ rfl
    have t2 : W1.cell? ⟨w.heap.size, 2, none⟩ = some (.slice t.cs.a t.cs.n t.cs.c) := (HX.out W1 (Below.refl _ _)).1 2 _ rfl
    have t3 : W1.cell? ⟨w.heap.size, 3, none⟩ = some (.int .i64 t.ky) := (HX.out W1 (Below.refl _ _)).1 3 _ rfl
    have t4 : W1.cell? ⟨w.heap.size, 4, none⟩ = some (.slice t.ix.a t.ix.n t.ix.c) := (HX.out W1 (Below.refl _ _)).1 4 _ rfl
    obtain ⟨ze, hze⟩ : ∃ z, noN t.nm = z := ⟨_, rfl⟩
    have hze' : (strB t.nm).toList.isEmpty = ze := hze
    have hze2 := hide hze
    clear hze
    cases ze
    · have hzn : ¬ (strB t.nm).toList = [] := fun e => by rw [e] at hze'; cases hze'
      by_cases k0 : (t.cs.n : Int) < 1
      · have d0 : decide ((t.cs.n : Int) < 1) = true := decide_eq_true k0
        have K := hide k0
        go_wp2_with fail
        go_meet
        exact ⟨true, rfl, rfl, (fun _ => tk_cols (by rw [colsB_eq, show t.t.cs = [] from List.length_eq_zero_iff.1 (by have h1 := HCs.out.1; have h2 := K.out; show t.cs.xs.length = 0; omega)]; rfl)), (fun e => by cases e)⟩
      · have d0 : decide ((t.cs.n : Int) < 1) = false := decide_eq_false k0
        have K0 := hide k0
        clear k0
        by_cases k1 : (12 : Int) < (t.cs.n : Int)
        · have d1 : decide ((12 : Int) < (t.cs.n : Int)) = true := decide_eq_true k1
          have K := hide k1
          go_wp2_with fail
          go_meet
          exact ⟨true, rfl, rfl, (fun _ => tk_cols (by rw [colsB_eq, show decide (t.t.cs.length ≤ 12) = false from decide_eq_false (by have h1 := HCs.out.1; have h2 := K.out; show ¬ t.cs.xs.length ≤ 12; omega)]; simp)), (fun e => by cases e)⟩
        · have d1 : decide ((12 : Int) < (t.cs.n : Int)) = false := decide_eq_false k1
          have K1 := hide k1
          clear k1
          by_cases k2 : t.ky < 0
          · have d2 : decide (t.ky < 0) = true := decide_eq_true k2
            have K := hide k2
            go_wp2_with fail
            go_meet
            exact ⟨true, rfl, rfl, (fun _ => tk_place (by have h2 := K.out; show (decide (0 ≤ t.ky) && _) = false; rw [decide_eq_false (by omega)]; rfl)), (fun e => by cases e)⟩
          · have d2 : decide (t.ky < 0) = false := decide_eq_false k2
            have K2 := hide k2
            clear k2
            by_cases k3 : (t.cs.n : Int) ≤ t.ky
            · have d3 : decide ((t.cs.n : Int) ≤ t.ky) = true := decide_eq_true k3
              have K := hide k3
              go_wp2_with fail
              go_meet
              exact ⟨true, rfl, rfl, (fun _ => tk_place (by have h1 := HCs.out.1; have h2 := K.out; show (decide (0 ≤ t.ky) && decide (t.ky < (t.cs.xs.length : Int))) = false; rw [show decide (t.ky < (t.cs.xs.length : Int)) = false from decide_eq_false (by omega)]; simp)), (fun e => by cases e)⟩
            · have d3 : decide ((t.cs.n : Int) ≤ t.ky) = false := decide_eq_false k3
              have K3 := hide k3
              clear k3
              by_cases k4 : (4 : Int) < (t.ix.n : Int)
              · have d4 : decide ((4 : Int) < (t.ix.n : Int)) = true := decide_eq_true k4
                have K := hide k4
                go_wp2_with fail
                go_meet
                exact ⟨true, rfl, rfl, (fun _ => tk_ixs (by rw [ixsB_eq, show decide (t.t.ix.length ≤ 4) = false from decide_eq_false (by have h1 := HIx.out.1; have h2 := K.out; show ¬ t.ix.xs.length ≤ 4; omega)]; rfl)), (fun e => by cases e)⟩
              · have d4 : decide ((4 : Int) < (t.ix.n : Int)) = false := decide_eq_false k4
                have K4 := hide k4
                clear k4
                by_cases k5 : (40 : Int) ≤ (a.tn : Int)
                · have d5 : decide ((40 : Int) ≤ (a.tn : Int)) = true := decide_eq_true k5
                  have K := hide k5
                  go_wp2_with fail
                  go_meet
                  exact ⟨true, rfl, rfl, (fun _ => tk_many (by have h1 := HTn.out; have h2 := K.out; omega)), (fun e => by cases e)⟩
                · have d5 : decide ((40 : Int) ≤ (a.tn : Int)) = false := decide_eq_false k5
                  have K5 := hide k5
                  clear k5
                  go_wp2_with fail
                  go_meet
                  exact ⟨false, rfl, rfl, (fun e => by cases e), (fun _ => ⟨hze2.out, by have := K0.out; omega, by have := K1.out; omega, by have h1 := HCs.out.1; have h2 := K2.out; have h3 := K3.out; show (decide (0 ≤ t.ky) && decide (t.ky < (t.cs.xs.length : Int))) = true; rw [decide_eq_true (by omega), decide_eq_true (by omega)]; rfl, by have := K4.out; omega, by have := K5.out; omega⟩)⟩
    · have hzn : (strB t.nm).toList = [] := List.isEmpty_iff.1 hze'
      go_wp2_with fail
      go_meet
      exact ⟨true, rfl, rfl, (fun _ => tk_name hze2.out), (fun e => by cases e)⟩
  case rest =>
    obtain ⟨zz, rfl, rfl, hT, hN⟩ := hcut
    cases zz
    rotate_left
    · have hT2 := hide (hT rfl)
      clear hT hN
      have HE : Hid (tableM S t.t = (errR 151, S)) := tab_no (hT2.out)
      obtain ⟨-, z, zf, -⟩ := HX.out wc (Below.refl _ _)
      have z0 : wc.cell? ⟨w.heap.size + 1, 0, none⟩ = some (.int .i64 0) := z 0 _ rfl
      have z1 : wc.cell? ⟨w.heap.size + 1, 1, none⟩ = some (.int .u64 0) := z 1 _ rfl
      have z2 : wc.cell? ⟨w.heap.size + 1, 2, none⟩ = some (.int .u64 0) := z 2 _ rfl
      have z3 : wc.cell? ⟨w.heap.size + 1, 3, none⟩ = some (.bool false) := z 3 _ rfl
      have z4 : wc.cell? ⟨w.heap.size + 1, 4, none⟩ = some (.slice none 0 0) := z 4 _ rfl
      have z5 : wc.cell? ⟨w.heap.size + 1, 5, none⟩ = some (.slice none 0 0) := z 5 _ rfl
      have z6 : wc.cell? ⟨w.heap.size + 1, 6, none⟩ = some (.slice none 0 0) := z 6 _ rfl
      have g0 := zf 0
      have g1 := zf 1
      have g2 := zf 2
      have g3 := zf 3
      have g4 := zf 4
      have g5 := zf 5
      have g6 := zf 6
      clear z zf
      obtain ⟨-, -, -, bd⟩ := HX.out wc (Below.refl _ _)
      have b0 : wc.cell? ⟨w.heap.size + 2, 0, none⟩ = some (.int .i64 151) := bd 0 _ rfl
      have b1 : wc.cell? ⟨w.heap.size + 2, 1, none⟩ = some (.int .u64 0) := bd 1 _ rfl
      have b2 : wc.cell? ⟨w.heap.size + 2, 2, none⟩ = some (.int .u64 0) := bd 2 _ rfl
      have b3 : wc.cell? ⟨w.heap.size + 2, 3, none⟩ = some (.bool false) := bd 3 _ rfl
      have b4 : wc.cell? ⟨w.heap.size + 2, 4, none⟩ = some (.slice none 0 0) := bd 4 _ rfl
      have b5 : wc.cell? ⟨w.heap.size + 2, 5, none⟩ = some (.slice none 0 0) := bd 5 _ rfl
      have b6 : wc.cell? ⟨w.heap.size + 2, 6, none⟩ = some (.slice none 0 0) := bd 6 _ rfl
      clear bd
      go_wp2
      change bodyPost _ _ _ _ _ (wc.setCells (w.heap.size + 1) 0 [.int .i64 151, .int .u64 0, .int .u64 0, .bool false, .slice none 0 0, .slice none 0 0, .slice none 0 0])
      have hr := box_set (V := wc) (b := w.heap.size + 1) (new := [.int .i64 151, .int .u64 0, .int .u64 0, .bool false, .slice none 0 0, .slice none 0 0, .slice none 0 0]) (HX.out wc (Below.refl _ _)).2.1 (Nat.le_refl _) (HX.out wc (Below.refl _ _)).2.2.1
      have r0 := hr 0 _ rfl
      have r1 := hr 1 _ rfl
      have r2 := hr 2 _ rfl
      have r3 := hr 3 _ rfl
      have r4 := hr 4 _ rfl
      have r5 := hr 5 _ rfl
      have r6 := hr 6 _ rfl
      have hbe := box_below (l := [.int .i64 151, .int .u64 0, .int .u64 0, .bool false, .slice none 0 0, .slice none 0 0, .slice none 0 0]) HB1.out (show w.heap.size ≤ w.heap.size + 1 by omega)
      clear hr
      generalize wc.setCells (w.heap.size + 1) 0 [.int .i64 151, .int .u64 0, .int .u64 0, .bool false, .slice none 0 0, .slice none 0 0, .slice none 0 0] = W at *
      refine bodyPost_ret (v := .agg #[.int .i64 151, .int .u64 0, .int .u64 0, .bool false, .slice none 0 0, .slice none 0 0, .slice none 0 0]) (by simp [results, Tryz.results85, go_sem, r0, r1, r2, r3, r4, r5, r6]) rfl ?_
      rw [HE.out]
      exact xs_same HI.out hbe (resR 151) rfl (foot_pure (fun V => resR_ok 151 V)) (Nat.le_succ _)
    have HN := hide (hN rfl)
    clear hT hN
    have h12 := HN.out.2.2.1
    have h1c := HN.out.2.1
    have t2 : wc.cell? ⟨w.heap.size, 2, none⟩ = some (.slice t.cs.a t.cs.n t.cs.c) := (HX.out wc (Below.refl _ _)).1 2 _ rfl
    go_wp2
    generalize hca : t.cs.a = ca at *
    have HCa := hide hca
    clear hca t2
    go_loopg [63] t.cs.n (fun gk ix wr => ∃ k : Nat, gk = t.cs.n - k ∧ ix = .int .i64 k ∧ k ≤ t.cs.n ∧ (List.range k).all (colF t.cs.xs) = true ∧ Below wc.heap.size wc wr)
    case atStart => exact ⟨0, rfl, rfl, Nat.zero_le _, rfl, Below.refl _ _⟩
    case round =>
      obtain ⟨k, rfl, rfl, hk, hA, hB⟩ := hrel
      have HA := hide hA
      have HB := hide hB
      have HBw := hide (HB1.out.trans (hB.mono HB1.out.size))
      clear hA hB
      obtain ⟨wo, hwo⟩ : ∃ wo, wo = wr := ⟨_, rfl⟩
      subst hwo
      by_cases hlt : k < t.cs.n
      · have hltI : (k : Int) < (t.cs.n : Int) := by omega
        obtain ⟨m, hm⟩ := at_of HCs.out.1 hlt
        obtain ⟨W2, hW2⟩ : ∃ W2, W2 = wo.alloc (.cells #[.string (strB m.n), .int .i64 m.k, .bool m.nn] 73) := ⟨_, rfl⟩
        have hb2 : Below wo.heap.size wo W2 := by rw [hW2]; exact new_below _ _
        have hR2 : W2.rangeAt wo.heap.size 0 (layCo.cells m) := by rw [hW2]; exact rangeY_new wo wo.heap.size _ _ rfl
        have hl2 : wo.heap.size < W2.heap.size := by rw [hW2]; exact (Array.getElem?_eq_some_iff.1 (heap_alloc_new _ _)).1
        obtain ⟨bb, hcut2, hY2⟩ := isY_cut layCo ((HCs.out.keep HB.out).keep hb2) k (Nat.le_of_lt hlt)
        have hcutW : ∀ W, (Instr.sliceAt 45 (.slice ca t.cs.n t.cs.c) none (some (.int .i64 (k : Int))) none).run Tryz.prog W = .ok (.slice bb k t.cs.c) W := hcut2
        obtain ⟨g, off, hca2, hg, hC⟩ := (HCs.out.keep HB.out).at hlt
        subst hca2
        have d0 : wo.cell? ⟨g, off + k * 3, none⟩ = some (.string (strB m.n)) := hC k m hm 0 _ rfl
        have d1 : wo.cell? ⟨g, off + k * 3 + 1, none⟩ = some (.int .i64 m.k) := hC k m hm 1 _ rfl
        have d2 : wo.cell? ⟨g, off + k * 3 + 2, none⟩ = some (.bool m.nn) := hC k m hm 2 _ rfl
        have HF := hide (colF_at hm)
        have HY2 := hide hY2
        have HB2 := hide (HB.out.trans (hb2.mono HB.out.size))
        have HR2 := hide hR2
        have HL2 := hide hl2
        have HMk := hide hm
        clear hC hm hb2 hR2 hl2 hcut2 hY2
        go_upto_region 7 with fail
        rw [← hW2]
        clear hW2 d0 d1 d2
        have m0 : W2.cell? ⟨wo.heap.size, 0, none⟩ = some (.string (strB m.n)) := HR2.out 0 _ rfl
        have m1 : W2.cell? ⟨wo.heap.size, 1, none⟩ = some (.int .i64 m.k) := HR2.out 1 _ rfl
        obtain ⟨ze, hze⟩ : ∃ z, noN m.n = z := ⟨_, rfl⟩
        rw [hze] at HF
        have hze' : (strB m.n).toList.isEmpty = ze := hze
        clear hze
        have HBx := hide (fun V (hV : Below W2.heap.size W2 V) => HB2.out.trans (hV.mono HB2.out.size))
        cases ze
        rotate_left
        · have hzn : (strB m.n).toList = [] := List.isEmpty_iff.1 hze'
          have HFb : Hid ((List.range t.t.cs.length).all (colF t.t.cs) = false) := range_bad (k := k) (by show k < t.cs.xs.length; have := HCs.out.1; omega) (by show colF t.cs.xs k = false; rw [HF.out]; simp)
          have HE : Hid (tableM S t.t = (errR 151, S)) := tab_no (tk_cols (by rw [colsB_eq, HFb.out]; simp))
          obtain ⟨-, z, zf, -⟩ := HX.out W2 HB2.out
          have z0 : W2.cell? ⟨w.heap.size + 1, 0, none⟩ = some (.int .i64 0) := z 0 _ rfl
          have z1 : W2.cell? ⟨w.heap.size + 1, 1, none⟩ = some (.int .u64 0) := z 1 _ rfl
          have z2 : W2.cell? ⟨w.heap.size + 1, 2, none⟩ = some (.int .u64 0) := z 2 _ rfl
          have z3 : W2.cell? ⟨w.heap.size + 1, 3, none⟩ = some (.bool false) := z 3 _ rfl
          have z4 : W2.cell? ⟨w.heap.size + 1, 4, none⟩ = some (.slice none 0 0) := z 4 _ rfl
          have z5 : W2.cell? ⟨w.heap.size + 1, 5, none⟩ = some (.slice none 0 0) := z 5 _ rfl
          have z6 : W2.cell? ⟨w.heap.size + 1, 6, none⟩ = some (.slice none 0 0) := z 6 _ rfl
          have g0 := zf 0
          have g1 := zf 1
          have g2 := zf 2
          have g3 := zf 3
          have g4 := zf 4
          have g5 := zf 5
          have g6 := zf 6
          clear z zf
          obtain ⟨-, -, -, bd⟩ := HX.out W2 HB2.out
          have b0 : W2.cell? ⟨w.heap.size + 2, 0, none⟩ = some (.int .i64 151) := bd 0 _ rfl
          have b1 : W2.cell? ⟨w.heap.size + 2, 1, none⟩ = some (.int .u64 0) := bd 1 _ rfl
          have b2 : W2.cell? ⟨w.heap.size + 2, 2, none⟩ = some (.int .u64 0) := bd 2 _ rfl
          have b3 : W2.cell? ⟨w.heap.size + 2, 3, none⟩ = some (.bool false) := bd 3 _ rfl
          have b4 : W2.cell? ⟨w.heap.size + 2, 4, none⟩ = some (.slice none 0 0) := bd 4 _ rfl
          have b5 : W2.cell? ⟨w.heap.size + 2, 5, none⟩ = some (.slice none 0 0) := bd 5 _ rfl
          have b6 : W2.cell? ⟨w.heap.size + 2, 6, none⟩ = some (.slice none 0 0) := bd 6 _ rfl
          clear bd
          go_wp2
          change bodyPost _ _ _ _ _ (W2.setCells (w.heap.size + 1) 0 [.int .i64 151, .int .u64 0, .int .u64 0, .bool false, .slice none 0 0, .slice none 0 0, .slice none 0 0])
          have hr := box_set (V := W2) (b := w.heap.size + 1) (new := [.int .i64 151, .int .u64 0, .int .u64 0, .bool false, .slice none 0 0, .slice none 0 0, .slice none 0 0]) (HX.out W2 HB2.out).2.1 (Nat.le_refl _) (HX.out W2 HB2.out).2.2.1
          have r0 := hr 0 _ rfl
          have r1 := hr 1 _ rfl
          have r2 := hr 2 _ rfl
          have r3 := hr 3 _ rfl
          have r4 := hr 4 _ rfl
          have r5 := hr 5 _ rfl
          have r6 := hr 6 _ rfl
          have hbe := box_below (l := [.int .i64 151, .int .u64 0, .int .u64 0, .bool false, .slice none 0 0, .slice none 0 0, .slice none 0 0]) (HB1.out.trans (HB2.out.mono HB1.out.size)) (show w.heap.size ≤ w.heap.size + 1 by omega)
          clear hr
          generalize W2.setCells (w.heap.size + 1) 0 [.int .i64 151, .int .u64 0, .int .u64 0, .bool false, .slice none 0 0, .slice none 0 0, .slice none 0 0] = W at *
          refine bodyPost_ret (v := .agg #[.int .i64 151, .int .u64 0, .int .u64 0, .bool false, .slice none 0 0, .slice none 0 0, .slice none 0 0]) (by simp [results, Tryz.results85, go_sem, r0, r1, r2, r3, r4, r5, r6]) rfl ?_
          rw [HE.out]
          exact xs_same HI.out hbe (resR 151) rfl (foot_pure (fun V => resR_ok 151 V)) (Nat.le_succ _)
        have hzn : ¬ (strB m.n).toList = [] := fun e => by rw [e] at hze'; cases hze'
        have HZe := hide hze'
        clear hze'
        by_cases hk1 : m.k = 1 ∨ m.k = 2
        rotate_left
        · have q1 : ¬ m.k = 1 := fun e => hk1 (.inl e)
          have q2 : ¬ m.k = 2 := fun e => hk1 (.inr e)
          have e1 : (m.k != 1) = true := by simpa using q1
          have e2 : (m.k != 2) = true := by simpa using q2
          have HFb : Hid ((List.range t.t.cs.length).all (colF t.t.cs) = false) := range_bad (k := k) (by show k < t.cs.xs.length; have := HCs.out.1; omega) (by show colF t.cs.xs k = false; rw [HF.out]; rw [e1, e2]; simp)
          clear hk1 q1 q2
          have HE : Hid (tableM S t.t = (errR 151, S)) := tab_no (tk_cols (by rw [colsB_eq, HFb.out]; simp))
          obtain ⟨-, z, zf, -⟩ := HX.out W2 HB2.out
          have z0 : W2.cell? ⟨w.heap.size + 1, 0, none⟩ = some (.int .i64 0) := z 0 _ rfl
          have z1 : W2.cell? ⟨w.heap.size + 1, 1, none⟩ = some (.int .u64 0) := z 1 _ rfl
          have z2 : W2.cell? ⟨w.heap.size + 1, 2, none⟩ = some (.int .u64 0) := z 2 _ rfl
          have z3 : W2.cell? ⟨w.heap.size + 1, 3, none⟩ = some (.bool false) := z 3 _ rfl
          have z4 : W2.cell? ⟨w.heap.size + 1, 4, none⟩ = some (.slice none 0 0) := z 4 _ rfl
          have z5 : W2.cell? ⟨w.heap.size + 1, 5, none⟩ = some (.slice none 0 0) := z 5 _ rfl
          have z6 : W2.cell? ⟨w.heap.size + 1, 6, none⟩ = some (.slice none 0 0) := z 6 _ rfl
          have g0 := zf 0
          have g1 := zf 1
          have g2 := zf 2
          have g3 := zf 3
          have g4 := zf 4
          have g5 := zf 5
          have g6 := zf 6
          clear z zf
          obtain ⟨-, -, -, bd⟩ := HX.out W2 HB2.out
          have b0 : W2.cell? ⟨w.heap.size + 2, 0, none⟩ = some (.int .i64 151) := bd 0 _ rfl
          have b1 : W2.cell? ⟨w.heap.size + 2, 1, none⟩ = some (.int .u64 0) := bd 1 _ rfl
          have b2 : W2.cell? ⟨w.heap.size + 2, 2, none⟩ = some (.int .u64 0) := bd 2 _ rfl
          have b3 : W2.cell? ⟨w.heap.size + 2, 3, none⟩ = some (.bool false) := bd 3 _ rfl
          have b4 : W2.cell? ⟨w.heap.size + 2, 4, none⟩ = some (.slice none 0 0) := bd 4 _ rfl
          have b5 : W2.cell? ⟨w.heap.size + 2, 5, none⟩ = some (.slice none 0 0) := bd 5 _ rfl
          have b6 : W2.cell? ⟨w.heap.size + 2, 6, none⟩ = some (.slice none 0 0) := bd 6 _ rfl
          clear bd
          go_wp2
          change bodyPost _ _ _ _ _ (W2.setCells (w.heap.size + 1) 0 [.int .i64 151, .int .u64 0, .int .u64 0, .bool false, .slice none 0 0, .slice none 0 0, .slice none 0 0])
          have hr := box_set (V := W2) (b := w.heap.size + 1) (new := [.int .i64 151, .int .u64 0, .int .u64 0, .bool false, .slice none 0 0, .slice none 0 0, .slice none 0 0]) (HX.out W2 HB2.out).2.1 (Nat.le_refl _) (HX.out W2 HB2.out).2.2.1
          have r0 := hr 0 _ rfl
          have r1 := hr 1 _ rfl
          have r2 := hr 2 _ rfl
          have r3 := hr 3 _ rfl
          have r4 := hr 4 _ rfl
          have r5 := hr 5 _ rfl
          have r6 := hr 6 _ rfl
          have hbe := box_below (l := [.int .i64 151, .int .u64 0, .int .u64 0, .bool false, .slice none 0 0, .slice none 0 0, .slice none 0 0]) (HB1.out.trans (HB2.out.mono HB1.out.size)) (show w.heap.size ≤ w.heap.size + 1 by omega)
          clear hr
          generalize W2.setCells (w.heap.size + 1) 0 [.int .i64 151, .int .u64 0, .int .u64 0, .bool false, .slice none 0 0, .slice none 0 0, .slice none 0 0] = W at *
          refine bodyPost_ret (v := .agg #[.int .i64 151, .int .u64 0, .int .u64 0, .bool false, .slice none 0 0, .slice none 0 0, .slice none 0 0]) (by simp [results, Tryz.results85, go_sem, r0, r1, r2, r3, r4, r5, r6]) rfl ?_
          rw [HE.out]
          exact xs_same HI.out hbe (resR 151) rfl (foot_pure (fun V => resR_ok 151 V)) (Nat.le_succ _)
        have hkk : (m.k != 1 && m.k != 2) = false := by
          rcases hk1 with e | e
          · simp [e]
          · simp [e]
        rw [hkk] at HF
        have HKk := hide hk1
        clear hkk hk1
        go_cut [80] (fun s80 wx => s80 = .bool false ∧ wx = W2)
        case first =>
          rcases HKk.out with hk1 | hk1
          · rw [hk1] at m1
            go_wp2_with fail
            go_meet
            exact ⟨by rw [HZe.out], rfl⟩
          · rw [hk1] at m1
            go_wp2_with fail
            go_meet
            exact ⟨by rw [HZe.out], rfl⟩
        case rest =>
          obtain ⟨rfl, hwc2⟩ := hcut
          subst hwc2
          have t2 : wc.cell? ⟨w.heap.size, 2, none⟩ = some (.slice (some ⟨g, off, none⟩) t.cs.n t.cs.c) := by rw [← HCa.out]; exact (HX.out wc HB2.out).1 2 _ rfl
          clear hzn m1 HZe
          go_wp2
          go_loopg [87] k (fun gj jv wv => ∃ j : Nat, gj = k - j ∧ jv = .int .i64 j ∧ j ≤ k ∧ (t.cs.xs.take j).any (fun x => eqN x.n m.n) = false ∧ Below wc.heap.size wc wv)
          case atStart => exact ⟨0, rfl, rfl, Nat.zero_le _, rfl, Below.refl _ _⟩
          case round =>
            obtain ⟨j, rfl, rfl, hj, hN2, hB3⟩ := hrel
            have HN2 := hide hN2
            have HB3 := hide hB3
            clear hN2 hB3
            obtain ⟨wv, hwv⟩ : ∃ wv, wv = wr := ⟨_, rfl⟩
            subst hwv
            by_cases hjl : j < k
            · have hjI : (j : Int) < (k : Int) := by omega
              obtain ⟨x, hx⟩ := at_of HY2.out.1 hjl
              have hx2 : t.cs.xs[j]? = some x := by rw [← hx, List.getElem?_take, if_pos hjl]
              obtain ⟨W3, hW3⟩ : ∃ W3, W3 = wv.alloc (.cells #[.string (strB x.n), .int .i64 x.k, .bool x.nn] 73) := ⟨_, rfl⟩
              have hb3 : Below wv.heap.size wv W3 := by rw [hW3]; exact new_below _ _
              have hR3 : W3.rangeAt wv.heap.size 0 (layCo.cells x) := by rw [hW3]; exact rangeY_new wv wv.heap.size _ _ rfl
              obtain ⟨g3, o3, hbb, hg3, hC3⟩ := (HY2.out.keep HB3.out).at hjl
              subst hbb
              have d0 : wv.cell? ⟨g3, o3 + j * 3, none⟩ = some (.string (strB x.n)) := hC3 j x hx 0 _ rfl
              have d1 : wv.cell? ⟨g3, o3 + j * 3 + 1, none⟩ = some (.int .i64 x.k) := hC3 j x hx 1 _ rfl
              have d2 : wv.cell? ⟨g3, o3 + j * 3 + 2, none⟩ = some (.bool x.nn) := hC3 j x hx 2 _ rfl
              have HB4 := hide (HB3.out.trans (hb3.mono HB3.out.size))
              have HB5 := hide (HB2.out.trans (HB4.out.mono HB2.out.size))
              have HAn := hide (any_more2 (f := fun (x : Colm) => eqN x.n m.n) hx2)
              have HXj := hide hx
              have HR3 := hide hR3
              clear hC3 hx hx2 hb3 hR3
              go_upto_region 12 with fail
              rw [← hW3]
              clear hW3 d0 d1 d2
              have x0 : W3.cell? ⟨wv.heap.size, 0, none⟩ = some (.string (strB x.n)) := HR3.out 0 _ rfl
              have m0 : W3.cell? ⟨wo.heap.size, 0, none⟩ = some (.string (strB m.n)) := (World.cell?_of_block (a := ⟨wo.heap.size, 0, none⟩) (HB4.out.block _ HL2.out)).trans m0
              by_cases he : (strB x.n).toList = (strB m.n).toList
              · have e0 : ((strB x.n).toList == (strB m.n).toList) = true := by simpa using he
                have e1 : decide ((strB x.n).toList = (strB m.n).toList) = true := by simpa using he
                have hany : (t.cs.xs.take k).any (fun x => eqN x.n m.n) = true := any_bad (f := fun (x : Colm) => eqN x.n m.n) HXj.out e0
                have HFb : Hid ((List.range t.t.cs.length).all (colF t.t.cs) = false) := range_bad (k := k) (by show k < t.cs.xs.length; have := HCs.out.1; omega) (by show colF t.cs.xs k = false; rw [HF.out, hany]; simp)
                clear he hany
                have HE : Hid (tableM S t.t = (errR 151, S)) := tab_no (tk_cols (by rw [colsB_eq, HFb.out]; simp))
                obtain ⟨-, z, zf, -⟩ := HX.out W3 HB5.out
                have z0 : W3.cell? ⟨w.heap.size + 1, 0, none⟩ = some (.int .i64 0) := z 0 _ rfl
                have z1 : W3.cell? ⟨w.heap.size + 1, 1, none⟩ = some (.int .u64 0) := z 1 _ rfl
                have z2 : W3.cell? ⟨w.heap.size + 1, 2, none⟩ = some (.int .u64 0) := z 2 _ rfl
                have z3 : W3.cell? ⟨w.heap.size + 1, 3, none⟩ = some (.bool false) := z 3 _ rfl
                have z4 : W3.cell? ⟨w.heap.size + 1, 4, none⟩ = some (.slice none 0 0) := z 4 _ rfl
                have z5 : W3.cell? ⟨w.heap.size + 1, 5, none⟩ = some (.slice none 0 0) := z 5 _ rfl
                have z6 : W3.cell? ⟨w.heap.size + 1, 6, none⟩ = some (.slice none 0 0) := z 6 _ rfl
                have g0 := zf 0
                have g1 := zf 1
                have g2 := zf 2
                have g3 := zf 3
                have g4 := zf 4
                have g5 := zf 5
                have g6 := zf 6
                clear z zf
                obtain ⟨-, -, -, bd⟩ := HX.out W3 HB5.out
                have b0 : W3.cell? ⟨w.heap.size + 2, 0, none⟩ = some (.int .i64 151) := bd 0 _ rfl
                have b1 : W3.cell? ⟨w.heap.size + 2, 1, none⟩ = some (.int .u64 0) := bd 1 _ rfl
                have b2 : W3.cell? ⟨w.heap.size + 2, 2, none⟩ = some (.int .u64 0) := bd 2 _ rfl
                have b3 : W3.cell? ⟨w.heap.size + 2, 3, none⟩ = some (.bool false) := bd 3 _ rfl
                have b4 : W3.cell? ⟨w.heap.size + 2, 4, none⟩ = some (.slice none 0 0) := bd 4 _ rfl
                have b5 : W3.cell? ⟨w.heap.size + 2, 5, none⟩ = some (.slice none 0 0) := bd 5 _ rfl
                have b6 : W3.cell? ⟨w.heap.size + 2, 6, none⟩ = some (.slice none 0 0) := bd 6 _ rfl
                clear bd
                go_wp2
                change bodyPost _ _ _ _ _ (W3.setCells (w.heap.size + 1) 0 [.int .i64 151, .int .u64 0, .int .u64 0, .bool false, .slice none 0 0, .slice none 0 0, .slice none 0 0])
                have hr := box_set (V := W3) (b := w.heap.size + 1) (new := [.int .i64 151, .int .u64 0, .int .u64 0, .bool false, .slice none 0 0, .slice none 0 0, .slice none 0 0]) (HX.out W3 HB5.out).2.1 (Nat.le_refl _) (HX.out W3 HB5.out).2.2.1
                have r0 := hr 0 _ rfl
                have r1 := hr 1 _ rfl
                have r2 := hr 2 _ rfl
                have r3 := hr 3 _ rfl
                have r4 := hr 4 _ rfl
                have r5 := hr 5 _ rfl
                have r6 := hr 6 _ rfl
                have hbe := box_below (l := [.int .i64 151, .int .u64 0, .int .u64 0, .bool false, .slice none 0 0, .slice none 0 0, .slice none 0 0]) (HB1.out.trans (HB5.out.mono HB1.out.size)) (show w.heap.size ≤ w.heap.size + 1 by omega)
                clear hr
                generalize W3.setCells (w.heap.size + 1) 0 [.int .i64 151, .int .u64 0, .int .u64 0, .bool false, .slice none 0 0, .slice none 0 0, .slice none 0 0] = W at *
                refine bodyPost_ret (v := .agg #[.int .i64 151, .int .u64 0, .int .u64 0, .bool false, .slice none 0 0, .slice none 0 0, .slice none 0 0]) (by simp [results, Tryz.results85, go_sem, r0, r1, r2, r3, r4, r5, r6]) rfl ?_
                rw [HE.out]
                exact xs_same HI.out hbe (resR 151) rfl (foot_pure (fun V => resR_ok 151 V)) (Nat.le_succ _)
              · have e0 : ((strB x.n).toList == (strB m.n).toList) = false := by simpa using he
                have e1 : decide ((strB x.n).toList = (strB m.n).toList) = false := by simpa using he
                have HAm : Hid ((t.cs.xs.take (j + 1)).any (fun x => eqN x.n m.n) = false) := by
                  show _ = _
                  rw [HAn.out, HN2.out]
                  exact e0
                clear he
                go_wp2
                go_roundg (k - (j + 1))
                case measure => omega
                case rel => exact ⟨j + 1, rfl, by go_num, by omega, HAm.out, HB4.out⟩
            · obtain rfl : j = k := by omega
              have hnj : ¬ (j : Int) < (j : Int) := by omega
              have HAm : Hid ((List.range (j + 1)).all (colF t.cs.xs) = true) := by
                show _ = _
                rw [range_more, HA.out, HF.out, HN2.out]
                rfl
              go_wp2
              go_roundg (t.cs.n - (j + 1))
              case measure => omega
              case rel => exact ⟨j + 1, rfl, by go_num, by omega, HAm.out, HBx.out wv HB3.out⟩
      · obtain rfl : k = t.cs.n := by omega
        have hnl : ¬ (t.cs.n : Int) < (t.cs.n : Int) := by omega
        have HCb : Hid (colsB t.cs.xs = true) := by
          show _ = _
          rw [colsB_eq, HCs.out.1, HA.out, show decide (t.cs.n ≤ 12) = true from decide_eq_true h12]
          have : t.cs.xs.isEmpty = false := by
            cases hx : t.cs.xs with
            | nil => have h2 := HCs.out.1; rw [hx] at h2; simp at h2; omega
            | cons => rfl
          rw [this]
          rfl
        have t4 : wo.cell? ⟨w.heap.size, 4, none⟩ = some (.slice t.ix.a t.ix.n t.ix.c) := (HX.out wo HB.out).1 4 _ rfl
        go_wp2
        clear t4
        generalize hia : t.ix.a = ia at *
        have HIa := hide hia
        clear hia hnl
        go_loopg [102] t.ix.n (fun gk ix wr => ∃ k : Nat, gk = t.ix.n - k ∧ ix = .int .i64 k ∧ k ≤ t.ix.n ∧ (List.range k).all (ixF t.ix.xs t.cs.xs) = true ∧ Below wo.heap.size wo wr)
        case atStart => exact ⟨0, rfl, rfl, Nat.zero_le _, rfl, Below.refl _ _⟩
        case round =>
          obtain ⟨k, rfl, rfl, hk2, hA2, hB2⟩ := hrel
          have HA2 := hide hA2
          have HB2 := hide (HB.out.trans (hB2.mono HB.out.size))
          have HBo := hide hB2
          clear hA2 hB2
          obtain ⟨wi, hwi⟩ : ∃ wi, wi = wr := ⟨_, rfl⟩
          subst hwi
          by_cases hlt2 : k < t.ix.n
          · have hltI : (k : Int) < (t.ix.n : Int) := by omega
            obtain ⟨v, hv⟩ := at_of HIx.out.1 hlt2
            obtain ⟨bb, hcut2, hY2⟩ := isY_cut layIx (HIx.out.keep HB2.out) k (Nat.le_of_lt hlt2)
            have hcutW : ∀ W, (Instr.sliceAt 46 (.slice ia t.ix.n t.ix.c) none (some (.int .i64 (k : Int))) none).run Tryz.prog W = .ok (.slice bb k t.ix.c) W := hcut2
            obtain ⟨g, off, hia2, hg, hC⟩ := (HIx.out.keep HB2.out).at hlt2
            subst hia2
            have d0 : wi.cell? ⟨g, off + k, none⟩ = some (.int .i64 v) := by simpa [layIx] using hC k v hv 0 _ rfl
            have HF := hide (ixF_at (cs := t.cs.xs) hv)
            have HY2 := hide hY2
            have t2 : wi.cell? ⟨w.heap.size, 2, none⟩ = some (.slice ca t.cs.n t.cs.c) := by rw [← HCa.out]; exact (HX.out wi HB2.out).1 2 _ rfl
            have t4 : wi.cell? ⟨w.heap.size, 4, none⟩ = some (.slice (some ⟨g, off, none⟩) t.ix.n t.ix.c) := by rw [← HIa.out]; exact (HX.out wi HB2.out).1 4 _ rfl
            clear hC hv hcut2 hY2
            have hcl := HCs.out.1
            by_cases hv0 : v < 0
            · have e1 : decide (v < 0) = true := decide_eq_true hv0
              have hpl2 : placeB v t.cs.xs = false := by unfold placeB; rw [decide_eq_false (by omega)]; rfl
              have HFb : Hid ((List.range t.t.ix.length).all (ixF t.t.ix t.t.cs) = false) := range_bad (k := k) (by show k < t.ix.xs.length; have := HIx.out.1; omega) (by show ixF t.ix.xs t.cs.xs k = false; rw [HF.out, hpl2]; simp)
              clear hpl2 hv0 hcl
              have HE : Hid (tableM S t.t = (errR 151, S)) := tab_no (tk_ixs (by rw [ixsB_eq, HFb.out]; simp))
              obtain ⟨-, z, zf, -⟩ := HX.out wi HB2.out
              have z0 : wi.cell? ⟨w.heap.size + 1, 0, none⟩ = some (.int .i64 0) := z 0 _ rfl
              have z1 : wi.cell? ⟨w.heap.size + 1, 1, none⟩ = some (.int .u64 0) := z 1 _ rfl
              have z2 : wi.cell? ⟨w.heap.size + 1, 2, none⟩ = some (.int .u64 0) := z 2 _ rfl
              have z3 : wi.cell? ⟨w.heap.size + 1, 3, none⟩ = some (.bool false) := z 3 _ rfl
              have z4 : wi.cell? ⟨w.heap.size + 1, 4, none⟩ = some (.slice none 0 0) := z 4 _ rfl
              have z5 : wi.cell? ⟨w.heap.size + 1, 5, none⟩ = some (.slice none 0 0) := z 5 _ rfl
              have z6 : wi.cell? ⟨w.heap.size + 1, 6, none⟩ = some (.slice none 0 0) := z 6 _ rfl
              have g0 := zf 0
              have g1 := zf 1
              have g2 := zf 2
              have g3 := zf 3
              have g4 := zf 4
              have g5 := zf 5
              have g6 := zf 6
              clear z zf
              obtain ⟨-, -, -, bd⟩ := HX.out wi HB2.out
              have b0 : wi.cell? ⟨w.heap.size + 2, 0, none⟩ = some (.int .i64 151) := bd 0 _ rfl
              have b1 : wi.cell? ⟨w.heap.size + 2, 1, none⟩ = some (.int .u64 0) := bd 1 _ rfl
              have b2 : wi.cell? ⟨w.heap.size + 2, 2, none⟩ = some (.int .u64 0) := bd 2 _ rfl
              have b3 : wi.cell? ⟨w.heap.size + 2, 3, none⟩ = some (.bool false) := bd 3 _ rfl
              have b4 : wi.cell? ⟨w.heap.size + 2, 4, none⟩ = some (.slice none 0 0) := bd 4 _ rfl
              have b5 : wi.cell? ⟨w.heap.size + 2, 5, none⟩ = some (.slice none 0 0) := bd 5 _ rfl
              have b6 : wi.cell? ⟨w.heap.size + 2, 6, none⟩ = some (.slice none 0 0) := bd 6 _ rfl
              clear bd
              go_wp2
              change bodyPost _ _ _ _ _ (wi.setCells (w.heap.size + 1) 0 [.int .i64 151, .int .u64 0, .int .u64 0, .bool false, .slice none 0 0, .slice none 0 0, .slice none 0 0])
              have hr := box_set (V := wi) (b := w.heap.size + 1) (new := [.int .i64 151, .int .u64 0, .int .u64 0, .bool false, .slice none 0 0, .slice none 0 0, .slice none 0 0]) (HX.out wi HB2.out).2.1 (Nat.le_refl _) (HX.out wi HB2.out).2.2.1
              have r0 := hr 0 _ rfl
              have r1 := hr 1 _ rfl
              have r2 := hr 2 _ rfl
              have r3 := hr 3 _ rfl
              have r4 := hr 4 _ rfl
              have r5 := hr 5 _ rfl
              have r6 := hr 6 _ rfl
              have hbe := box_below (l := [.int .i64 151, .int .u64 0, .int .u64 0, .bool false, .slice none 0 0, .slice none 0 0, .slice none 0 0]) (HB1.out.trans (HB2.out.mono HB1.out.size)) (show w.heap.size ≤ w.heap.size + 1 by omega)
              clear hr
              generalize wi.setCells (w.heap.size + 1) 0 [.int .i64 151, .int .u64 0, .int .u64 0, .bool false, .slice none 0 0, .slice none 0 0, .slice none 0 0] = W at *
              refine bodyPost_ret (v := .agg #[.int .i64 151, .int .u64 0, .int .u64 0, .bool false, .slice none 0 0, .slice none 0 0, .slice none 0 0]) (by simp [results, Tryz.results85, go_sem, r0, r1, r2, r3, r4, r5, r6]) rfl ?_
              rw [HE.out]
              exact xs_same HI.out hbe (resR 151) rfl (foot_pure (fun V => resR_ok 151 V)) (Nat.le_succ _)
            · have e1 : decide (v < 0) = false := decide_eq_false hv0
              by_cases hv1 : (t.cs.n : Int) ≤ v
              · have e2 : decide ((t.cs.n : Int) ≤ v) = true := decide_eq_true hv1
                have hpl2 : placeB v t.cs.xs = false := by unfold placeB; rw [show decide (v < (t.cs.xs.length : Int)) = false from decide_eq_false (by omega)]; simp
                have HFb : Hid ((List.range t.t.ix.length).all (ixF t.t.ix t.t.cs) = false) := range_bad (k := k) (by show k < t.ix.xs.length; have := HIx.out.1; omega) (by show ixF t.ix.xs t.cs.xs k = false; rw [HF.out, hpl2]; simp)
                clear hpl2 hv1 hcl
                have HE : Hid (tableM S t.t = (errR 151, S)) := tab_no (tk_ixs (by rw [ixsB_eq, HFb.out]; simp))
                obtain ⟨-, z, zf, -⟩ := HX.out wi HB2.out
                have z0 : wi.cell? ⟨w.heap.size + 1, 0, none⟩ = some (.int .i64 0) := z 0 _ rfl
                have z1 : wi.cell? ⟨w.heap.size + 1, 1, none⟩ = some (.int .u64 0) := z 1 _ rfl
                have z2 : wi.cell? ⟨w.heap.size + 1, 2, none⟩ = some (.int .u64 0) := z 2 _ rfl
                have z3 : wi.cell? ⟨w.heap.size + 1, 3, none⟩ = some (.bool false) := z 3 _ rfl
                have z4 : wi.cell? ⟨w.heap.size + 1, 4, none⟩ = some (.slice none 0 0) := z 4 _ rfl
                have z5 : wi.cell? ⟨w.heap.size + 1, 5, none⟩ = some (.slice none 0 0) := z 5 _ rfl
                have z6 : wi.cell? ⟨w.heap.size + 1, 6, none⟩ = some (.slice none 0 0) := z 6 _ rfl
                have g0 := zf 0
                have g1 := zf 1
                have g2 := zf 2
                have g3 := zf 3
                have g4 := zf 4
                have g5 := zf 5
                have g6 := zf 6
                clear z zf
                obtain ⟨-, -, -, bd⟩ := HX.out wi HB2.out
                have b0 : wi.cell? ⟨w.heap.size + 2, 0, none⟩ = some (.int .i64 151) := bd 0 _ rfl
                have b1 : wi.cell? ⟨w.heap.size + 2, 1, none⟩ = some (.int .u64 0) := bd 1 _ rfl
                have b2 : wi.cell? ⟨w.heap.size + 2, 2, none⟩ = some (.int .u64 0) := bd 2 _ rfl
                have b3 : wi.cell? ⟨w.heap.size + 2, 3, none⟩ = some (.bool false) := bd 3 _ rfl
                have b4 : wi.cell? ⟨w.heap.size + 2, 4, none⟩ = some (.slice none 0 0) := bd 4 _ rfl
                have b5 : wi.cell? ⟨w.heap.size + 2, 5, none⟩ = some (.slice none 0 0) := bd 5 _ rfl
                have b6 : wi.cell? ⟨w.heap.size + 2, 6, none⟩ = some (.slice none 0 0) := bd 6 _ rfl
                clear bd
                go_wp2
                change bodyPost _ _ _ _ _ (wi.setCells (w.heap.size + 1) 0 [.int .i64 151, .int .u64 0, .int .u64 0, .bool false, .slice none 0 0, .slice none 0 0, .slice none 0 0])
                have hr := box_set (V := wi) (b := w.heap.size + 1) (new := [.int .i64 151, .int .u64 0, .int .u64 0, .bool false, .slice none 0 0, .slice none 0 0, .slice none 0 0]) (HX.out wi HB2.out).2.1 (Nat.le_refl _) (HX.out wi HB2.out).2.2.1
                have r0 := hr 0 _ rfl
                have r1 := hr 1 _ rfl
                have r2 := hr 2 _ rfl
                have r3 := hr 3 _ rfl
                have r4 := hr 4 _ rfl
                have r5 := hr 5 _ rfl
                have r6 := hr 6 _ rfl
                have hbe := box_below (l := [.int .i64 151, .int .u64 0, .int .u64 0, .bool false, .slice none 0 0, .slice none 0 0, .slice none 0 0]) (HB1.out.trans (HB2.out.mono HB1.out.size)) (show w.heap.size ≤ w.heap.size + 1 by omega)
                clear hr
                generalize wi.setCells (w.heap.size + 1) 0 [.int .i64 151, .int .u64 0, .int .u64 0, .bool false, .slice none 0 0, .slice none 0 0, .slice none 0 0] = W at *
                refine bodyPost_ret (v := .agg #[.int .i64 151, .int .u64 0, .int .u64 0, .bool false, .slice none 0 0, .slice none 0 0, .slice none 0 0]) (by simp [results, Tryz.results85, go_sem, r0, r1, r2, r3, r4, r5, r6]) rfl ?_
                rw [HE.out]
                exact xs_same HI.out hbe (resR 151) rfl (foot_pure (fun V => resR_ok 151 V)) (Nat.le_succ _)
              · have e2 : decide ((t.cs.n : Int) ≤ v) = false := decide_eq_false hv1
                have HPl : Hid (placeB v t.cs.xs = true) := by
                  show _ = _
                  unfold placeB
                  rw [show decide (0 ≤ v) = true from decide_eq_true (by omega), show decide (v < (t.cs.xs.length : Int)) = true from decide_eq_true (by omega)]
                  rfl
                clear hv1 hcl
                go_wp2
                clear e1 e2 d0
                go_loopg [122] k (fun gj jv wv => ∃ j : Nat, gj = k - j ∧ jv = .int .i64 j ∧ j ≤ k ∧ (t.ix.xs.take j).any (fun x => x == v) = false ∧ Below wi.heap.size wi wv)
                case atStart => exact ⟨0, rfl, rfl, Nat.zero_le _, rfl, Below.refl _ _⟩
                case round =>
                  obtain ⟨j, rfl, rfl, hj, hN2, hB3⟩ := hrel
                  have HN2 := hide hN2
                  have HB3 := hide hB3
                  have HB5 := hide (HB2.out.trans (hB3.mono HB2.out.size))
                  clear hN2 hB3
                  obtain ⟨wv, hwv⟩ : ∃ wv, wv = wr := ⟨_, rfl⟩
                  subst hwv
                  by_cases hjl : j < k
                  · have hjI : (j : Int) < (k : Int) := by omega
                    obtain ⟨y, hy⟩ := at_of HY2.out.1 hjl
                    have hy2 : t.ix.xs[j]? = some y := by rw [← hy, List.getElem?_take, if_pos hjl]
                    obtain ⟨g3, o3, hbb, hg3, hC3⟩ := (HY2.out.keep HB3.out).at hjl
                    subst hbb
                    have d0 : wv.cell? ⟨g3, o3 + j, none⟩ = some (.int .i64 y) := by simpa [layIx] using hC3 j y hy 0 _ rfl
                    have HAn := hide (any_more2 (f := fun (x : Int) => x == v) hy2)
                    have HYj := hide hy
                    clear hC3 hy hy2
                    by_cases he : v = y
                    · have e0 : (v == y) = true := by simpa using he
                      have e1 : decide (v = y) = true := by simpa using he
                      have hany : (t.ix.xs.take k).any (fun x => x == v) = true := any_bad (f := fun (x : Int) => x == v) HYj.out (by simp [he])
                      have HFb : Hid ((List.range t.t.ix.length).all (ixF t.t.ix t.t.cs) = false) := range_bad (k := k) (by show k < t.ix.xs.length; have := HIx.out.1; omega) (by show ixF t.ix.xs t.cs.xs k = false; rw [HF.out, hany]; simp)
                      clear he hany
                      have HE : Hid (tableM S t.t = (errR 151, S)) := tab_no (tk_ixs (by rw [ixsB_eq, HFb.out]; simp))
                      obtain ⟨-, z, zf, -⟩ := HX.out wv HB5.out
                      have z0 : wv.cell? ⟨w.heap.size + 1, 0, none⟩ = some (.int .i64 0) := z 0 _ rfl
                      have z1 : wv.cell? ⟨w.heap.size + 1, 1, none⟩ = some (.int .u64 0) := z 1 _ rfl
                      have z2 : wv.cell? ⟨w.heap.size + 1, 2, none⟩ = some (.int .u64 0) := z 2 _ rfl
                      have z3 : wv.cell? ⟨w.heap.size + 1, 3, none⟩ = some (.bool false) := z 3 _ rfl
                      have z4 : wv.cell? ⟨w.heap.size + 1, 4, none⟩ = some (.slice none 0 0) := z 4 _ rfl
                      have z5 : wv.cell? ⟨w.heap.size + 1, 5, none⟩ = some (.slice none 0 0) := z 5 _ rfl
                      have z6 : wv.cell? ⟨w.heap.size + 1, 6, none⟩ = some (.slice none 0 0) := z 6 _ rfl
                      have g0 := zf 0
                      have g1 := zf 1
                      have g2 := zf 2
                      have g3 := zf 3
                      have g4 := zf 4
                      have g5 := zf 5
                      have g6 := zf 6
                      clear z zf
                      obtain ⟨-, -, -, bd⟩ := HX.out wv HB5.out
                      have b0 : wv.cell? ⟨w.heap.size + 2, 0, none⟩ = some (.int .i64 151) := bd 0 _ rfl
                      have b1 : wv.cell? ⟨w.heap.size + 2, 1, none⟩ = some (.int .u64 0) := bd 1 _ rfl
                      have b2 : wv.cell? ⟨w.heap.size + 2, 2, none⟩ = some (.int .u64 0) := bd 2 _ rfl
                      have b3 : wv.cell? ⟨w.heap.size + 2, 3, none⟩ = some (.bool false) := bd 3 _ rfl
                      have b4 : wv.cell? ⟨w.heap.size + 2, 4, none⟩ = some (.slice none 0 0) := bd 4 _ rfl
                      have b5 : wv.cell? ⟨w.heap.size + 2, 5, none⟩ = some (.slice none 0 0) := bd 5 _ rfl
                      have b6 : wv.cell? ⟨w.heap.size + 2, 6, none⟩ = some (.slice none 0 0) := bd 6 _ rfl
                      clear bd
                      go_wp2
                      change bodyPost _ _ _ _ _ (wv.setCells (w.heap.size + 1) 0 [.int .i64 151, .int .u64 0, .int .u64 0, .bool false, .slice none 0 0, .slice none 0 0, .slice none 0 0])
                      have hr := box_set (V := wv) (b := w.heap.size + 1) (new := [.int .i64 151, .int .u64 0, .int .u64 0, .bool false, .slice none 0 0, .slice none 0 0, .slice none 0 0]) (HX.out wv HB5.out).2.1 (Nat.le_refl _) (HX.out wv HB5.out).2.2.1
                      have r0 := hr 0 _ rfl
                      have r1 := hr 1 _ rfl
                      have r2 := hr 2 _ rfl
                      have r3 := hr 3 _ rfl
                      have r4 := hr 4 _ rfl
                      have r5 := hr 5 _ rfl
                      have r6 := hr 6 _ rfl
                      have hbe := box_below (l := [.int .i64 151, .int .u64 0, .int .u64 0, .bool false, .slice none 0 0, .slice none 0 0, .slice none 0 0]) (HB1.out.trans (HB5.out.mono HB1.out.size)) (show w.heap.size ≤ w.heap.size + 1 by omega)
                      clear hr
                      generalize wv.setCells (w.heap.size + 1) 0 [.int .i64 151, .int .u64 0, .int .u64 0, .bool false, .slice none 0 0, .slice none 0 0, .slice none 0 0] = W at *
                      refine bodyPost_ret (v := .agg #[.int .i64 151, .int .u64 0, .int .u64 0, .bool false, .slice none 0 0, .slice none 0 0, .slice none 0 0]) (by simp [results, Tryz.results85, go_sem, r0, r1, r2, r3, r4, r5, r6]) rfl ?_
                      rw [HE.out]
                      exact xs_same HI.out hbe (resR 151) rfl (foot_pure (fun V => resR_ok 151 V)) (Nat.le_succ _)
                    · have e0 : (v == y) = false := by simpa using he
                      have e1 : decide (v = y) = false := by simpa using he
                      have HAm : Hid ((t.ix.xs.take (j + 1)).any (fun x => x == v) = false) := by
                        show _ = _
                        rw [HAn.out, HN2.out]
                        simp [Ne.symm he]
                      clear he
                      go_wp2
                      go_roundg (k - (j + 1))
                      case measure => omega
                      case rel => exact ⟨j + 1, rfl, by go_num, by omega, HAm.out, HB3.out⟩
                  · obtain rfl : j = k := by omega
                    have hnj : ¬ (j : Int) < (j : Int) := by omega
                    have HAm : Hid ((List.range (j + 1)).all (ixF t.ix.xs t.cs.xs) = true) := by
                      show _ = _
                      rw [range_more, HA2.out, HF.out, HN2.out, HPl.out]
                      rfl
                    go_wp2
                    go_roundg (t.ix.n - (j + 1))
                    case measure => omega
                    case rel => exact ⟨j + 1, rfl, by go_num, by omega, HAm.out, HBo.out.trans (HB3.out.mono HBo.out.size)⟩
          · obtain rfl : k = t.ix.n := by omega
            have hnl : ¬ (t.ix.n : Int) < (t.ix.n : Int) := by omega
            have HIb : Hid (ixsB t.ix.xs t.cs.xs = true) := by
              show _ = _
              rw [ixsB_eq, HIx.out.1, HA2.out, show decide (t.ix.n ≤ 4) = true from decide_eq_true HN.out.2.2.2.2.1]
              rfl
            have y5 : wi.cell? ⟨a.p, 5, none⟩ = some (.slice a.ta a.tn a.tc) := ((HB1.out.trans (HB2.out.mono HB1.out.size)).cell (p := ⟨a.p, 5, none⟩) hpl).trans HI.out.c5
            go_wp2
            clear y5
            generalize hta : a.ta = ta at *
            have HTa := hide hta
            clear hta hnl
            go_loopg [137] a.tn (fun gk ix wr => ∃ k : Nat, gk = a.tn - k ∧ ix = .int .i64 k ∧ k ≤ a.tn ∧ (a.ms.take k).any (fun x => eqN x.nm t.nm) = false ∧ Below wi.heap.size wi wr)
            case atStart => exact ⟨0, rfl, rfl, Nat.zero_le _, rfl, Below.refl _ _⟩
            case round =>
              obtain ⟨k, rfl, rfl, hk3, hA3, hB3⟩ := hrel
              have HA3 := hide hA3
              have HB3 := hide (HB2.out.trans (hB3.mono HB2.out.size))
              have HBi := hide hB3
              clear hA3 hB3
              obtain ⟨wq, hwq⟩ : ∃ wq, wq = wr := ⟨_, rfl⟩
              subst hwq
              by_cases hlt3 : k < a.tn
              · have hltI : (k : Int) < (a.tn : Int) := by omega
                obtain ⟨u, hu⟩ := at_of HTL.out.1.1 hlt3
                obtain ⟨W3, hW3⟩ : ∃ W3, W3 = wq.alloc (.cells #[.int .i64 u.id, .string (strB u.nm), .slice u.cs.a u.cs.n u.cs.c, .int .i64 u.ky, .slice u.ix.a u.ix.n u.ix.c] 48) := ⟨_, rfl⟩
                have hb3 : Below wq.heap.size wq W3 := by rw [hW3]; exact new_below _ _
                have hR3 : W3.rangeAt wq.heap.size 0 (layTb.cells u) := by rw [hW3]; exact rangeY_new wq wq.heap.size _ _ rfl
                obtain ⟨g3, o3, hbb, hg3, hC3⟩ := (HTL.out.1.keep (HB1.out.trans (HB3.out.mono HB1.out.size))).at hlt3
                subst hbb
                have d0 : wq.cell? ⟨g3, o3 + k * 5, none⟩ = some (.int .i64 u.id) := hC3 k u hu 0 _ rfl
                have d1 : wq.cell? ⟨g3, o3 + k * 5 + 1, none⟩ = some (.string (strB u.nm)) := hC3 k u hu 1 _ rfl
                have d2 : wq.cell? ⟨g3, o3 + k * 5 + 2, none⟩ = some (.slice u.cs.a u.cs.n u.cs.c) := hC3 k u hu 2 _ rfl
                have d3 : wq.cell? ⟨g3, o3 + k * 5 + 3, none⟩ = some (.int .i64 u.ky) := hC3 k u hu 3 _ rfl
                have d4 : wq.cell? ⟨g3, o3 + k * 5 + 4, none⟩ = some (.slice u.ix.a u.ix.n u.ix.c) := hC3 k u hu 4 _ rfl
                have HB4 := hide (HB3.out.trans (hb3.mono HB3.out.size))
                have HAn := hide (any_more2 (f := fun (x : MTb) => eqN x.nm t.nm) hu)
                have HUj := hide hu
                have HR3 := hide hR3
                have HBj := hide (HBi.out.trans (hb3.mono HBi.out.size))
                clear hC3 hu hb3 hR3
                go_upto_region 31 with fail
                rw [← hW3]
                clear hW3 d0 d1 d2 d3 d4
                have u1 : W3.cell? ⟨wq.heap.size, 1, none⟩ = some (.string (strB u.nm)) := HR3.out 1 _ rfl
                have t1 : W3.cell? ⟨w.heap.size, 1, none⟩ = some (.string (strB t.nm)) := (HX.out W3 HB4.out).1 1 _ rfl
                by_cases he : (strB u.nm).toList = (strB t.nm).toList
                · have e0 : ((strB u.nm).toList == (strB t.nm).toList) = true := by simpa using he
                  have e1 : decide ((strB u.nm).toList = (strB t.nm).toList) = true := by simpa using he
                  have HNm : Hid (namedB S.tbs t.t.nm = true) := by
                    show _ = _
                    unfold namedB
                    rw [← HTM.out, List.any_map]
                    exact any_bad (f := fun (x : MTb) => eqN x.nm t.nm) HUj.out e0
                  clear he
                  have HE : Hid (tableM S t.t = (errR 151, S)) := tab_no (tk_named HNm.out)
                  obtain ⟨-, z, zf, -⟩ := HX.out W3 HB4.out
                  have z0 : W3.cell? ⟨w.heap.size + 1, 0, none⟩ = some (.int .i64 0) := z 0 _ rfl
                  have z1 : W3.cell? ⟨w.heap.size + 1, 1, none⟩ = some (.int .u64 0) := z 1 _ rfl
                  have z2 : W3.cell? ⟨w.heap.size + 1, 2, none⟩ = some (.int .u64 0) := z 2 _ rfl
                  have z3 : W3.cell? ⟨w.heap.size + 1, 3, none⟩ = some (.bool false) := z 3 _ rfl
                  have z4 : W3.cell? ⟨w.heap.size + 1, 4, none⟩ = some (.slice none 0 0) := z 4 _ rfl
                  have z5 : W3.cell? ⟨w.heap.size + 1, 5, none⟩ = some (.slice none 0 0) := z 5 _ rfl
                  have z6 : W3.cell? ⟨w.heap.size + 1, 6, none⟩ = some (.slice none 0 0) := z 6 _ rfl
                  have g0 := zf 0
                  have g1 := zf 1
                  have g2 := zf 2
                  have g3 := zf 3
                  have g4 := zf 4
                  have g5 := zf 5
                  have g6 := zf 6
                  clear z zf
                  obtain ⟨-, -, -, bd⟩ := HX.out W3 HB4.out
                  have b0 : W3.cell? ⟨w.heap.size + 2, 0, none⟩ = some (.int .i64 151) := bd 0 _ rfl
                  have b1 : W3.cell? ⟨w.heap.size + 2, 1, none⟩ = some (.int .u64 0) := bd 1 _ rfl
                  have b2 : W3.cell? ⟨w.heap.size + 2, 2, none⟩ = some (.int .u64 0) := bd 2 _ rfl
                  have b3 : W3.cell? ⟨w.heap.size + 2, 3, none⟩ = some (.bool false) := bd 3 _ rfl
                  have b4 : W3.cell? ⟨w.heap.size + 2, 4, none⟩ = some (.slice none 0 0) := bd 4 _ rfl
                  have b5 : W3.cell? ⟨w.heap.size + 2, 5, none⟩ = some (.slice none 0 0) := bd 5 _ rfl
                  have b6 : W3.cell? ⟨w.heap.size + 2, 6, none⟩ = some (.slice none 0 0) := bd 6 _ rfl
                  clear bd
                  go_wp2
                  change bodyPost _ _ _ _ _ (W3.setCells (w.heap.size + 1) 0 [.int .i64 151, .int .u64 0, .int .u64 0, .bool false, .slice none 0 0, .slice none 0 0, .slice none 0 0])
                  have hr := box_set (V := W3) (b := w.heap.size + 1) (new := [.int .i64 151, .int .u64 0, .int .u64 0, .bool false, .slice none 0 0, .slice none 0 0, .slice none 0 0]) (HX.out W3 HB4.out).2.1 (Nat.le_refl _) (HX.out W3 HB4.out).2.2.1
                  have r0 := hr 0 _ rfl
                  have r1 := hr 1 _ rfl
                  have r2 := hr 2 _ rfl
                  have r3 := hr 3 _ rfl
                  have r4 := hr 4 _ rfl
                  have r5 := hr 5 _ rfl
                  have r6 := hr 6 _ rfl
                  have hbe := box_below (l := [.int .i64 151, .int .u64 0, .int .u64 0, .bool false, .slice none 0 0, .slice none 0 0, .slice none 0 0]) (HB1.out.trans (HB4.out.mono HB1.out.size)) (show w.heap.size ≤ w.heap.size + 1 by omega)
                  clear hr
                  generalize W3.setCells (w.heap.size + 1) 0 [.int .i64 151, .int .u64 0, .int .u64 0, .bool false, .slice none 0 0, .slice none 0 0, .slice none 0 0] = W at *
                  refine bodyPost_ret (v := .agg #[.int .i64 151, .int .u64 0, .int .u64 0, .bool false, .slice none 0 0, .slice none 0 0, .slice none 0 0]) (by simp [results, Tryz.results85, go_sem, r0, r1, r2, r3, r4, r5, r6]) rfl ?_
                  rw [HE.out]
                  exact xs_same HI.out hbe (resR 151) rfl (foot_pure (fun V => resR_ok 151 V)) (Nat.le_succ _)
                · have e0 : ((strB u.nm).toList == (strB t.nm).toList) = false := by simpa using he
                  have e1 : decide ((strB u.nm).toList = (strB t.nm).toList) = false := by simpa using he
                  have HAm : Hid ((a.ms.take (k + 1)).any (fun x => eqN x.nm t.nm) = false) := by
                    show _ = _
                    rw [HAn.out, HA3.out]
                    exact e0
                  clear he
                  go_wp2
                  go_roundg (a.tn - (k + 1))
                  case measure => omega
                  case rel => exact ⟨k + 1, rfl, by go_num, by omega, HAm.out, HBj.out⟩
              · obtain rfl : k = a.tn := by omega
                have hnl : ¬ (a.tn : Int) < (a.tn : Int) := by omega
                have hnm : namedB S.tbs t.t.nm = false := by
                  unfold namedB
                  rw [← HTM.out, List.any_map]
                  have h2 := HA3.out
                  rw [List.take_of_length_le (by rw [HTL.out.1.1]; exact Nat.le_refl _)] at h2
                  exact h2
                have HE : Hid (tableM S t.t = ({ res0 with tbs := [keptT S.tbs.length t.t] }, { S with tbs := S.tbs ++ [keptT S.tbs.length t.t] })) := by
                  show _ = _
                  unfold tableM
                  rw [if_pos]
                  unfold takesB mayB
                  rw [show noN t.t.nm = false from HN.out.1, show colsB t.t.cs = true from HCb.out, show placeB t.t.ky t.t.cs = true from HN.out.2.2.2.1, show ixsB t.t.ix t.t.cs = true from HIb.out, hnm, show decide (S.tbs.length < 40) = true from decide_eq_true (by have h1 := HTn.out; have h2 := HN.out.2.2.2.2.2; omega)]
                  rfl
                have hpl2 := HN.out.2.2.2.1
                unfold placeB at hpl2
                rw [Bool.and_eq_true, decide_eq_true_eq, decide_eq_true_eq, HCs.out.1] at hpl2
                obtain ⟨kk, hky⟩ : ∃ kk : Nat, t.ky = (kk : Int) := ⟨t.ky.toNat, by omega⟩
                have hkk : kk < t.cs.n := by omega
                have hkkI : (kk : Int) < (t.cs.n : Int) := by omega
                obtain ⟨m, hm⟩ := at_of HCs.out.1 hkk
                have HMk := hide hm
                have HKy := hide hky
                have htn : a.tn < 40 := HN.out.2.2.2.2.2
                have hn9 : (a.tn : Int) ≤ 1000 := by omega
                have HBwq : Hid (Below w.heap.size w wq) := HB1.out.trans (HB3.out.mono HB1.out.size)
                have hsq : w.heap.size + 3 ≤ wq.heap.size := by have := HB3.out.size; have := HL1.out; omega
                have HSq := hide hsq
                have HIq : Hid (IsXm (fun k => (F k ∨ k = w.heap.size + 1) ∨ k = w.heap.size) w0 wq a z S) := HI.out.other (Below.keeps HBwq.out F) (fun k hk => by
                  rcases hk with (hk | rfl) | rfl
                  · exact ⟨.inl hk, Nat.lt_of_lt_of_le (HI.out.fx k hk).2 HBwq.out.size⟩
                  · exact ⟨.inr (by omega), by omega⟩
                  · exact ⟨.inr (Nat.le_refl _), by omega⟩)
                have y5 : wq.cell? ⟨a.p, 5, none⟩ = some (.slice ta a.tn a.tc) := by rw [← HTa.out]; exact HIq.out.c5
                have t0 : wq.cell? ⟨w.heap.size, 0, none⟩ = some (.int .i64 t.id) := (HX.out wq HB3.out).1 0 _ rfl
                have f0 := HFt.out wq HB3.out 0
                clear hnl hnm hpl2 hky hm hsq
                go_upto_region 35 with fail
                obtain ⟨Wa, hWa⟩ : ∃ Wa, Wa = wq.setCell ⟨w.heap.size, 0, none⟩ (.int .i64 ((a.tn : Int) + 1)) := ⟨_, rfl⟩
                rw [← hWa]
                have HKa : Hid (Keeps (fun k => k = w.heap.size) wq Wa) := by rw [hWa]; exact keepsY_cell _
                have HCa2 : Hid (Wa.cell? ⟨w.heap.size, 0, none⟩ = some (.int .i64 ((a.tn : Int) + 1)) ∧ (∀ j, j ≠ 0 → Wa.cell? ⟨w.heap.size, j, none⟩ = wq.cell? ⟨w.heap.size, j, none⟩) ∧ ∀ j, Wa.frozen? ⟨w.heap.size, j, none⟩ = false) := by
                  rw [hWa]
                  exact ⟨World.cell?_setCell_same' _ _ _ (by rw [t0]; rfl), fun j hj => World.cell?_setCell_other _ _ _ _ (by intro e; cases e; exact hj rfl), fun j => by rw [World.frozen?_setCell]; exact HFt.out wq HB3.out j⟩
                have HIw : Hid (IsXm (fun k => (F k ∨ k = w.heap.size + 1) ∨ k = w.heap.size) w0 Wa a z S) := HIq.out.other (Keeps.wider HKa.out (fun k hk => .inr hk)) (fun k hk => ⟨.inl hk, Nat.lt_of_lt_of_le (HIq.out.fx k hk).2 HKa.out.size⟩)
                clear hWa y5 t0 f0
                have hcsA := HTo.out.cs.keep HIw.out.lk.b0
                rw [HCa.out] at hcsA
                have HSrc := hide hcsA.src
                have HBig : Hid (([] : List Colm).length + t.cs.xs.length ≤ 1000000000) := by show _ ≤ _; rw [HCs.out.1]; simp; omega
                have t2 : Wa.cell? ⟨w.heap.size, 2, none⟩ = some (.slice ca t.cs.n t.cs.c) := by
                  rw [HCa2.out.2.1 2 (by omega), ← HCa.out]
                  exact (HX.out wq HB3.out).1 2 _ rfl
                have HFa2 := hide HCa2.out.2.2
                have HLa : Hid (w.heap.size < Wa.heap.size) := by show _ < _; have := HKa.out.size; have := HSq.out; omega
                clear hcsA
                go_upto_region 36 with (first
                  | (at_builtin; go_must (refine wp_joinY layCo _ rfl (.const (.slice none 0 0)) (.tmp 156) rfl Wa.heap.size (.slice none 0 0) [] rfl (ownY_nil _ _) ca t.cs.n t.cs.c t.cs.xs rfl HSrc.out HBig.out (Nat.le_refl _) ?_); intro v5 w5 hown5 hg5 hat5; obtain ⟨va, vn, vc, rfl⟩ := hown5.any3; have HO5 : Hid (OwnY layCo w5 Wa.heap.size (.slice va vn vc) t.cs.xs) := hown5; have HG5 := hide (below_noneY hg5); have u2 : w5.cell? ⟨w.heap.size, 2, none⟩ = some (.slice ca t.cs.n t.cs.c) := (HG5.out.cell (p := ⟨w.heap.size, 2, none⟩) HLa.out).trans t2; have uf : w5.frozen? ⟨w.heap.size, 2, none⟩ = false := (HG5.out.frozen (p := ⟨w.heap.size, 2, none⟩) HLa.out).trans (HFa2.out 2); clear hown5 hg5 hat5))
                have hf5 := HO5.out
                have hvn : vn = t.cs.n := by have h1 := hf5.len.1; have h2 := HCs.out.1; omega
                subst hvn
                obtain ⟨g5, hg5⟩ : ∃ g5, va = some ⟨g5, 0, none⟩ := by
                  rcases hf5.form with ⟨e, e2⟩ | ⟨g, cap, e, -⟩
                  · have h2 := HCs.out.1; rw [e2] at h2; simp at h2; omega
                  · simp only [Value.slice.injEq] at e; exact ⟨g, e.1⟩
                subst hg5
                obtain ⟨Wb, hWb⟩ : ∃ Wb, Wb = w5.setCell ⟨w.heap.size, 2, none⟩ (.slice (some ⟨g5, 0, none⟩) t.cs.n vc) := ⟨_, rfl⟩
                rw [← hWb]
                have HKb : Hid (Keeps (fun k => k = w.heap.size) w5 Wb) := by rw [hWb]; exact keepsY_cell _
                have hlt5 := hf5.lt g5 rfl
                have HCb2 : Hid (Wb.cell? ⟨w.heap.size, 2, none⟩ = some (.slice (some ⟨g5, 0, none⟩) t.cs.n vc) ∧ ∀ j, j ≠ 2 → Wb.cell? ⟨w.heap.size, j, none⟩ = Wa.cell? ⟨w.heap.size, j, none⟩) := by
                  rw [hWb]
                  exact ⟨World.cell?_setCell_same' _ _ _ (by rw [u2]; rfl), fun j hj => (World.cell?_setCell_other _ _ _ _ (by intro e; cases e; exact hj rfl)).trans (HG5.out.cell (p := ⟨w.heap.size, j, none⟩) HLa.out)⟩
                have HOb : Hid (OwnY layCo Wb Wa.heap.size (.slice (some ⟨g5, 0, none⟩) t.cs.n vc) t.cs.xs) := HO5.out.lies (fun g hg => HKb.out.block g (HO5.out.lt g hg).2 (fun e => by have := (HO5.out.lt g hg).1; have := HLa.out; omega))
                have hKab : Keeps (fun k => (F k ∨ k = w.heap.size + 1) ∨ k = w.heap.size) Wa Wb := kpThen (Below.keeps HG5.out _) (fun k hk => .inl hk) (Keeps.wider HKb.out (fun k hk => .inr hk) : Keeps (fun k => (F k ∨ k = w.heap.size + 1) ∨ k = w.heap.size) w5 Wb)
                have HIb2 : Hid (IsXm (fun k => ((F k ∨ k = w.heap.size + 1) ∨ k = w.heap.size) ∨ k = g5) w0 Wb a z S) := HIw.out.other hKab (fun k hk => by
                  rcases hk with hk | rfl
                  · exact ⟨.inl hk, Nat.lt_of_lt_of_le (HIw.out.fx k hk).2 hKab.size⟩
                  · exact ⟨.inr hlt5.1, Nat.lt_of_lt_of_le hlt5.2 HKb.out.size⟩)
                have HL5 : Hid (Wa.heap.size ≤ g5 ∧ g5 < Wb.heap.size) := ⟨hlt5.1, Nat.lt_of_lt_of_le hlt5.2 HKb.out.size⟩
                have hC5 : CellsY layCo Wb g5 0 t.cs.xs := by
                  rcases HOb.out.form with ⟨e, _⟩ | ⟨g', cap', e, -, -, -, -, hC, -⟩
                  · cases e
                  · simp only [Value.slice.injEq, Option.some.injEq, Addr.mk.injEq, and_true] at e; obtain ⟨rfl, -, -⟩ := e; exact hC
                have hz5 : ∀ i, Wb.frozen? ⟨g5, i, none⟩ = false := by
                  rcases HOb.out.form with ⟨e, _⟩ | ⟨g', cap', e, -, -, -, -, -, hz⟩
                  · cases e
                  · simp only [Value.slice.injEq, Option.some.injEq, Addr.mk.injEq, and_true] at e; obtain ⟨rfl, -, -⟩ := e; exact hz
                have c2 : Wb.cell? ⟨g5, kk * 3 + 2, none⟩ = some (.bool m.nn) := by
                  have h2 := hC5 kk m HMk.out 2 _ rfl
                  rwa [Nat.zero_add] at h2
                have cf := hz5 (kk * 3 + 2)
                have t2 := HCb2.out.1
                have t3 : Wb.cell? ⟨w.heap.size, 3, none⟩ = some (.int .i64 (kk : Int)) := by
                  rw [HCb2.out.2 3 (by omega), HCa2.out.2.1 3 (by omega), ← HKy.out]
                  exact (HX.out wq HB3.out).1 3 _ rfl
                clear hWb hf5 hlt5 hC5 hz5 u2 uf
                go_upto_region 37 with fail
                obtain ⟨Wc, hWc⟩ : ∃ Wc, Wc = Wb.setCell ⟨g5, kk * 3 + 2, none⟩ (.bool true) := ⟨_, rfl⟩
                rw [← hWc]
                have HKc : Hid (Keeps (fun k => k = g5) Wb Wc) := by rw [hWc]; exact keepsY_cell _
                have HOc : Hid (OwnY layCo Wc Wa.heap.size (.slice (some ⟨g5, 0, none⟩) t.cs.n vc) (t.cs.xs.set kk { m with nn := true })) := by
                  show OwnY _ _ _ _ _
                  rw [hWc]
                  exact HOb.out.cell kk 2 m { m with nn := true } (.bool true) HMk.out (by decide) rfl (kk * 3 + 2) rfl
                obtain ⟨u, hu⟩ : ∃ u : MTb, u = ⟨(a.tn : Int) + 1, t.nm, ⟨some ⟨g5, 0, none⟩, t.cs.n, vc, t.cs.xs.set kk { m with nn := true }⟩, t.ky, t.ix⟩ := ⟨_, rfl⟩
                have HUt : Hid (u.t = keptT S.tbs.length t.t) := by
                  show _ = _
                  rw [hu, ← HTn.out]
                  exact kept_set HKy.out HMk.out _ _ _
                have HIc : Hid (IsXm (fun k => ((F k ∨ k = w.heap.size + 1) ∨ k = w.heap.size) ∨ k = g5) w0 Wc a z S) := HIb2.out.other (Keeps.wider HKc.out (fun k hk => .inr hk)) (fun k hk => ⟨.inl hk, Nat.lt_of_lt_of_le (HIb2.out.fx k hk).2 HKc.out.size⟩)
                have hgw : ¬ w.heap.size = g5 := by have := HL5.out.1; have := HLa.out; omega
                have hbo : Wc.heap[w.heap.size]? = Wb.heap[w.heap.size]? := HKc.out.block _ (by have := HL5.out; have := HLa.out; omega) hgw
                have HBox : Hid (Wc.rangeAt w.heap.size 0 (layTb.cells u)) := by
                  have hs : ∀ j v, j ≠ 2 → j ≠ 0 → (layTb.cells t)[j]? = some v → Wc.cell? ⟨w.heap.size, j, none⟩ = some v := fun j v h2 h0 hv => by
                    have h1 := (HX.out wq HB3.out).1 j v hv
                    rw [Nat.zero_add] at h1
                    exact (World.cell?_of_block (a := ⟨w.heap.size, j, none⟩) hbo).trans ((HCb2.out.2 j h2).trans ((HCa2.out.2.1 j h0).trans h1))
                  intro j v hv
                  rw [Nat.zero_add]
                  rw [hu] at hv
                  match j, hv with
                  | 0, hv => exact ((World.cell?_of_block (a := ⟨w.heap.size, 0, none⟩) hbo).trans ((HCb2.out.2 0 (by omega)).trans HCa2.out.1)).trans hv
                  | 1, hv => exact hs 1 v (by omega) (by omega) hv
                  | 2, hv => exact ((World.cell?_of_block (a := ⟨w.heap.size, 2, none⟩) hbo).trans HCb2.out.1).trans hv
                  | 3, hv => exact hs 3 v (by omega) (by omega) hv
                  | 4, hv => exact hs 4 v (by omega) (by omega) hv
                  | j + 5, hv => cases hv
                have HUo : Hid (Foot (fun k => a.X k ∨ (F k ∨ k = w.heap.size + 1)) Wc (fun V => u.ok V)) := by
                  have h1 := foot_ownY (X := fun k => a.X k ∨ (F k ∨ k = w.heap.size + 1)) HOc.out (fun k hk => by
                    rcases hk with hk | hk
                    · exact (HIw.out.xl k hk).2
                    · exact (HIw.out.fx k (.inl hk)).2)
                  have h2 := (outY HTo.out.ix (X := fun k => a.X k ∨ (F k ∨ k = w.heap.size + 1)) (fun k hk => by
                    rcases hk with hk | hk
                    · exact (HIc.out.xl k hk).1
                    · exact (HIc.out.fx k (.inl (.inl hk))).1)).keep HIc.out.lk.b0
                  refine (h1.and h2).imp (fun V hV => ?_)
                  rw [hu]
                  exact ⟨hV.1, hV.2⟩
                have HYu := hide hu
                clear hWc hbo hu c2 cf t2 t3 hKab
                obtain ⟨cb, hcb, hcY, hcf⟩ := isY_cut3 layTb HIc.out.tb.now.1 HIc.out.ft a.tn (Nat.le_refl _)
                have hcb : ∀ W, (Instr.sliceAt 36 (.slice a.ta a.tn a.tc) none (some (.int .i64 (a.tn : Int))) (some (.int .i64 (a.tn : Int)))).run Tryz.prog W = .ok (.slice cb a.tn a.tn) W := hcb
                rw [List.take_of_length_le (by rw [HTL.out.1.1]; exact Nat.le_refl _)] at hcY
                have HCY := hide hcY
                have HCF := hide hcf
                have HV : Hid (∀ V, Below Wc.drew.heap.size Wc.drew V → V.cell? ⟨a.p, 5, none⟩ = some (.slice a.ta a.tn a.tc) ∧ V.rangeAt w.heap.size 0 (layTb.cells u)) := fun V hV => by
                  have hV2 := bel_undQ hV
                  exact ⟨(HIc.out.keep hV2).c5, rangeY_same HBox.out (hV2.block _ (by have := HL5.out; have := HLa.out; have := HKc.out.size; omega))⟩
                have HN7 : Hid (Below Wc.drew.heap.size Wc.drew (Wc.drew.alloc (.cells #[.int .i64 u.id, .string (strB u.nm), .slice u.cs.a u.cs.n u.cs.c, .int .i64 u.ky, .slice u.ix.a u.ix.n u.ix.c] 48))) := new_below _ _
                have HOne := hide (ownY_one (L := layTb) Wc.drew Wc.drew.heap.size #[.int .i64 u.id, .string (strB u.nm), .slice u.cs.a u.cs.n u.cs.c, .int .i64 u.ky, .slice u.ix.a u.ix.n u.ix.c] u (Nat.le_refl _) rfl)
                have htm2 : a.ms.length = a.tn := HTL.out.1.1
                have HTm2 := hide htm2
                clear hcY hcf htm2
                refine startX 21 (by kernel_rfl) ?_
                refine' takeX (E := 21) (i := 0) (v := _) rfl (by kernel_rfl) (by kernel_rfl) (by kernel_rfl) (by kernel_rfl) (fun _ _ _ h => h) (by rfl) (Below.refl _ _) ?_ ?_; rotate_left
                · (intro V hSV; have hv := HV.out V hSV; have k5 := hv.1; have u0 : V.cell? ⟨w.heap.size, 0, none⟩ = some (.int .i64 u.id) := hv.2 0 _ rfl; have u1 : V.cell? ⟨w.heap.size, 1, none⟩ = some (.string (strB u.nm)) := hv.2 1 _ rfl; have u2 : V.cell? ⟨w.heap.size, 2, none⟩ = some (.slice u.cs.a u.cs.n u.cs.c) := hv.2 2 _ rfl; have u3 : V.cell? ⟨w.heap.size, 3, none⟩ = some (.int .i64 u.ky) := hv.2 3 _ rfl; have u4 : V.cell? ⟨w.heap.size, 4, none⟩ = some (.slice u.ix.a u.ix.n u.ix.c) := hv.2 4 _ rfl; clear hv; go_simp; all_goals (with_reducible rfl))
                (try simp only [Act.put, List.setIfInBounds_toArray, List.set_cons_zero, List.set_cons_succ])
                refine' takeX (E := 21) (i := 1) (v := _) rfl (by kernel_rfl) (by kernel_rfl) (by kernel_rfl) (by kernel_rfl) (fun _ _ _ h => h) (by rfl) (Below.refl _ _) ?_ ?_; rotate_left
                · (intro V hSV; have hv := HV.out V hSV; have k5 := hv.1; have u0 : V.cell? ⟨w.heap.size, 0, none⟩ = some (.int .i64 u.id) := hv.2 0 _ rfl; have u1 : V.cell? ⟨w.heap.size, 1, none⟩ = some (.string (strB u.nm)) := hv.2 1 _ rfl; have u2 : V.cell? ⟨w.heap.size, 2, none⟩ = some (.slice u.cs.a u.cs.n u.cs.c) := hv.2 2 _ rfl; have u3 : V.cell? ⟨w.heap.size, 3, none⟩ = some (.int .i64 u.ky) := hv.2 3 _ rfl; have u4 : V.cell? ⟨w.heap.size, 4, none⟩ = some (.slice u.ix.a u.ix.n u.ix.c) := hv.2 4 _ rfl; clear hv; go_simp; all_goals (with_reducible rfl))
                (try simp only [Act.put, List.setIfInBounds_toArray, List.set_cons_zero, List.set_cons_succ])
                refine' takeX (E := 21) (i := 2) (v := _) rfl (by kernel_rfl) (by kernel_rfl) (by kernel_rfl) (by kernel_rfl) (fun _ _ _ h => h) (by rfl) (Below.refl _ _) ?_ ?_; rotate_left
                · (intro V hSV; have hv := HV.out V hSV; have k5 := hv.1; have u0 : V.cell? ⟨w.heap.size, 0, none⟩ = some (.int .i64 u.id) := hv.2 0 _ rfl; have u1 : V.cell? ⟨w.heap.size, 1, none⟩ = some (.string (strB u.nm)) := hv.2 1 _ rfl; have u2 : V.cell? ⟨w.heap.size, 2, none⟩ = some (.slice u.cs.a u.cs.n u.cs.c) := hv.2 2 _ rfl; have u3 : V.cell? ⟨w.heap.size, 3, none⟩ = some (.int .i64 u.ky) := hv.2 3 _ rfl; have u4 : V.cell? ⟨w.heap.size, 4, none⟩ = some (.slice u.ix.a u.ix.n u.ix.c) := hv.2 4 _ rfl; clear hv; go_simp; all_goals (with_reducible rfl))
                (try simp only [Act.put, List.setIfInBounds_toArray, List.set_cons_zero, List.set_cons_succ])
                refine' takeX (E := 21) (i := 3) (v := _) rfl (by kernel_rfl) (by kernel_rfl) (by kernel_rfl) (by kernel_rfl) (fun _ _ _ h => h) (by rfl) (Below.refl _ _) ?_ ?_; rotate_left
                · (intro V hSV; have hv := HV.out V hSV; have k5 := hv.1; have u0 : V.cell? ⟨w.heap.size, 0, none⟩ = some (.int .i64 u.id) := hv.2 0 _ rfl; have u1 : V.cell? ⟨w.heap.size, 1, none⟩ = some (.string (strB u.nm)) := hv.2 1 _ rfl; have u2 : V.cell? ⟨w.heap.size, 2, none⟩ = some (.slice u.cs.a u.cs.n u.cs.c) := hv.2 2 _ rfl; have u3 : V.cell? ⟨w.heap.size, 3, none⟩ = some (.int .i64 u.ky) := hv.2 3 _ rfl; have u4 : V.cell? ⟨w.heap.size, 4, none⟩ = some (.slice u.ix.a u.ix.n u.ix.c) := hv.2 4 _ rfl; clear hv; go_simp; all_goals (with_reducible rfl))
                (try simp only [Act.put, List.setIfInBounds_toArray, List.set_cons_zero, List.set_cons_succ])
                refine' takeX (E := 21) (i := 4) (v := _) rfl (by kernel_rfl) (by kernel_rfl) (by kernel_rfl) (by kernel_rfl) (fun _ _ _ h => h) (by rfl) (Below.refl _ _) ?_ ?_; rotate_left
                · (intro V hSV; have hv := HV.out V hSV; have k5 := hv.1; have u0 : V.cell? ⟨w.heap.size, 0, none⟩ = some (.int .i64 u.id) := hv.2 0 _ rfl; have u1 : V.cell? ⟨w.heap.size, 1, none⟩ = some (.string (strB u.nm)) := hv.2 1 _ rfl; have u2 : V.cell? ⟨w.heap.size, 2, none⟩ = some (.slice u.cs.a u.cs.n u.cs.c) := hv.2 2 _ rfl; have u3 : V.cell? ⟨w.heap.size, 3, none⟩ = some (.int .i64 u.ky) := hv.2 3 _ rfl; have u4 : V.cell? ⟨w.heap.size, 4, none⟩ = some (.slice u.ix.a u.ix.n u.ix.c) := hv.2 4 _ rfl; clear hv; go_simp; all_goals (with_reducible rfl))
                (try simp only [Act.put, List.setIfInBounds_toArray, List.set_cons_zero, List.set_cons_succ])
                refine' takeX (E := 21) (i := 5) (v := _) rfl (by kernel_rfl) (by kernel_rfl) (by kernel_rfl) (by kernel_rfl) (fun _ _ _ h => h) (by rfl) (Below.refl _ _) ?_ ?_; rotate_left
                · (intro V hSV; have hv := HV.out V hSV; have k5 := hv.1; have u0 : V.cell? ⟨w.heap.size, 0, none⟩ = some (.int .i64 u.id) := hv.2 0 _ rfl; have u1 : V.cell? ⟨w.heap.size, 1, none⟩ = some (.string (strB u.nm)) := hv.2 1 _ rfl; have u2 : V.cell? ⟨w.heap.size, 2, none⟩ = some (.slice u.cs.a u.cs.n u.cs.c) := hv.2 2 _ rfl; have u3 : V.cell? ⟨w.heap.size, 3, none⟩ = some (.int .i64 u.ky) := hv.2 3 _ rfl; have u4 : V.cell? ⟨w.heap.size, 4, none⟩ = some (.slice u.ix.a u.ix.n u.ix.c) := hv.2 4 _ rfl; clear hv; go_simp; all_goals (with_reducible rfl))
                (try simp only [Act.put, List.setIfInBounds_toArray, List.set_cons_zero, List.set_cons_succ])
                refine' takeX (E := 21) (i := 6) (v := _) rfl (by kernel_rfl) (by kernel_rfl) (by kernel_rfl) (by kernel_rfl) (fun _ _ _ h => h) (by rfl) (Below.refl _ _) ?_ ?_; rotate_left
                · (intro V hSV; have hv := HV.out V hSV; have k5 := hv.1; have u0 : V.cell? ⟨w.heap.size, 0, none⟩ = some (.int .i64 u.id) := hv.2 0 _ rfl; have u1 : V.cell? ⟨w.heap.size, 1, none⟩ = some (.string (strB u.nm)) := hv.2 1 _ rfl; have u2 : V.cell? ⟨w.heap.size, 2, none⟩ = some (.slice u.cs.a u.cs.n u.cs.c) := hv.2 2 _ rfl; have u3 : V.cell? ⟨w.heap.size, 3, none⟩ = some (.int .i64 u.ky) := hv.2 3 _ rfl; have u4 : V.cell? ⟨w.heap.size, 4, none⟩ = some (.slice u.ix.a u.ix.n u.ix.c) := hv.2 4 _ rfl; clear hv; go_simp; all_goals (with_reducible rfl))
                (try simp only [Act.put, List.setIfInBounds_toArray, List.set_cons_zero, List.set_cons_succ])
                refine' takeX (E := 21) (i := 7) (v := _) rfl (by kernel_rfl) (by kernel_rfl) (by kernel_rfl) (by kernel_rfl) (fun _ _ _ h => h) (by rfl) (Below.refl _ _) ?_ ?_; rotate_left
                · (intro V hSV; have hv := HV.out V hSV; have k5 := hv.1; have u0 : V.cell? ⟨w.heap.size, 0, none⟩ = some (.int .i64 u.id) := hv.2 0 _ rfl; have u1 : V.cell? ⟨w.heap.size, 1, none⟩ = some (.string (strB u.nm)) := hv.2 1 _ rfl; have u2 : V.cell? ⟨w.heap.size, 2, none⟩ = some (.slice u.cs.a u.cs.n u.cs.c) := hv.2 2 _ rfl; have u3 : V.cell? ⟨w.heap.size, 3, none⟩ = some (.int .i64 u.ky) := hv.2 3 _ rfl; have u4 : V.cell? ⟨w.heap.size, 4, none⟩ = some (.slice u.ix.a u.ix.n u.ix.c) := hv.2 4 _ rfl; clear hv; go_simp; all_goals (with_reducible rfl))
                (try simp only [Act.put, List.setIfInBounds_toArray, List.set_cons_zero, List.set_cons_succ])
                refine' takeX (E := 21) (i := 8) (v := _) rfl (by kernel_rfl) (by kernel_rfl) (by kernel_rfl) (by kernel_rfl) (fun _ _ _ h => h) (by rfl) (Below.refl _ _) ?_ ?_; rotate_left
                · (intro V hSV; have hv := HV.out V hSV; have k5 := hv.1; have u0 : V.cell? ⟨w.heap.size, 0, none⟩ = some (.int .i64 u.id) := hv.2 0 _ rfl; have u1 : V.cell? ⟨w.heap.size, 1, none⟩ = some (.string (strB u.nm)) := hv.2 1 _ rfl; have u2 : V.cell? ⟨w.heap.size, 2, none⟩ = some (.slice u.cs.a u.cs.n u.cs.c) := hv.2 2 _ rfl; have u3 : V.cell? ⟨w.heap.size, 3, none⟩ = some (.int .i64 u.ky) := hv.2 3 _ rfl; have u4 : V.cell? ⟨w.heap.size, 4, none⟩ = some (.slice u.ix.a u.ix.n u.ix.c) := hv.2 4 _ rfl; clear hv; go_simp; all_goals (with_reducible rfl))
                (try simp only [Act.put, List.setIfInBounds_toArray, List.set_cons_zero, List.set_cons_succ])
                refine' takeX (E := 21) (i := 9) (v := _) rfl (by kernel_rfl) (by kernel_rfl) (by kernel_rfl) (by kernel_rfl) (fun _ _ _ h => h) (by rfl) (Below.refl _ _) ?_ ?_; rotate_left
                · (intro V hSV; have hv := HV.out V hSV; have k5 := hv.1; have u0 : V.cell? ⟨w.heap.size, 0, none⟩ = some (.int .i64 u.id) := hv.2 0 _ rfl; have u1 : V.cell? ⟨w.heap.size, 1, none⟩ = some (.string (strB u.nm)) := hv.2 1 _ rfl; have u2 : V.cell? ⟨w.heap.size, 2, none⟩ = some (.slice u.cs.a u.cs.n u.cs.c) := hv.2 2 _ rfl; have u3 : V.cell? ⟨w.heap.size, 3, none⟩ = some (.int .i64 u.ky) := hv.2 3 _ rfl; have u4 : V.cell? ⟨w.heap.size, 4, none⟩ = some (.slice u.ix.a u.ix.n u.ix.c) := hv.2 4 _ rfl; clear hv; go_simp; all_goals (with_reducible rfl))
                (try simp only [Act.put, List.setIfInBounds_toArray, List.set_cons_zero, List.set_cons_succ])
                refine' takeX (E := 21) (i := 10) (v := _) rfl (by kernel_rfl) (by kernel_rfl) (by kernel_rfl) (by kernel_rfl) (fun _ _ _ h => h) (by rfl) (Below.refl _ _) ?_ ?_; rotate_left
                · (intro V hSV; have hv := HV.out V hSV; have k5 := hv.1; have u0 : V.cell? ⟨w.heap.size, 0, none⟩ = some (.int .i64 u.id) := hv.2 0 _ rfl; have u1 : V.cell? ⟨w.heap.size, 1, none⟩ = some (.string (strB u.nm)) := hv.2 1 _ rfl; have u2 : V.cell? ⟨w.heap.size, 2, none⟩ = some (.slice u.cs.a u.cs.n u.cs.c) := hv.2 2 _ rfl; have u3 : V.cell? ⟨w.heap.size, 3, none⟩ = some (.int .i64 u.ky) := hv.2 3 _ rfl; have u4 : V.cell? ⟨w.heap.size, 4, none⟩ = some (.slice u.ix.a u.ix.n u.ix.c) := hv.2 4 _ rfl; clear hv; go_simp; all_goals (with_reducible rfl))
                (try simp only [Act.put, List.setIfInBounds_toArray, List.set_cons_zero, List.set_cons_succ])
                refine' takeX (E := 21) (i := 11) (v := _) rfl (by kernel_rfl) (by kernel_rfl) (by kernel_rfl) (by kernel_rfl) (fun _ _ _ h => h) (by rfl) (Below.refl _ _) ?_ ?_; rotate_left
                · (intro V hSV; have hv := HV.out V hSV; have k5 := hv.1; have u0 : V.cell? ⟨w.heap.size, 0, none⟩ = some (.int .i64 u.id) := hv.2 0 _ rfl; have u1 : V.cell? ⟨w.heap.size, 1, none⟩ = some (.string (strB u.nm)) := hv.2 1 _ rfl; have u2 : V.cell? ⟨w.heap.size, 2, none⟩ = some (.slice u.cs.a u.cs.n u.cs.c) := hv.2 2 _ rfl; have u3 : V.cell? ⟨w.heap.size, 3, none⟩ = some (.int .i64 u.ky) := hv.2 3 _ rfl; have u4 : V.cell? ⟨w.heap.size, 4, none⟩ = some (.slice u.ix.a u.ix.n u.ix.c) := hv.2 4 _ rfl; clear hv; go_simp; all_goals (with_reducible rfl))
                (try simp only [Act.put, List.setIfInBounds_toArray, List.set_cons_zero, List.set_cons_succ])
                refine' takeX (E := 21) (i := 12) (v := _) rfl (by kernel_rfl) (by kernel_rfl) (by kernel_rfl) (by kernel_rfl) (fun _ _ _ h => h) (by rfl) (Below.refl _ _) ?_ ?_; rotate_left
                · (intro V hSV; have hv := HV.out V hSV; have k5 := hv.1; have u0 : V.cell? ⟨w.heap.size, 0, none⟩ = some (.int .i64 u.id) := hv.2 0 _ rfl; have u1 : V.cell? ⟨w.heap.size, 1, none⟩ = some (.string (strB u.nm)) := hv.2 1 _ rfl; have u2 : V.cell? ⟨w.heap.size, 2, none⟩ = some (.slice u.cs.a u.cs.n u.cs.c) := hv.2 2 _ rfl; have u3 : V.cell? ⟨w.heap.size, 3, none⟩ = some (.int .i64 u.ky) := hv.2 3 _ rfl; have u4 : V.cell? ⟨w.heap.size, 4, none⟩ = some (.slice u.ix.a u.ix.n u.ix.c) := hv.2 4 _ rfl; clear hv; go_simp; all_goals (with_reducible rfl))
                (try simp only [Act.put, List.setIfInBounds_toArray, List.set_cons_zero, List.set_cons_succ])
                refine' takeX (E := 21) (i := 13) (v := _) rfl (by kernel_rfl) (by kernel_rfl) (by kernel_rfl) (by kernel_rfl) (fun _ _ _ h => h) (by rfl) (Below.refl _ _) ?_ ?_; rotate_left
                · (intro V hSV; have hv := HV.out V hSV; have k5 := hv.1; have u0 : V.cell? ⟨w.heap.size, 0, none⟩ = some (.int .i64 u.id) := hv.2 0 _ rfl; have u1 : V.cell? ⟨w.heap.size, 1, none⟩ = some (.string (strB u.nm)) := hv.2 1 _ rfl; have u2 : V.cell? ⟨w.heap.size, 2, none⟩ = some (.slice u.cs.a u.cs.n u.cs.c) := hv.2 2 _ rfl; have u3 : V.cell? ⟨w.heap.size, 3, none⟩ = some (.int .i64 u.ky) := hv.2 3 _ rfl; have u4 : V.cell? ⟨w.heap.size, 4, none⟩ = some (.slice u.ix.a u.ix.n u.ix.c) := hv.2 4 _ rfl; clear hv; go_simp; all_goals (with_reducible rfl))
                (try simp only [Act.put, List.setIfInBounds_toArray, List.set_cons_zero, List.set_cons_succ])
                refine' takeX (E := 21) (i := 14) (v := _) rfl (by kernel_rfl) (by kernel_rfl) (by kernel_rfl) (by kernel_rfl) (fun _ _ _ h => h) (by rfl) (Below.refl _ _) ?_ ?_; rotate_left
                · (intro V hSV; have hv := HV.out V hSV; have k5 := hv.1; have u0 : V.cell? ⟨w.heap.size, 0, none⟩ = some (.int .i64 u.id) := hv.2 0 _ rfl; have u1 : V.cell? ⟨w.heap.size, 1, none⟩ = some (.string (strB u.nm)) := hv.2 1 _ rfl; have u2 : V.cell? ⟨w.heap.size, 2, none⟩ = some (.slice u.cs.a u.cs.n u.cs.c) := hv.2 2 _ rfl; have u3 : V.cell? ⟨w.heap.size, 3, none⟩ = some (.int .i64 u.ky) := hv.2 3 _ rfl; have u4 : V.cell? ⟨w.heap.size, 4, none⟩ = some (.slice u.ix.a u.ix.n u.ix.c) := hv.2 4 _ rfl; clear hv; go_simp; all_goals (with_reducible rfl))
                (try simp only [Act.put, List.setIfInBounds_toArray, List.set_cons_zero, List.set_cons_succ])
                refine' takeX (E := 21) (i := 15) (v := _) rfl (by kernel_rfl) (by kernel_rfl) (by kernel_rfl) (by kernel_rfl) (fun _ _ _ h => h) (by rfl) (Below.refl _ _) ?_ ?_; rotate_left
                · (intro V hSV; have hv := HV.out V hSV; have k5 := hv.1; have u0 : V.cell? ⟨w.heap.size, 0, none⟩ = some (.int .i64 u.id) := hv.2 0 _ rfl; have u1 : V.cell? ⟨w.heap.size, 1, none⟩ = some (.string (strB u.nm)) := hv.2 1 _ rfl; have u2 : V.cell? ⟨w.heap.size, 2, none⟩ = some (.slice u.cs.a u.cs.n u.cs.c) := hv.2 2 _ rfl; have u3 : V.cell? ⟨w.heap.size, 3, none⟩ = some (.int .i64 u.ky) := hv.2 3 _ rfl; have u4 : V.cell? ⟨w.heap.size, 4, none⟩ = some (.slice u.ix.a u.ix.n u.ix.c) := hv.2 4 _ rfl; clear hv; go_simp; all_goals (with_reducible rfl))
                (try simp only [Act.put, List.setIfInBounds_toArray, List.set_cons_zero, List.set_cons_succ])
                refine' takeX (E := 21) (i := 16) (v := _) rfl (by kernel_rfl) (by kernel_rfl) (by kernel_rfl) (by kernel_rfl) (fun _ _ _ h => h) (by rfl) (Below.refl _ _) ?_ ?_; rotate_left
                · (intro V hSV; have hv := HV.out V hSV; have k5 := hv.1; have u0 : V.cell? ⟨w.heap.size, 0, none⟩ = some (.int .i64 u.id) := hv.2 0 _ rfl; have u1 : V.cell? ⟨w.heap.size, 1, none⟩ = some (.string (strB u.nm)) := hv.2 1 _ rfl; have u2 : V.cell? ⟨w.heap.size, 2, none⟩ = some (.slice u.cs.a u.cs.n u.cs.c) := hv.2 2 _ rfl; have u3 : V.cell? ⟨w.heap.size, 3, none⟩ = some (.int .i64 u.ky) := hv.2 3 _ rfl; have u4 : V.cell? ⟨w.heap.size, 4, none⟩ = some (.slice u.ix.a u.ix.n u.ix.c) := hv.2 4 _ rfl; clear hv; go_simp; all_goals (with_reducible rfl))
                (try simp only [Act.put, List.setIfInBounds_toArray, List.set_cons_zero, List.set_cons_succ])
                refine callX (i := 17) rfl (by kernel_rfl) (fun K hK => ?_)
                go_simp
                refine hK.out _ _ (fun _ => HN7.out) ?_
                clear hK K
                (try simp only [Act.put, List.setIfInBounds_toArray, List.set_cons_zero, List.set_cons_succ])
                refine callX (i := 18) rfl (by kernel_rfl) (fun K hK => ?_)
                refine step_growY layTb _ (by rfl) (.tmp 180) (.tmp 182) (by rfl) cb a.tn a.ms (by rfl) (HCY.out.keep (bel_undQ HN7.out)) (fun _ => HCF.out) (some ⟨Wc.drew.heap.size, 0, none⟩) 1 1 [u] (by rfl) HOne.out.is.src (by omega) (by simp; have := HTm2.out; omega) ?_
                intro v8 w8 hown8 hg8
                obtain ⟨a8, n8, c8, rfl⟩ := hown8.any3
                have HO8 := hide hown8
                have hb8 := below_noneY hg8
                have HB8 := hide hb8
                have hb78 := HN7.out.trans (hb8.mono HN7.out.size)
                have c08 := (HIc.out.keep (bel_undQ hb78)).c5
                have f08 := (HIc.out.keep (bel_undQ hb78)).lk.fz 5
                refine hK.out _ _ (fun _ => hb78) ?_
                clear hK K hown8 hg8
                (try simp only [Act.put, List.setIfInBounds_toArray, List.set_cons_zero, List.set_cons_succ])
                refine callX (i := 19) rfl (by kernel_rfl) (fun K hK => ?_)
                go_simp
                refine hK.out _ _ (fun _ => hb78) ?_
                clear hK K
                (try simp only [Act.put, List.setIfInBounds_toArray, List.set_cons_zero, List.set_cons_succ])
                refine callX (i := 20) rfl (by kernel_rfl) (fun K hK => ?_)
                go_simp
                refine hK.out _ _ (fun _ => hb78) ?_
                clear hK K
                (try simp only [Act.put, List.setIfInBounds_toArray, List.set_cons_zero, List.set_cons_succ])
                refine callX (i := 21) rfl (by kernel_rfl) (fun K hK => ?_)
                go_simp
                refine hK.out _ _ (fun h => absurd rfl h) ?_
                clear hK K
                (try simp only [Act.put, List.setIfInBounds_toArray, List.set_cons_zero, List.set_cons_succ])
                refine doneX (by kernel_rfl) ?_ _
                obtain ⟨W9, hW9⟩ : ∃ W9, W9 = w8.setCell ⟨a.p, 5, none⟩ (.slice a8 n8 c8) := ⟨_, rfl⟩
                rw [← hW9]
                have HI7 := hide ((HIc.out.keep (bel_undQ HN7.out)).less (G := fun k => F k ∨ k = w.heap.size + 1) (fun k hk => .inl (.inl hk)))
                have HQ9 : Hid (TxQ layTb (Wc.drew.alloc (.cells #[.int .i64 u.id, .string (strB u.nm), .slice u.cs.a u.cs.n u.cs.c, .int .i64 u.ky, .slice u.ix.a u.ix.n u.ix.c] 48)) a.p 5 (a.ms ++ [u]) W9 (.slice a8 n8 c8)) := by
                  show TxQ _ _ _ _ _ _ _
                  rw [hW9]
                  exact txQ_set HB8.out HI7.out.lt HO8.out (by rw [HI7.out.c5]; rfl)
                clear hW9 c08 f08 hb78 hb8
                have hp9 : w.heap.size + 1 < wq.heap.size := by have := HSq.out; omega
                have hs9 := HKa.out.size
                have hs10 := HG5.out.size
                have hs11 := HKb.out.size
                have hs12 := HKc.out.size
                have hs13 := (bel_undQ HN7.out).size
                have hg5 := HL5.out.1
                have hbb : W9.heap[w.heap.size + 1]? = wq.heap[w.heap.size + 1]? := (HQ9.out.kp.block _ (by omega) (by show ¬ w.heap.size + 1 = a.p; omega)).trans (((bel_undQ HN7.out).block _ (by omega)).trans ((HKc.out.block _ (by omega) (by show ¬ w.heap.size + 1 = g5; omega)).trans ((HKb.out.block _ (by omega) (by show ¬ w.heap.size + 1 = w.heap.size; omega)).trans ((HG5.out.block _ (by omega)).trans (HKa.out.block _ hp9 (by show ¬ w.heap.size + 1 = w.heap.size; omega))))))
                have hbt : W9.heap[w.heap.size]? = Wc.heap[w.heap.size]? := (HQ9.out.kp.block _ (by omega) (by show ¬ w.heap.size = a.p; omega)).trans ((bel_undQ HN7.out).block _ (by omega))
                have HBox9 := hide (rangeY_same HBox.out hbt)
                have HZ5 : Hid (W9.rangeAt (w.heap.size + 1) 0 [.int .i64 0, .int .u64 0, .int .u64 0, .bool false, .slice none 0 0, .slice none 0 0, .slice none 0 0]) := rangeY_same (HX.out wq HB3.out).2.1 hbb
                have HF5 : Hid (∀ j, W9.frozen? ⟨w.heap.size + 1, j, none⟩ = false) := fun j => (World.frozen?_of_block (a := ⟨w.heap.size + 1, j, none⟩) hbb).trans ((HX.out wq HB3.out).2.2.1 j)
                have HWs : Hid (w.heap.size + 1 < W9.heap.size) := by show _ < _; have := HQ9.out.kp.size; omega
                have HKw : Hid (Keeps a.X w W9) := by
                  have k1 : Keeps (fun k => a.X k ∨ w.heap.size ≤ k) w wq := Below.keeps HBwq.out _
                  have k2 : Keeps (fun k => a.X k ∨ w.heap.size ≤ k) w W9 := kpThen (kpThen (kpThen (kpThen (kpThen (kpThen k1 (fun k hk => .inl (.inr (by rw [show k = w.heap.size from hk]; exact Nat.le_refl _))) HKa.out) (fun k hk => .inl hk) (Below.keeps HG5.out _)) (fun k hk => .inl (.inr (by rw [show k = w.heap.size from hk]; exact Nat.le_refl _))) HKb.out) (fun k hk => .inl (.inr (by rw [show k = g5 from hk]; omega))) HKc.out) (fun k hk => .inl hk) (Below.keeps (bel_undQ HN7.out) _)) (fun k hk => .inl (.inl (.inl hk))) HQ9.out.kp
                  exact ⟨k2.os, k2.tape, k2.output, k2.size, fun k h1 h2 => k2.block k h1 (fun h3 => by
                    rcases h3 with h3 | h3
                    · exact h2 h3
                    · omega)⟩
                clear hbb hbt hs9 hs10 hs11 hs12 hs13 hg5 hp9
                have q0 : W9.cell? ⟨w.heap.size, 0, none⟩ = some (.int .i64 u.id) := HBox9.out 0 _ rfl
                have q1 : W9.cell? ⟨w.heap.size, 1, none⟩ = some (.string (strB u.nm)) := HBox9.out 1 _ rfl
                have q2 : W9.cell? ⟨w.heap.size, 2, none⟩ = some (.slice u.cs.a u.cs.n u.cs.c) := HBox9.out 2 _ rfl
                have q3 : W9.cell? ⟨w.heap.size, 3, none⟩ = some (.int .i64 u.ky) := HBox9.out 3 _ rfl
                have q4 : W9.cell? ⟨w.heap.size, 4, none⟩ = some (.slice u.ix.a u.ix.n u.ix.c) := HBox9.out 4 _ rfl
                have z0 := fun o => (World.cell?_of_block (a := ⟨w.heap.size + 1, 0, none⟩) ((new_below W9 o).block _ HWs.out)).trans (show W9.cell? ⟨w.heap.size + 1, 0, none⟩ = some (.int .i64 0) from HZ5.out 0 _ rfl)
                have z1 := fun o => (World.cell?_of_block (a := ⟨w.heap.size + 1, 1, none⟩) ((new_below W9 o).block _ HWs.out)).trans (show W9.cell? ⟨w.heap.size + 1, 1, none⟩ = some (.int .u64 0) from HZ5.out 1 _ rfl)
                have z2 := fun o => (World.cell?_of_block (a := ⟨w.heap.size + 1, 2, none⟩) ((new_below W9 o).block _ HWs.out)).trans (show W9.cell? ⟨w.heap.size + 1, 2, none⟩ = some (.int .u64 0) from HZ5.out 2 _ rfl)
                have z3 := fun o => (World.cell?_of_block (a := ⟨w.heap.size + 1, 3, none⟩) ((new_below W9 o).block _ HWs.out)).trans (show W9.cell? ⟨w.heap.size + 1, 3, none⟩ = some (.bool false) from HZ5.out 3 _ rfl)
                have z4 := fun o => (World.cell?_of_block (a := ⟨w.heap.size + 1, 4, none⟩) ((new_below W9 o).block _ HWs.out)).trans (show W9.cell? ⟨w.heap.size + 1, 4, none⟩ = some (.slice none 0 0) from HZ5.out 4 _ rfl)
                have z5 := fun o => (World.cell?_of_block (a := ⟨w.heap.size + 1, 5, none⟩) ((new_below W9 o).block _ HWs.out)).trans (show W9.cell? ⟨w.heap.size + 1, 5, none⟩ = some (.slice none 0 0) from HZ5.out 5 _ rfl)
                have z6 := fun o => (World.cell?_of_block (a := ⟨w.heap.size + 1, 6, none⟩) ((new_below W9 o).block _ HWs.out)).trans (show W9.cell? ⟨w.heap.size + 1, 6, none⟩ = some (.slice none 0 0) from HZ5.out 6 _ rfl)
                have g0 := fun o => (World.frozen?_of_block (a := ⟨w.heap.size + 1, 0, none⟩) ((new_below W9 o).block _ HWs.out)).trans (HF5.out 0)
                have g1 := fun o => (World.frozen?_of_block (a := ⟨w.heap.size + 1, 1, none⟩) ((new_below W9 o).block _ HWs.out)).trans (HF5.out 1)
                have g2 := fun o => (World.frozen?_of_block (a := ⟨w.heap.size + 1, 2, none⟩) ((new_below W9 o).block _ HWs.out)).trans (HF5.out 2)
                have g3 := fun o => (World.frozen?_of_block (a := ⟨w.heap.size + 1, 3, none⟩) ((new_below W9 o).block _ HWs.out)).trans (HF5.out 3)
                have g4 := fun o => (World.frozen?_of_block (a := ⟨w.heap.size + 1, 4, none⟩) ((new_below W9 o).block _ HWs.out)).trans (HF5.out 4)
                have g5 := fun o => (World.frozen?_of_block (a := ⟨w.heap.size + 1, 5, none⟩) ((new_below W9 o).block _ HWs.out)).trans (HF5.out 5)
                have g6 := fun o => (World.frozen?_of_block (a := ⟨w.heap.size + 1, 6, none⟩) ((new_below W9 o).block _ HWs.out)).trans (HF5.out 6)
                have hnb : ¬ W9.heap.size = w.heap.size + 1 := by have := HWs.out; omega
                have hnb2 : ¬ w.heap.size + 1 = W9.heap.size := by have := HWs.out; omega
                go_wp2
                change bodyPost _ _ _ _ _ ((W9.alloc (.cells #[.int .i64 u.id, .string (strB u.nm), .slice u.cs.a u.cs.n u.cs.c, .int .i64 u.ky, .slice u.ix.a u.ix.n u.ix.c] 48)).setCells (w.heap.size + 1) 0 [.int .i64 0, .int .u64 0, .int .u64 0, .bool false, .slice none 0 0, .slice none 0 0, .slice (some ⟨W9.heap.size, 0, none⟩) 1 1])
                have hfo : Foot (fun k => a.X k ∨ (F k ∨ k = w.heap.size + 1)) (W9.alloc (.cells #[.int .i64 u.id, .string (strB u.nm), .slice u.cs.a u.cs.n u.cs.c, .int .i64 u.ky, .slice u.ix.a u.ix.n u.ix.c] 48)) (fun V => IsY layTb V (some ⟨W9.heap.size, 0, none⟩) 1 1 [u]) := foot_ownY (X := fun k => a.X k ∨ (F k ∨ k = w.heap.size + 1)) (ownY_one (L := layTb) W9 W9.heap.size #[.int .i64 u.id, .string (strB u.nm), .slice u.cs.a u.cs.n u.cs.c, .int .i64 u.ky, .slice u.ix.a u.ix.n u.ix.c] u (Nat.le_refl _) rfl) (fun k hk => by
                  have h9 := HQ9.out.kp.size
                  rcases hk with hk | hk
                  · exact Nat.lt_of_lt_of_le (HI7.out.xl k hk).2 h9
                  · exact Nat.lt_of_lt_of_le (HI7.out.fx k hk).2 h9)
                obtain ⟨W8, hW8⟩ : ∃ W8, W8 = W9.alloc (.cells #[.int .i64 u.id, .string (strB u.nm), .slice u.cs.a u.cs.n u.cs.c, .int .i64 u.ky, .slice u.ix.a u.ix.n u.ix.c] 48) := ⟨_, rfl⟩
                rw [← hW8] at hfo ⊢
                have hb8 : Below W9.heap.size W9 W8 := by rw [hW8]; exact new_below _ _
                clear hW8
                have hr := box_set (V := W8) (b := w.heap.size + 1) (new := [.int .i64 0, .int .u64 0, .int .u64 0, .bool false, .slice none 0 0, .slice none 0 0, .slice (some ⟨W9.heap.size, 0, none⟩) 1 1]) (rangeY_same HZ5.out (hb8.block _ HWs.out)) (Nat.le_refl _) (fun j => (World.frozen?_of_block (a := ⟨w.heap.size + 1, j, none⟩) (hb8.block _ HWs.out)).trans (HF5.out j))
                have hkk2 : Keeps (fun k => k = w.heap.size + 1) W8 (W8.setCells (w.heap.size + 1) 0 [.int .i64 0, .int .u64 0, .int .u64 0, .bool false, .slice none 0 0, .slice none 0 0, .slice (some ⟨W9.heap.size, 0, none⟩) 1 1]) := keepsYs _ _ _ _
                have r0 := hr 0 _ rfl
                have r1 := hr 1 _ rfl
                have r2 := hr 2 _ rfl
                have r3 := hr 3 _ rfl
                have r4 := hr 4 _ rfl
                have r5 := hr 5 _ rfl
                have r6 := hr 6 _ rfl
                clear hr
                generalize W8.setCells (w.heap.size + 1) 0 [.int .i64 0, .int .u64 0, .int .u64 0, .bool false, .slice none 0 0, .slice none 0 0, .slice (some ⟨W9.heap.size, 0, none⟩) 1 1] = W at *
                refine bodyPost_ret (v := .agg #[.int .i64 0, .int .u64 0, .int .u64 0, .bool false, .slice none 0 0, .slice none 0 0, .slice (some ⟨W9.heap.size, 0, none⟩) 1 1]) (by simp [results, Tryz.results85, go_sem, r0, r1, r2, r3, r4, r5, r6]) rfl ?_
                have hmi := HMi.out
                rw [HE.out] at hmi ⊢
                have hU7 := HUo.out.keep (bel_undQ HN7.out)
                obtain ⟨a2, hpa, hxa, hI9⟩ := HI7.out.tabled HQ9.out ((HI7.out.tb.and hU7).imp (fun V hV x hx => by
                  rcases List.mem_append.1 hx with h1 | h1
                  · exact hV.1.2 x h1
                  · rw [List.mem_singleton.1 h1]; exact hV.2)) (by rw [List.map_append, HTM.out]; show _ ++ [u.t] = _; rw [HUt.out]) (Nat.le_succ _) hmi
                have hU8 := (hU7.step (Keeps.wider HQ9.out.kp (fun k hk => .inl (.inl hk))) (fun k hk => .inl hk)).keep hb8
                have hX2 : ∀ k, (a2.X k ∨ (F k ∨ k = w.heap.size + 1)) → (a.X k ∨ (F k ∨ k = w.heap.size + 1)) ∨ W8.heap.size ≤ k := fun k hk => by
                  rcases hk with hk | hk
                  · exact .inl (.inl ((hxa k).1 hk))
                  · exact .inl (.inr hk)
                exact xs_done (a' := a2) (b := w.heap.size + 1) HI.out (Below.refl _ w) (kpThen HKw.out (fun k hk => .inl hk) (Below.keeps hb8 a.X)) (hI9.keep hb8) (fun k hk => .inl ((hxa k).1 hk)) hpa (by omega) hkk2 ⟨0, 0, 0, false, ⟨none, 0, 0, []⟩, ⟨none, 0, 0, []⟩, ⟨some ⟨W9.heap.size, 0, none⟩, 1, 1, [u]⟩⟩ (by show ((0, 0, 0, false, [], [], [u.t.b]) : ReP) = (0, 0, 0, false, [], [], [(keptT S.tbs.length t.t).b]); rw [HUt.out]) (((hfo.and hU8).more hX2).imp (fun V hV => ⟨isY_nil V, isY_nil V, hV.1, by simp, fun x hx => by rw [List.mem_singleton.1 hx]; exact hV.2⟩))

end Go.Proofs.YtcgiicmmfleinaaGreatDoor
