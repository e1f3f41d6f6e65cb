/- Records read: readHard, readEntry, readSnap. Records read: readEntry. Records read: readSnap. -/
import Derived.Test.YtodmieehdleohaaGreatRl7
import Derived.Test.YtodmieehdleohaaGreatRwA
import Derived.Deep.RegionHeld3
namespace Go.Proofs.YtodmieehdleohaaGreat
open Go.RowKit NumMath
set_option linter.unusedVariables false
set_option maxRecDepth 100000

abbrev m64 : Int := 18446744073709551615
abbrev m63 : Int := 9223372036854775807

/-- a hard state read: its two numbers, and the error -/
def hardOf (st : Option (List Int)) : (Int × Int) × Int := (((rdN m64 st).1, (rdN m64 (rdN m64 st).2).1), rdEnd (rdN m64 (rdN m64 st).2).2)

/-- an entry read, and the error -/
def entOf (st : Option (List Int)) : Ent × Int :=
  (⟨(rdN m64 st).1, (rdN m64 (rdN m64 st).2).1, (rdI (rdN m64 (rdN m64 st).2).2).1, (rdT m63 (rdI (rdN m64 (rdN m64 st).2).2).2).1⟩, rdEnd (rdT m63 (rdI (rdN m64 (rdN m64 st).2).2).2).2)

/-- a snapshot read: none, if it is none -/
def snapOf (st : Option (List Int)) : Option Snp :=
  match memOf (rdT m63 (rdN m64 (rdN m64 st).2).2).1 with
  | none => none
  | some l => if rdEnd (rdT m63 (rdT m63 (rdN m64 (rdN m64 st).2).2).2).2 = 0 then some ⟨(rdN m64 st).1, (rdN m64 (rdN m64 st).2).1, l, (rdT m63 (rdT m63 (rdN m64 (rdN m64 st).2).2).2).1⟩ else none

theorem keeps_new {p : Nat} {w : World} (o : Obj) : Keeps (fun k => k = p) w (w.alloc o) := Below.keeps (new_below w o) _

/-- two cells of a block -/
def Box2 (w : World) (b : Nat) (v0 v1 : Value) : Prop := w.cell? ⟨b, 0, none⟩ = some v0 ∧ w.cell? ⟨b, 1, none⟩ = some v1 ∧ ∀ i, w.frozen? ⟨b, i, none⟩ = false

theorem box2_new (w : World) (v0 v1 : Value) (ty : TypeId) (g : Nat) (hg : w.heap.size = g) : Box2 (w.alloc (.cells #[v0, v1] ty)) g v0 v1 := by
  subst hg
  exact ⟨by simp, by simp, by simp⟩

theorem Box2.same {w w' : World} {b : Nat} {v0 v1 : Value} (h : Box2 w b v0 v1) (e : w'.heap[b]? = w.heap[b]?) : Box2 w' b v0 v1 :=
  ⟨(World.cell?_of_block (a := ⟨b, 0, none⟩) e).trans h.1, (World.cell?_of_block (a := ⟨b, 1, none⟩) e).trans h.2.1, fun i => (World.frozen?_of_block (a := ⟨b, i, none⟩) e).trans (h.2.2 i)⟩

theorem Box2.set0 {w : World} {b : Nat} {v0 v1 : Value} (h : Box2 w b v0 v1) (u : Value) : Box2 (w.setCell ⟨b, 0, none⟩ u) b u v1 :=
  ⟨World.cell?_setCell_same _ _ _ h.1, (cell_set_off _ _ _ _ _ (by decide)).trans h.2.1, fun i => by simp [h.2.2]⟩

theorem Box2.set1 {w : World} {b : Nat} {v0 v1 : Value} (h : Box2 w b v0 v1) (u : Value) : Box2 (w.setCell ⟨b, 1, none⟩ u) b v0 u :=
  ⟨(cell_set_off _ _ _ _ _ (by decide)).trans h.1, World.cell?_setCell_same _ _ _ h.2.1, fun i => by simp [h.2.2]⟩

theorem Box4.same {w w' : World} {b : Nat} {v0 v1 v2 v3 : Value} (h : Box4 w b v0 v1 v2 v3) (e : w'.heap[b]? = w.heap[b]?) : Box4 w' b v0 v1 v2 v3 := by
  obtain ⟨h0, h1, h2, h3, hf⟩ := h
  exact ⟨(World.cell?_of_block (a := ⟨b, 0, none⟩) e).trans h0, (World.cell?_of_block (a := ⟨b, 1, none⟩) e).trans h1, (World.cell?_of_block (a := ⟨b, 2, none⟩) e).trans h2, (World.cell?_of_block (a := ⟨b, 3, none⟩) e).trans h3, fun i => (World.frozen?_of_block (a := ⟨b, i, none⟩) e).trans (hf i)⟩

theorem new_two (w : World) (o1 o2 : Obj) : Below w.heap.size w ((w.alloc o1).alloc o2) := (new_below w o1).trans ((new_below _ _).mono (by simp))

theorem rpost_start {p q : Nat} {st : Option (List Int)} {w W : World} (h : IsR true w p q st) (hb : Below w.heap.size w W) : RPost true w p q st W := ⟨h.keep hb, Below.keeps hb _⟩

set_option maxHeartbeats 400000 in
theorem rdHard_any (p q : Nat) (st : Option (List Int)) (w : World) (h : IsR true w p q st) :
    Calls Tryz.prog 165 #[.pointer (some ⟨p, 0, none⟩)] w fun e w' => e = .returned (.tuple #[.agg #[.int .u64 (hardOf st).1.1, .int .u64 (hardOf st).1.2], .int .i64 (hardOf st).2]) ∧ Keeps (fun k => k = p) w w' := by
  have hp := h.at
  have H := hide h
  have HP0 := hide (rpost_start h (new_two w (.cells #[.int .u64 0, .int .u64 0] 24) (.cells #[.int .u64 0, .int .u64 0] 24)))
  have HBa := hide ((box2_new w (.int .u64 0) (.int .u64 0) 24 _ rfl).same ((new_below _ (.cells #[.int .u64 0, .int .u64 0] 24)).block w.heap.size (by simp)))
  have HBb := hide (box2_new (w.alloc (.cells #[.int .u64 0, .int .u64 0] 24)) (.int .u64 0) (.int .u64 0) 24 (w.heap.size + 1) (by simp))
  have HE : Hid (hardOf st = (((rdN m64 st).1, (rdN m64 (rdN m64 st).2).1), rdEnd (rdN m64 (rdN m64 st).2).2)) := rfl
  generalize hardOf st = ho at *
  have HN1 := hide (fun (W : World) (hW : IsR true W p q st) => rdN_any p q st m64 W hW (by decide) (by decide))
  generalize rdN m64 st = r1 at *
  obtain ⟨t, st1⟩ := r1
  have HN2 := hide (fun (W : World) (hW : IsR true W p q st1) => rdN_any p q st1 m64 W hW (by decide) (by decide))
  dsimp only at *
  generalize rdN m64 st1 = r2 at *
  obtain ⟨v, st2⟩ := r2
  dsimp only at *
  have HEn := hide (fun (W : World) (hW : IsR true W p q st2) => end_any p q st2 W hW)
  have he := HE.out
  subst he
  clear HE h
  go_enter Tryz.func165, Tryz.ntmps165
  go_wp2_with (first
    | (go_at_call 160; refine (HN1.out _ (by exact HP0.out.1)).mono ?_; rintro e w1 ⟨rfl, hR1⟩; have hA1 := HBa.out.same (hR1.2.block _ (by simp; omega) (by omega)); have hB1 := HBb.out.same (hR1.2.block _ (by simp) (by omega)); have HP1 := hide (RPost.setNew (g := w.heap.size + 1) (i := 0) H.out (HP0.out.trans hR1) (by omega) (.int .u64 t)); have HA2 := hide (hA1.same (Below.heap_setCell w1 ⟨w.heap.size + 1, 0, none⟩ (.int .u64 t) w.heap.size (by simp))); have HB2 := hide (hB1.set0 (.int .u64 t)); have k0 := hB1.1; have k0f := hB1.2.2 0; clear hA1 hB1 hR1)
    | (go_at_call 160; refine (HN2.out _ (by exact HP1.out.1)).mono ?_; rintro e w2 ⟨rfl, hR2⟩; have hs2 : w.heap.size + 1 < (w1.setCell ⟨w.heap.size + 1, 0, none⟩ (.int .u64 t)).heap.size := World.block_lt_of_cell? _ ⟨w.heap.size + 1, 0, none⟩ HB2.out.1; have hA3 := HA2.out.same (hR2.2.block _ (by omega) (by omega)); have hB3 := HB2.out.same (hR2.2.block _ hs2 (by omega)); have HP2 := hide (RPost.setNew (g := w.heap.size + 1) (i := 1) H.out (HP1.out.trans hR2) (by omega) (.int .u64 v)); have HA4 := hide (hA3.same (Below.heap_setCell w2 ⟨w.heap.size + 1, 1, none⟩ (.int .u64 v) w.heap.size (by simp))); have HB4 := hide (hB3.set1 (.int .u64 v)); have k1 := hB3.2.1; have k1f := hB3.2.2 1; clear hA3 hB3 hR2 hs2))
  have l0 := HB4.out.1
  have l1 := HB4.out.2.1
  have a0 := HA4.out.1
  have a1 := HA4.out.2.1
  have a0f := HA4.out.2.2 0
  have a1f := HA4.out.2.2 1
  go_region_held3 (fun W => W.cell? ⟨w.heap.size + 1, 0, none⟩ = some (.int .u64 t) ∧ W.cell? ⟨w.heap.size + 1, 1, none⟩ = some (.int .u64 v)) (first | go_keep) (first
    | (go_at_call 161; refine (HEn.out _ (by exact HP2.out.1)).mono ?_; rintro e w' ⟨rfl, hw⟩; have hw := hw.symm; subst hw))
  all_goals
    have HR := hide ((HA4.out.set0 (.int .u64 t)).set1 (.int .u64 v))
    have n0 := HR.out.1
    have n1 := HR.out.2.1
    have HK : Hid (Keeps (fun k => k = p) w _) := ((HP2.out.2.setNew (g := w.heap.size) (i := 0) (Nat.le_refl _) (.int .u64 t)).setNew (g := w.heap.size) (i := 1) (Nat.le_refl _) (.int .u64 v))
    clear k0 k0f k1 k1f l0 l1 a0 a1 a0f a1f
    go_wp2
    refine bodyPost_ret (v := .tuple #[.agg #[.int .u64 t, .int .u64 v], .int .i64 (rdEnd st2)]) (by simp [results, Tryz.results165, go_sem, n0, n1]) rfl ⟨rfl, HK.out.drw⟩

end Go.Proofs.YtodmieehdleohaaGreat

namespace Go.Proofs.YtodmieehdleohaaGreat
open Go.RowKit NumMath
set_option linter.unusedVariables false
set_option maxRecDepth 100000

theorem byt_rdN (most : Int) (st : Option (List Int)) (hb : Byt st) (h1 : 0 ≤ most) : Byt (rdN most st).2 := (rdN_range most st hb h1).2.2

theorem byt_rdT (most : Int) (st : Option (List Int)) (hb : Byt st) : (∀ c ∈ (rdT most st).1, 0 ≤ c ∧ c < 256) ∧ Byt (rdT most st).2 := by
  by_cases h : most < 0
  · rw [rdT_neg most st h]; exact ⟨by simp, by intro xs hx; cases hx⟩
  · cases h2 : (rdN most st).2 with
    | none => rw [rdT_none most st h h2]; exact ⟨by simp, by intro xs hx; cases hx⟩
    | some xs =>
      have hx := byt_rdN most st hb (by omega) xs h2
      by_cases h3 : (rdN most st).1 ≤ xs.length
      · rw [rdT_some most st h xs h2 h3]
        exact ⟨fun c hc => hx c (List.mem_of_mem_take hc), fun ys hy => by cases hy; exact fun c hc => hx c (List.mem_of_mem_drop hc)⟩
      · rw [rdT_long most st h xs h2 h3]; exact ⟨by simp, by intro xs hx; cases hx⟩

/-- a reader at work over w, and two boxes that are new: what is read goes into the second -/
structure RS (w : World) (p q : Nat) (st : Option (List Int)) (W : World) (z0 z1 z2 z3 v0 v1 v2 v3 : Value) : Prop where
  r : RPost true w p q st W
  a : Box4 W w.heap.size z0 z1 z2 z3
  b : Box4 W (w.heap.size + 1) v0 v1 v2 v3
  hp : p < w.heap.size
  q0 : ∃ st0, IsR true w p q st0

theorem RS.lt {w : World} {p q : Nat} {st : Option (List Int)} {W : World} {z0 z1 z2 z3 v0 v1 v2 v3 : Value} (h : RS w p q st W z0 z1 z2 z3 v0 v1 v2 v3) : w.heap.size + 1 < W.heap.size := World.block_lt_of_cell? _ ⟨w.heap.size + 1, 0, none⟩ h.b.1

theorem RS.call {w : World} {p q : Nat} {st st' : Option (List Int)} {W W' : World} {z0 z1 z2 z3 v0 v1 v2 v3 : Value} (h : RS w p q st W z0 z1 z2 z3 v0 v1 v2 v3) (k : RPost true W p q st' W') : RS w p q st' W' z0 z1 z2 z3 v0 v1 v2 v3 := by
  have hlt := h.lt
  have hp := h.hp
  exact ⟨h.r.trans k, h.a.same (k.2.block _ (by omega) (by omega)), h.b.same (k.2.block _ hlt (by omega)), h.hp, h.q0⟩

theorem RS.below {w : World} {p q : Nat} {st : Option (List Int)} {W W' : World} {z0 z1 z2 z3 v0 v1 v2 v3 : Value} (h : RS w p q st W z0 z1 z2 z3 v0 v1 v2 v3) (k : Below W.heap.size W W') : RS w p q st W' z0 z1 z2 z3 v0 v1 v2 v3 :=
  h.call ⟨h.r.1.keep k, Below.keeps k _⟩

theorem RS.rset {w : World} {p q : Nat} {st : Option (List Int)} {W : World} {z0 z1 z2 z3 v0 v1 v2 v3 : Value} (h : RS w p q st W z0 z1 z2 z3 v0 v1 v2 v3) (g i : Nat) (hg : w.heap.size ≤ g) (u : Value) : RPost true w p q st (W.setCell ⟨g, i, none⟩ u) := by
  obtain ⟨st0, h0⟩ := h.q0
  exact RPost.setNew h0 h.r hg u

theorem RS.set0 {w : World} {p q : Nat} {st : Option (List Int)} {W : World} {z0 z1 z2 z3 v0 v1 v2 v3 : Value} (h : RS w p q st W z0 z1 z2 z3 v0 v1 v2 v3) (u : Value) : RS w p q st (W.setCell ⟨w.heap.size + 1, 0, none⟩ u) z0 z1 z2 z3 u v1 v2 v3 :=
  ⟨h.rset _ _ (by omega) u, h.a.other (by omega) u, h.b.set0 u, h.hp, h.q0⟩
theorem RS.set1 {w : World} {p q : Nat} {st : Option (List Int)} {W : World} {z0 z1 z2 z3 v0 v1 v2 v3 : Value} (h : RS w p q st W z0 z1 z2 z3 v0 v1 v2 v3) (u : Value) : RS w p q st (W.setCell ⟨w.heap.size + 1, 1, none⟩ u) z0 z1 z2 z3 v0 u v2 v3 :=
  ⟨h.rset _ _ (by omega) u, h.a.other (by omega) u, h.b.set1 u, h.hp, h.q0⟩
theorem RS.set2 {w : World} {p q : Nat} {st : Option (List Int)} {W : World} {z0 z1 z2 z3 v0 v1 v2 v3 : Value} (h : RS w p q st W z0 z1 z2 z3 v0 v1 v2 v3) (u : Value) : RS w p q st (W.setCell ⟨w.heap.size + 1, 2, none⟩ u) z0 z1 z2 z3 v0 v1 u v3 :=
  ⟨h.rset _ _ (by omega) u, h.a.other (by omega) u, h.b.set2 u, h.hp, h.q0⟩
theorem RS.set3 {w : World} {p q : Nat} {st : Option (List Int)} {W : World} {z0 z1 z2 z3 v0 v1 v2 v3 : Value} (h : RS w p q st W z0 z1 z2 z3 v0 v1 v2 v3) (u : Value) : RS w p q st (W.setCell ⟨w.heap.size + 1, 3, none⟩ u) z0 z1 z2 z3 v0 v1 v2 u :=
  ⟨h.rset _ _ (by omega) u, h.a.other (by omega) u, h.b.set3 u, h.hp, h.q0⟩

/-- what is read is laid into the answer -/
theorem RS.out {w : World} {p q : Nat} {st : Option (List Int)} {W : World} {z0 z1 z2 z3 v0 v1 v2 v3 : Value} (h : RS w p q st W z0 z1 z2 z3 v0 v1 v2 v3) (u0 u1 u2 u3 : Value) :
    Box4 ((((W.setCell ⟨w.heap.size, 0, none⟩ u0).setCell ⟨w.heap.size, 1, none⟩ u1).setCell ⟨w.heap.size, 2, none⟩ u2).setCell ⟨w.heap.size, 3, none⟩ u3) w.heap.size u0 u1 u2 u3 ∧ Keeps (fun k => k = w.heap.size) W ((((W.setCell ⟨w.heap.size, 0, none⟩ u0).setCell ⟨w.heap.size, 1, none⟩ u1).setCell ⟨w.heap.size, 2, none⟩ u2).setCell ⟨w.heap.size, 3, none⟩ u3) ∧ Keeps (fun k => k = p) w ((((W.setCell ⟨w.heap.size, 0, none⟩ u0).setCell ⟨w.heap.size, 1, none⟩ u1).setCell ⟨w.heap.size, 2, none⟩ u2).setCell ⟨w.heap.size, 3, none⟩ u3) :=
  ⟨(((h.a.set0 u0).set1 u1).set2 u2).set3 u3, ((((Keeps.self _ W).also _).also _).also _).also _, (((h.r.2.setNew (Nat.le_refl _) u0).setNew (Nat.le_refl _) u1).setNew (Nat.le_refl _) u2).setNew (Nat.le_refl _) u3⟩

theorem rs_new {w : World} {p q : Nat} {st : Option (List Int)} (h : IsR true w p q st) (v0 v1 v2 v3 : Value) (ty : TypeId) : RS w p q st ((w.alloc (.cells #[v0, v1, v2, v3] ty)).alloc (.cells #[v0, v1, v2, v3] ty)) v0 v1 v2 v3 v0 v1 v2 v3 :=
  ⟨rpost_start h (new_two _ _ _), (box4_new w v0 v1 v2 v3 ty _ rfl).keep (new_below _ _) (by simp), box4_new _ v0 v1 v2 v3 ty _ (by simp), h.at, ⟨st, h⟩⟩

set_option maxHeartbeats 400000 in
theorem rdEnt_any (p q : Nat) (st : Option (List Int)) (w : World) (h : IsR true w p q st) (hbig : ∀ s, s = (rdI (rdN m64 (rdN m64 st).2).2).2 → rdLeft s ≤ 1000000000) :
    Calls Tryz.prog 166 #[.pointer (some ⟨p, 0, none⟩)] w fun e w' => ∃ a n c, e = .returned (.tuple #[.agg #[.int .u64 (entOf st).1.i, .int .u64 (entOf st).1.t, .int .i64 (entOf st).1.k, .slice a n c], .int .i64 (entOf st).2]) ∧ IsBytes w' a n c (entOf st).1.d ∧ (∀ y, a = some y → w.heap.size ≤ y.block) ∧ Keeps (fun k => k = p) w w' := by
  have hp := h.at
  have HS0 := hide (rs_new h (.int .u64 0) (.int .u64 0) (.int .i64 0) (.slice none 0 0) 76)
  have hbt := byt_rdN m64 _ (byt_rdN m64 _ h.byt (by decide)) (by decide)
  have HE : Hid (entOf st = (⟨(rdN m64 st).1, (rdN m64 (rdN m64 st).2).1, (rdI (rdN m64 (rdN m64 st).2).2).1, (rdT m63 (rdI (rdN m64 (rdN m64 st).2).2).2).1⟩, rdEnd (rdT m63 (rdI (rdN m64 (rdN m64 st).2).2).2).2)) := rfl
  generalize entOf st = ho at *
  have HN1 := hide (fun (W : World) (hW : IsR true W p q st) => rdN_any p q st m64 W hW (by decide) (by decide))
  generalize rdN m64 st = r1 at *
  obtain ⟨t, st1⟩ := r1
  have HN2 := hide (fun (W : World) (hW : IsR true W p q st1) => rdN_any p q st1 m64 W hW (by decide) (by decide))
  dsimp only at *
  generalize rdN m64 st1 = r2 at *
  obtain ⟨v, st2⟩ := r2
  dsimp only at *
  have HN3 := hide (fun (W : World) (hW : IsR true W p q st2) => rdI_any p q st2 W hW)
  have hbt3 : Byt (rdI st2).2 := byt_rdN m64 _ hbt (by decide)
  generalize rdI st2 = r3 at *
  obtain ⟨kd, st3⟩ := r3
  dsimp only at *
  have hb3 := hbig st3 rfl
  have HN4 := hide (fun (W : World) (hW : IsR true W p q st3) => rdT_any p q st3 m63 W hW (by decide) (by decide) hb3)
  have HBy := hide (byt_rdT m63 st3 hbt3).1
  generalize rdT m63 st3 = r4 at *
  obtain ⟨d, st4⟩ := r4
  dsimp only at *
  have HEn := hide (fun (W : World) (hW : IsR true W p q st4) => end_any p q st4 W hW)
  have he := HE.out
  subst he
  clear HE h hbig hbt hbt3 hb3
  go_enter Tryz.func166, Tryz.ntmps166
  go_wp2_with (first
    | (go_at_call 184; refine (HN4.out _ (by exact HS3.out.r.1)).mono ?_; rintro e w4 ⟨v4, rfl, ho4, hR4⟩; have hs := HS3.out.call hR4; obtain ⟨a4, n4, d4, rfl, hI4, hy4⟩ := slice_of_own ho4 HBy.out; have HY4 : Hid (∀ y, a4 = some y → w.heap.size + 1 < y.block) := (fun y hy => Nat.lt_of_lt_of_le HS3.out.lt (hy4 y hy)); have HI4 := hide hI4; have k3 := hs.b.2.2.2.1; have k3f := hs.b.2.2.2.2 3; have HS4 := hide (hs.set3 (.slice a4 n4 d4)); clear hs hR4 ho4 hI4 hy4)
    | (go_at_call 183; refine (HN3.out _ (by exact HS2.out.r.1)).mono ?_; rintro e w3 ⟨rfl, hR3⟩; have hs := HS2.out.call hR3; have k2 := hs.b.2.2.1; have k2f := hs.b.2.2.2.2 2; have HS3 := hide (hs.set2 (.int .i64 kd)); clear hs hR3)
    | (go_at_call 160; refine (HN1.out _ (by exact HS0.out.r.1)).mono ?_; rintro e w1 ⟨rfl, hR1⟩; have hs := HS0.out.call hR1; have k0 := hs.b.1; have k0f := hs.b.2.2.2.2 0; have HS1 := hide (hs.set0 (.int .u64 t)); clear hs hR1)
    | (go_at_call 160; refine (HN2.out _ (by exact HS1.out.r.1)).mono ?_; rintro e w2 ⟨rfl, hR2⟩; have hs := HS1.out.call hR2; have k1 := hs.b.2.1; have k1f := hs.b.2.2.2.2 1; have HS2 := hide (hs.set1 (.int .u64 v)); clear hs hR2))
  obtain ⟨l0, l1, l2, l3, -⟩ := HS4.out.b
  obtain ⟨a0, a1, a2, a3, af⟩ := HS4.out.a
  have a0f := af 0
  have a1f := af 1
  have a2f := af 2
  have a3f := af 3
  clear af
  go_region_held3 (fun W => W.cell? ⟨w.heap.size + 1, 0, none⟩ = some (.int .u64 t) ∧ W.cell? ⟨w.heap.size + 1, 1, none⟩ = some (.int .u64 v) ∧ W.cell? ⟨w.heap.size + 1, 2, none⟩ = some (.int .i64 kd) ∧ W.cell? ⟨w.heap.size + 1, 3, none⟩ = some (.slice a4 n4 d4)) (first | go_keep) (first
    | (go_at_call 161; refine (HEn.out _ (by exact HS4.out.r.1)).mono ?_; rintro e w' ⟨rfl, hw⟩; have hw := hw.symm; subst hw))
  all_goals
    have HO := hide (HS4.out.out (.int .u64 t) (.int .u64 v) (.int .i64 kd) (.slice a4 n4 d4))
    obtain ⟨n0, n1, n2, n3, -⟩ := HO.out.1
    have HF := hide (isB_liesX (isB_liesX HI4.out (keeps_cell (g := w.heap.size + 1) (i := 3) (.slice a4 n4 d4)) (.inr (fun y hy e => by have := HY4.out y hy; omega))) HO.out.2.1 (.inr (fun y hy e => by have := HY4.out y hy; omega)))
    clear k0 k0f k1 k1f k2 k2f k3 k3f l0 l1 l2 l3 a0 a1 a2 a3 a0f a1f a2f a3f
    go_wp2
    refine bodyPost_ret (v := .tuple #[.agg #[.int .u64 t, .int .u64 v, .int .i64 kd, .slice a4 n4 d4], .int .i64 (rdEnd st4)]) (by simp [results, Tryz.results166, go_sem, n0, n1, n2, n3]) rfl ⟨a4, n4, d4, rfl, HF.out.keep (Below.refl _ _).drew, fun y hy => by have := HY4.out y hy; omega, HO.out.2.2.drw⟩

end Go.Proofs.YtodmieehdleohaaGreat

namespace Go.Proofs.YtodmieehdleohaaGreat
open Go.RowKit NumMath
set_option linter.unusedVariables false
set_option maxRecDepth 100000

theorem snapOf_mem {st : Option (List Int)} (h : memOf (rdT m63 (rdN m64 (rdN m64 st).2).2).1 = none) : snapOf st = none := by unfold snapOf; rw [h]
theorem snapOf_no {st : Option (List Int)} {l : List Int} (h : memOf (rdT m63 (rdN m64 (rdN m64 st).2).2).1 = some l) (he : ¬ rdEnd (rdT m63 (rdT m63 (rdN m64 (rdN m64 st).2).2).2).2 = 0) : snapOf st = none := by unfold snapOf; rw [h]; exact if_neg he
theorem snapOf_yes {st : Option (List Int)} {l : List Int} (h : memOf (rdT m63 (rdN m64 (rdN m64 st).2).2).1 = some l) (he : rdEnd (rdT m63 (rdT m63 (rdN m64 (rdN m64 st).2).2).2).2 = 0) : snapOf st = some ⟨(rdN m64 st).1, (rdN m64 (rdN m64 st).2).1, l, (rdT m63 (rdT m63 (rdN m64 (rdN m64 st).2).2).2).1⟩ := by unfold snapOf; rw [h]; exact if_pos he

theorem rdEnd_30 {st : Option (List Int)} (h : ¬ rdEnd st = 0) : rdEnd st = 30 := by
  match st, h with
  | none, _ => rfl
  | some [], h => exact absurd rfl h
  | some (_ :: _), _ => rfl

/-- what readSnap answers: a snapshot that is laid anew, or ErrRow -/
def SnapPost (p : Nat) (w : World) (s : Option Snp) (e : Ending) (w' : World) : Prop :=
  Keeps (fun k => k = p) w w' ∧ ((s = none ∧ ∃ i t a n c b m d, e = .returned (.tuple #[.agg #[.int .u64 i, .int .u64 t, .slice a n c, .slice b m d], .int .i64 30])) ∨ ∃ x a n c b m d, s = some x ∧ e = .returned (.tuple #[.agg #[.int .u64 x.i, .int .u64 x.t, .slice a n c, .slice b m d], .int .i64 0]) ∧ OwnU w' w.heap.size (.slice a n c) x.m ∧ (∀ z ∈ x.m, 0 ≤ z ∧ z ≤ 18446744073709551615) ∧ x.m.length ≤ 9 ∧ IsBytes w' b m d x.d ∧ (∀ y, b = some y → w.heap.size ≤ y.block))

set_option maxHeartbeats 400000 in
theorem rdSnap_any (p q : Nat) (st : Option (List Int)) (w : World) (h : IsR true w p q st) (hbig : ∀ s, s = (rdN m64 (rdN m64 st).2).2 → rdLeft s ≤ 1000000 ∧ rdLeft (rdT m63 s).2 ≤ 1000000 ∧ (rdT m63 s).1.length ≤ 1000000) :
    Calls Tryz.prog 167 #[.pointer (some ⟨p, 0, none⟩)] w fun e w' => SnapPost p w (snapOf st) e w' := by
  have hp := h.at
  have HS0 := hide (rs_new h (.int .u64 0) (.int .u64 0) (.slice none 0 0) (.slice none 0 0) 28)
  have hbt := byt_rdN m64 _ (byt_rdN m64 _ h.byt (by decide)) (by decide)
  have HE1 := hide (@snapOf_mem st)
  have HE2 := hide (fun l => snapOf_no (st := st) (l := l))
  have HE3 := hide (fun l => snapOf_yes (st := st) (l := l))
  generalize snapOf st = ho at *
  have HN1 := hide (fun (W : World) (hW : IsR true W p q st) => rdN_any p q st m64 W hW (by decide) (by decide))
  generalize rdN m64 st = r1 at *
  obtain ⟨t, st1⟩ := r1
  have HN2 := hide (fun (W : World) (hW : IsR true W p q st1) => rdN_any p q st1 m64 W hW (by decide) (by decide))
  dsimp only at *
  generalize rdN m64 st1 = r2 at *
  obtain ⟨v, st2⟩ := r2
  dsimp only at *
  obtain ⟨hb1, hb2, hb3⟩ := hbig st2 rfl
  have HN3 := hide (fun (W : World) (hW : IsR true W p q st2) => rdT_any p q st2 m63 W hW (by decide) (by decide) (by omega))
  obtain ⟨hy3, hbt3⟩ := byt_rdT m63 st2 hbt
  generalize rdT m63 st2 = r3 at *
  obtain ⟨dm, st3⟩ := r3
  dsimp only at *
  have HN4 := hide (fun (W : World) (hW : IsR true W p q st3) => rdT_any p q st3 m63 W hW (by decide) (by decide) (by omega))
  obtain ⟨hy4, -⟩ := byt_rdT m63 st3 hbt3
  generalize rdT m63 st3 = r4 at *
  obtain ⟨d, st4⟩ := r4
  dsimp only at *
  have HEn := hide (fun (W : World) (hW : IsR true W p q st4) => end_any p q st4 W hW)
  have HY3 := hide hy3
  have HY4 := hide hy4
  clear h hbig hbt hbt3 hb1 hb2 hy3 hy4
  cases hM : memOf dm with
  | none =>
    have HV := hide (HE1.out hM)
    clear HE1 HE2 HE3
    go_enter Tryz.func167, Tryz.ntmps167
    go_wp2_with (first
      | (go_at_call 149; go_must (refine (ofMem_none a3 n3 d3 dm _ HI3.out (by have := HI3.out.1; omega) hM).mono ?_); rintro e w5 ⟨rfl, hb5⟩; have hs := HST.out.below hb5; have k2 := hs.b.2.2.1; have k2f := hs.b.2.2.2.2 2; have HS3 := hide (hs.set2 (.slice none 0 0)); clear hs hb5)
      | (go_at_call 184; refine (HN3.out _ (by exact HS2.out.r.1)).mono ?_; rintro e w3 ⟨v3, rfl, ho3, hR3⟩; have HST := hide (HS2.out.call hR3); obtain ⟨a3, n3, d3, rfl, hI3, hy3⟩ := slice_of_own ho3 HY3.out; have HI3 := hide hI3; clear hR3 ho3 hI3 hy3)
      | (go_at_call 184; refine (HN4.out _ (by exact HS3.out.r.1)).mono ?_; rintro e w4 ⟨v4, rfl, ho4, hR4⟩; have hs := HS3.out.call hR4; obtain ⟨a4, n4, d4, rfl, hI4, hy4⟩ := slice_of_own ho4 HY4.out; have k3 := hs.b.2.2.2.1; have k3f := hs.b.2.2.2.2 3; have HS4 := hide (hs.set3 (.slice a4 n4 d4)); obtain ⟨a0, a1, a2, a3', af⟩ := HS4.out.a; have a0f := af 0; have a1f := af 1; have a2f := af 2; have a3f := af 3; clear af hs hR4 ho4 hI4 hy4)
      | (go_at_call 160; refine (HN1.out _ (by exact HS0.out.r.1)).mono ?_; rintro e w1 ⟨rfl, hR1⟩; have hs := HS0.out.call hR1; have k0 := hs.b.1; have k0f := hs.b.2.2.2.2 0; have HS1 := hide (hs.set0 (.int .u64 t)); clear hs hR1)
      | (go_at_call 160; refine (HN2.out _ (by exact HS1.out.r.1)).mono ?_; rintro e w2 ⟨rfl, hR2⟩; have hs := HS1.out.call hR2; have k1 := hs.b.2.1; have k1f := hs.b.2.2.2.2 1; have HS2 := hide (hs.set1 (.int .u64 v)); clear hs hR2))
    have HO := hide (HS4.out.out (.int .u64 0) (.int .u64 0) (.slice none 0 0) (.slice none 0 0))
    obtain ⟨n0, n1, n2, n3', -⟩ := HO.out.1
    refine bodyPost_ret (v := .tuple #[.agg #[.int .u64 0, .int .u64 0, .slice none 0 0, .slice none 0 0], .int .i64 30]) (by simp [results, Tryz.results167, go_sem, n0, n1, n2, n3']) rfl ⟨HO.out.2.2, .inl ⟨HV.out, _, _, _, _, _, _, _, _, rfl⟩⟩
  | some l =>
    have HV2 := hide (HE2.out l hM)
    have HV3 := hide (HE3.out l hM)
    clear HE1 HE2 HE3
    go_enter Tryz.func167, Tryz.ntmps167
    go_wp2_with (first
      | (go_at_call 149; go_must (refine (ofMem_some a3 n3 d3 dm l _ HI3.out (by have := HI3.out.1; omega) hM).mono ?_); rintro e w5 ⟨b5, n5, d5, rfl, ho5, hr5, h95, hb5⟩; have hs := HST.out.below hb5; have k2 := hs.b.2.2.1; have k2f := hs.b.2.2.2.2 2; have HS3 := hide (hs.set2 (.slice b5 n5 d5)); have HO5 := hide ho5; have HR5 := hide hr5; have H95 := hide h95; have HL3 := hide HST.out.lt; clear hs hb5 ho5 hr5 h95)
      | (go_at_call 184; refine (HN3.out _ (by exact HS2.out.r.1)).mono ?_; rintro e w3 ⟨v3, rfl, ho3, hR3⟩; have HST := hide (HS2.out.call hR3); obtain ⟨a3, n3, d3, rfl, hI3, hy3⟩ := slice_of_own ho3 HY3.out; have HI3 := hide hI3; clear hR3 ho3 hI3 hy3)
      | (go_at_call 184; refine (HN4.out _ (by exact HS3.out.r.1)).mono ?_; rintro e w4 ⟨v4, rfl, ho4, hR4⟩; have hs := HS3.out.call hR4; obtain ⟨a4, n4, d4, rfl, hI4, hy4⟩ := slice_of_own ho4 HY4.out; have HI4 := hide hI4; have HYY : Hid (∀ y, a4 = some y → w.heap.size + 1 < y.block) := (fun y hy => Nat.lt_of_lt_of_le HS3.out.lt (hy4 y hy)); have HK4 := hide hR4.2; have k3 := hs.b.2.2.2.1; have k3f := hs.b.2.2.2.2 3; have HS4 := hide (hs.set3 (.slice a4 n4 d4)); clear hs hR4 ho4 hI4 hy4)
      | (go_at_call 160; refine (HN1.out _ (by exact HS0.out.r.1)).mono ?_; rintro e w1 ⟨rfl, hR1⟩; have hs := HS0.out.call hR1; have k0 := hs.b.1; have k0f := hs.b.2.2.2.2 0; have HS1 := hide (hs.set0 (.int .u64 t)); clear hs hR1)
      | (go_at_call 160; refine (HN2.out _ (by exact HS1.out.r.1)).mono ?_; rintro e w2 ⟨rfl, hR2⟩; have hs := HS1.out.call hR2; have k1 := hs.b.2.1; have k1f := hs.b.2.2.2.2 1; have HS2 := hide (hs.set1 (.int .u64 v)); clear hs hR2))
    obtain ⟨l0, l1, l2, l3, -⟩ := HS4.out.b
    obtain ⟨a0, a1, a2, a3', af⟩ := HS4.out.a
    have a0f := af 0
    have a1f := af 1
    have a2f := af 2
    have a3f := af 3
    clear af
    go_region_held3 (fun W => W.cell? ⟨w.heap.size + 1, 0, none⟩ = some (.int .u64 t) ∧ W.cell? ⟨w.heap.size + 1, 1, none⟩ = some (.int .u64 v) ∧ W.cell? ⟨w.heap.size + 1, 2, none⟩ = some (.slice b5 n5 d5) ∧ W.cell? ⟨w.heap.size + 1, 3, none⟩ = some (.slice a4 n4 d4)) (first | go_keep) (first
      | (go_at_call 161; refine (HEn.out _ (by exact HS4.out.r.1)).mono ?_; rintro e w' ⟨rfl, hw⟩; have hw := hw.symm; subst hw))
    all_goals
      have HO := hide (HS4.out.out (.int .u64 t) (.int .u64 v) (.slice b5 n5 d5) (.slice a4 n4 d4))
      obtain ⟨n0, n1, n2, n3', -⟩ := HO.out.1
      have HF := hide (isB_liesX (isB_liesX HI4.out (keeps_cell (g := w.heap.size + 1) (i := 3) (.slice a4 n4 d4)) (.inr (fun y hy e => by have := HYY.out y hy; omega))) HO.out.2.1 (.inr (fun y hy e => by have := HYY.out y hy; omega)))
      have HK : Hid (Keeps (fun k => k ≤ w.heap.size + 1) w5 _) := ((((keeps_cell (w := w5) (g := w.heap.size + 1) (i := 2) (.slice b5 n5 d5)).weaken (fun k hk => by omega)).trans (HK4.out.weaken (fun k hk => by omega))).trans ((keeps_cell (w := w4) (g := w.heap.size + 1) (i := 3) (.slice a4 n4 d4)).weaken (fun k hk => by omega))).trans (HO.out.2.1.weaken (fun k hk => by omega))
      have HU := hide ((HO5.out.lies (fun g hg => HK.out.block g (HO5.out.lt g hg).2 (fun e => by have := (HO5.out.lt g hg).1; have := HL3.out; omega))).mono (show w.heap.size ≤ w3.heap.size by have := HL3.out; omega))
      clear k0 k0f k1 k1f k2 k2f k3 k3f l0 l1 l2 l3 a0 a1 a2 a3' a0f a1f a2f a3f
      go_wp2
      refine bodyPost_ret (v := .tuple #[.agg #[.int .u64 t, .int .u64 v, .slice b5 n5 d5, .slice a4 n4 d4], .int .i64 (rdEnd st4)]) (by simp [results, Tryz.results167, go_sem, n0, n1, n2, n3']) rfl ⟨HO.out.2.2.drw, ?_⟩
      by_cases hz : rdEnd st4 = 0
      · rw [hz]
        exact .inr ⟨⟨t, v, l, d⟩, b5, n5, d5, a4, n4, d4, HV3.out hz, rfl, HU.out.keep (Below.refl _ _).drew, HR5.out, H95.out, HF.out.keep (Below.refl _ _).drew, fun y hy => by have := HYY.out y hy; omega⟩
      · rw [rdEnd_30 hz]
        exact .inl ⟨HV2.out hz, _, _, _, _, _, _, _, _, rfl⟩

end Go.Proofs.YtodmieehdleohaaGreat
