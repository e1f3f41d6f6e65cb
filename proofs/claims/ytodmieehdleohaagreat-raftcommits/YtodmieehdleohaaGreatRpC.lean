/- One record replayed: the program's. One record replayed: the program's replay, walked. One record replayed: an entry. -/
import Derived.Test.YtodmieehdleohaaGreatRpB
namespace Go.Proofs.YtodmieehdleohaaGreat
open Go.RowKit NumMath
set_option linter.unusedVariables false
set_option maxRecDepth 100000

/-- what one more record makes of a hard state and a log: the error, and both, if it is none -/
noncomputable def recL (h : Int × Int) (L : LogS) (bs : List Int) : Int × (Int × Int) × LogS :=
  if (rdN 3 (some bs)).1 = 1 then ((hardOf (rdN 3 (some bs)).2).2, (hardOf (rdN 3 (some bs)).2).1, L)
  else if (rdN 3 (some bs)).1 = 2 then (if (entOf (rdN 3 (some bs)).2).2 = 0 then ((appL L [(entOf (rdN 3 (some bs)).2).1]).1, h, (appL L [(entOf (rdN 3 (some bs)).2).1]).2) else ((entOf (rdN 3 (some bs)).2).2, h, L))
  else if (rdN 3 (some bs)).1 = 3 then (match snapOf (rdN 3 (some bs)).2 with | some s => (0, h, ⟨capS s, restL L s, 0, false⟩) | none => (30, h, L))
  else (30, h, L)

/-- three cells of a block -/
def Box3 (w : World) (b : Nat) (v0 v1 v2 : Value) : Prop := w.cell? ⟨b, 0, none⟩ = some v0 ∧ w.cell? ⟨b, 1, none⟩ = some v1 ∧ w.cell? ⟨b, 2, none⟩ = some v2 ∧ ∀ i, w.frozen? ⟨b, i, none⟩ = false

theorem Box3.same {w w' : World} {b : Nat} {v0 v1 v2 : Value} (h : Box3 w b v0 v1 v2) (e : w'.heap[b]? = w.heap[b]?) : Box3 w' b v0 v1 v2 :=
  ⟨(World.cell?_of_block (a := ⟨b, 0, none⟩) e).trans h.1, (World.cell?_of_block (a := ⟨b, 1, none⟩) e).trans h.2.1, (World.cell?_of_block (a := ⟨b, 2, none⟩) e).trans h.2.2.1, fun i => (World.frozen?_of_block (a := ⟨b, i, none⟩) e).trans (h.2.2.2 i)⟩

theorem Box3.set0 {w : World} {b : Nat} {v0 v1 v2 : Value} (h : Box3 w b v0 v1 v2) (u : Value) : Box3 (w.setCell ⟨b, 0, none⟩ u) b u v1 v2 :=
  ⟨World.cell?_setCell_same _ _ _ h.1, (cell_set_off _ _ _ _ _ (by decide)).trans h.2.1, (cell_set_off _ _ _ _ _ (by decide)).trans h.2.2.1, fun i => by simp [h.2.2.2]⟩
theorem Box3.set1 {w : World} {b : Nat} {v0 v1 v2 : Value} (h : Box3 w b v0 v1 v2) (u : Value) : Box3 (w.setCell ⟨b, 1, none⟩ u) b v0 u v2 :=
  ⟨(cell_set_off _ _ _ _ _ (by decide)).trans h.1, World.cell?_setCell_same _ _ _ h.2.1, (cell_set_off _ _ _ _ _ (by decide)).trans h.2.2.1, fun i => by simp [h.2.2.2]⟩
theorem Box3.set2 {w : World} {b : Nat} {v0 v1 v2 : Value} (h : Box3 w b v0 v1 v2) (u : Value) : Box3 (w.setCell ⟨b, 2, none⟩ u) b v0 v1 u :=
  ⟨(cell_set_off _ _ _ _ _ (by decide)).trans h.1, (cell_set_off _ _ _ _ _ (by decide)).trans h.2.1, World.cell?_setCell_same _ _ _ h.2.2.1, fun i => by simp [h.2.2.2]⟩

/-- what the records up to one tell, at block b; its log at block p, apart from b -/
structure Past (w : World) (base b p : Nat) (h : Int × Int) (L : LogS) : Prop where
  box : Box3 w b (.int .u64 h.1) (.int .u64 h.2) (.pointer (some ⟨p, 0, none⟩))
  log : IsL (fun k => SB 4 w p k ∨ k = b ∨ k < base) w base p L
  off : ¬ SB 4 w p b
  hb : base ≤ b

theorem Past.at {w : World} {base b p : Nat} {h : Int × Int} {L : LogS} (H : Past w base b p h L) : b < w.heap.size := World.block_lt_of_cell? _ ⟨b, 0, none⟩ H.box.1

theorem Past.keep {w w' : World} {base b p : Nat} {h : Int × Int} {L : LogS} (H : Past w base b p h L) (hb : Below w.heap.size w w') : Past w' base b p h L := by
  have hs : ∀ k, SB 4 w' p k → SB 4 w p k := fun k hk => hk.same (hb.block p H.log.at)
  exact ⟨H.box.same (hb.block b H.at), (H.log.keep hb).more (fun k hk => .inl (hk.imp (hs k) id)) (fun k hk => .inl hk), fun h => H.off (hs b h), H.hb⟩

/-- a reader that is new has been read on -/
theorem Past.read {w w1 w2 : World} {base b p r : Nat} {h : Int × Int} {L : LogS} (H : Past w base b p h L) (hb : Below w.heap.size w w1) (hr : w.heap.size ≤ r) (hk : Keeps (fun k => k = r) w1 w2) : Past w2 base b p h L := by
  have hp := H.log.at
  have hbb := H.at
  have hs := hb.size
  have hlt : ∀ k, SB 4 w p k → k < w.heap.size := fun k hk => (H.log.lt hk).1
  have eP : w2.heap[p]? = w.heap[p]? := (hk.block p (by omega) (by omega)).trans (hb.block p hp)
  have hS : ∀ k, SB 4 w2 p k → SB 4 w p k := fun k hk => hk.same eP
  have kk : Keeps (fun k => w.heap.size ≤ k) w w2 := (Below.keeps hb _).trans (hk.weaken (fun k e => by omega))
  refine ⟨H.box.same ((hk.block b (by omega) (by omega)).trans (hb.block b hbb)), ?_, fun h => H.off (hS b h), H.hb⟩
  refine (IsL.lies (X := fun k => (SB 4 w p k ∨ k = b ∨ k < base) ∨ w.heap.size ≤ k) (H.log.more (fun k hk => hk) (fun k hk => .inl (.inl hk))) kk (fun k hk => .inr hk) (fun k hk h2 => by have := hlt k hk; omega)).more (fun k hk => .inl (.inl (hk.imp (hS k) id))) (fun k hk => .inl hk)

/-- the hard state is another -/
theorem Past.hard {w : World} {base b p : Nat} {h : Int × Int} {L : LogS} (H : Past w base b p h L) (t v : Int) : Past ((w.setCell ⟨b, 0, none⟩ (.int .u64 t)).setCell ⟨b, 1, none⟩ (.int .u64 v)) base b p (t, v) L := by
  have kk : Keeps (fun k => k = b) w ((w.setCell ⟨b, 0, none⟩ (.int .u64 t)).setCell ⟨b, 1, none⟩ (.int .u64 v)) := ((Keeps.self _ w).also _).also _
  have hpb : p ≠ b := fun e => H.off (by rw [← e]; exact SB.at)
  have eP := kk.block p H.log.at hpb
  have hS : ∀ k, SB 4 ((w.setCell ⟨b, 0, none⟩ (.int .u64 t)).setCell ⟨b, 1, none⟩ (.int .u64 v)) p k → SB 4 w p k := fun k hk => hk.same eP
  refine ⟨(H.box.set0 _).set1 _, ?_, fun h => H.off (hS b h), H.hb⟩
  exact (H.log.lies kk (fun k e => .inr (.inl e)) (fun k hk e => H.off (by rw [← e]; exact hk))).more (fun k hk => .inl (hk.imp (hS k) id)) (fun k hk => .inl hk)

end Go.Proofs.YtodmieehdleohaaGreat

namespace Go.Proofs.YtodmieehdleohaaGreat
open Go.RowKit NumMath
set_option linter.unusedVariables false
set_option maxRecDepth 100000

theorem left_rdN (most : Int) (st : Option (List Int)) (hb : Byt st) : rdLeft (rdN most st).2 ≤ rdLeft st := by
  cases h : (rdN most st).2 with
  | none => cases st <;> simp [rdLeft]
  | some ys => have := rdN_shorter most st hb ys h; show (ys.length : Int) ≤ _; omega

theorem left_rdT (most : Int) (st : Option (List Int)) (hb : Byt st) : rdLeft (rdT most st).2 ≤ rdLeft st ∧ ((rdT most st).1.length : Int) ≤ rdLeft st := by
  have h0 : (0 : Int) ≤ rdLeft st := by cases st <;> simp [rdLeft]
  by_cases h : most < 0
  · rw [rdT_neg most st h]; exact ⟨h0, by simpa using h0⟩
  · cases h2 : (rdN most st).2 with
    | none => rw [rdT_none most st h h2]; exact ⟨h0, by simpa using h0⟩
    | some xs =>
      have hs := rdN_shorter most st hb xs h2
      by_cases h3 : (rdN most st).1 ≤ xs.length
      · rw [rdT_some most st h xs h2 h3]
        constructor
        · show ((xs.drop _).length : Int) ≤ _
          rw [List.length_drop]; omega
        · show ((xs.take _).length : Int) ≤ _
          rw [List.length_take]; omega
      · rw [rdT_long most st h xs h2 h3]; exact ⟨h0, by simpa using h0⟩

/-- what replay leaves -/
def RepPost (w : World) (base b : Nat) (x : Int × (Int × Int) × LogS) (e : Ending) (w' : World) : Prop :=
  e = .returned (.int .i64 x.1) ∧ Below base w w' ∧ (x.1 = 0 → ∃ p, Past w' base b p x.2.1 x.2.2)

set_option maxHeartbeats 400000 in
theorem replay_hard (w0 w : World) (base b p r q : Nat) (h : Int × Int) (L : LogS) (bs : List Int) (H : Past w0 base b p h L) (hb : Below w0.heap.size w0 w) (hr : w0.heap.size ≤ r) (hbase : base ≤ w0.heap.size) (hR : IsR true w r q (some bs)) (hk : (rdN 3 (some bs)).1 = 1) :
    Calls Tryz.prog 153 #[.pointer (some ⟨b, 0, none⟩), .pointer (some ⟨r, 0, none⟩)] w fun e w' => RepPost w base b ((hardOf (rdN 3 (some bs)).2).2, (hardOf (rdN 3 (some bs)).2).1, L) e w' := by
  have hbat := H.at
  have hrw := hR.at
  have HN := hide (rdN_any r q (some bs) 3 w hR (by decide) (by decide))
  rw [hk] at HN
  have HRd := hide (fun (W : World) (hW : IsR true W r q (rdN 3 (some bs)).2) => rdHard_any r q (rdN 3 (some bs)).2 W hW)
  have HPa := hide (fun (W : World) (hW : Keeps (fun k => k = r) w W) => H.read hb hr hW)
  generalize hardOf (rdN 3 (some bs)).2 = ho at *
  generalize (rdN 3 (some bs)).2 = st1 at *
  obtain ⟨⟨t, v⟩, er⟩ := ho
  dsimp only at *
  have hrb : base ≤ r := Nat.le_trans hbase hr
  have hbase2 : base ≤ w.heap.size := Nat.le_trans hbase hb.size
  obtain ⟨z, hz⟩ : ∃ z : Bool, (er == 0) = z := ⟨_, rfl⟩
  clear H hR hk
  cases z
  · go_enter Tryz.func153, Tryz.ntmps153
    go_wp2_with (first
      | (go_at_call 160; go_must (refine HN.out.mono ?_); rintro e w1 ⟨rfl, hR1⟩; have HR1 := hide hR1; clear hR1)
      | (go_at_call 165; go_must (refine (HRd.out _ (by exact HR1.out.1)).mono ?_); rintro e w2 ⟨rfl, hk2⟩; have HK2 := hide (HR1.out.2.trans hk2); clear hk2))
    go_ret
    have hb2 : Below base w _ := HK2.out.below hbase2 (fun k e => by rw [e]; exact hrb)
    exact ⟨rfl, hb2.alloc (Nat.le_trans hbase2 HK2.out.size) _, fun e => by simp at hz; exact absurd e hz⟩
  · have her : er = 0 := by simpa using hz
    subst her
    go_enter Tryz.func153, Tryz.ntmps153
    go_wp2_with (first
      | (go_at_call 160; go_must (refine HN.out.mono ?_); rintro e w1 ⟨rfl, hR1⟩; have HR1 := hide hR1; clear hR1)
      | (go_at_call 165; go_must (refine (HRd.out _ (by exact HR1.out.1)).mono ?_); rintro e w2 ⟨rfl, hk2⟩; have HK2 := hide (HR1.out.2.trans hk2); have HP2 := hide (((HPa.out _ HK2.out)).keep (new_below w2 (.cells #[.int .u64 t, .int .u64 v] 24))); obtain ⟨y0, y1, -, yf⟩ := HP2.out.box; have yf0 := yf 0; have yf1 := yf 1; have HH := hide (HP2.out.hard t v); clear hk2 yf))
    go_ret
    have hb2 : Below base w w2 := HK2.out.below hbase2 (fun k e => by rw [e]; exact hrb)
    have hb3 : Below base w (w2.alloc (.cells #[.int .u64 t, .int .u64 v] 24)) := hb2.alloc (Nat.le_trans hbase2 HK2.out.size) _
    have hbb := HP2.out.hb
    have hk4 : Keeps (fun k => k = b) (w2.alloc (.cells #[.int .u64 t, .int .u64 v] 24)) (((w2.alloc (.cells #[.int .u64 t, .int .u64 v] 24)).setCell ⟨b, 0, none⟩ (.int .u64 t)).setCell ⟨b, 1, none⟩ (.int .u64 v)) := ((Keeps.self _ _).also _).also _
    exact ⟨rfl, hb3.trans (hk4.below (Nat.le_trans hbase2 (Nat.le_trans HK2.out.size (by simp))) (fun k e => by rw [e]; exact hbb)), fun _ => ⟨p, HH.out⟩⟩

set_option maxHeartbeats 400000 in
theorem replay_none (w0 w : World) (base b p r q : Nat) (h : Int × Int) (L : LogS) (bs : List Int) (hr : w0.heap.size ≤ r) (hbase : base ≤ w0.heap.size) (hb : Below w0.heap.size w0 w) (hR : IsR true w r q (some bs)) (h1 : ¬ (rdN 3 (some bs)).1 = 1) (h2 : ¬ (rdN 3 (some bs)).1 = 2) (h3 : ¬ (rdN 3 (some bs)).1 = 3) :
    Calls Tryz.prog 153 #[.pointer (some ⟨b, 0, none⟩), .pointer (some ⟨r, 0, none⟩)] w fun e w' => RepPost w base b (30, h, L) e w' := by
  have HN := hide (rdN_any r q (some bs) 3 w hR (by decide) (by decide))
  generalize rdN 3 (some bs) = rr at *
  obtain ⟨k, st1⟩ := rr
  dsimp only at *
  have k1 : (k == 1) = false := by simp [h1]
  have k2 : (k == 2) = false := by simp [h2]
  have k3 : (k == 3) = false := by simp [h3]
  have hrb : base ≤ r := Nat.le_trans hbase hr
  have hbase2 : base ≤ w.heap.size := Nat.le_trans hbase hb.size
  clear hR h1 h2 h3 hb
  go_enter Tryz.func153, Tryz.ntmps153
  go_wp2_with (first
    | (go_at_call 160; go_must (refine HN.out.mono ?_); rintro e w1 ⟨rfl, hR1⟩; have HR1 := hide hR1; clear hR1))
  go_ret
  exact ⟨rfl, HR1.out.2.below hbase2 (fun k e => by rw [e]; exact hrb), fun e => by simp at e⟩

end Go.Proofs.YtodmieehdleohaaGreat

namespace Go.Proofs.YtodmieehdleohaaGreat
open Go.RowKit NumMath
set_option linter.unusedVariables false
set_option maxRecDepth 100000

theorem zag_rng (u : Int) (h0 : 0 ≤ u) (h1 : u ≤ 18446744073709551615) : -9223372036854775808 ≤ zagV u ∧ zagV u ≤ 9223372036854775807 := by
  unfold zagV
  split <;> omega

theorem entOf_ok (st : Option (List Int)) (hb : Byt st) : (entOf st).1.ok ∧ ((entOf st).1.d.length : Int) ≤ rdLeft st ∧ rdLeft (rdI (rdN m64 (rdN m64 st).2).2).2 ≤ rdLeft st := by
  obtain ⟨a1, a2, a3⟩ := rdN_range m64 st hb (by decide)
  obtain ⟨b1, b2, b3⟩ := rdN_range m64 (rdN m64 st).2 a3 (by decide)
  obtain ⟨c1, c2, c3⟩ := rdN_range m64 (rdN m64 (rdN m64 st).2).2 b3 (by decide)
  have l1 := left_rdN m64 st hb
  have l2 := left_rdN m64 (rdN m64 st).2 a3
  have l3 : rdLeft (rdI (rdN m64 (rdN m64 st).2).2).2 ≤ rdLeft (rdN m64 (rdN m64 st).2).2 := left_rdN m64 (rdN m64 (rdN m64 st).2).2 b3
  have l4 := (left_rdT m63 (rdI (rdN m64 (rdN m64 st).2).2).2 c3).2
  refine ⟨⟨⟨a1, a2⟩, ⟨b1, b2⟩, zag_rng _ c1 c2⟩, ?_, by omega⟩
  show (((rdT m63 (rdI (rdN m64 (rdN m64 st).2).2).2).1.length : Nat) : Int) ≤ _
  omega

theorem Past.app {W w' : World} {base b p : Nat} {h : Int × Int} {L L' : LogS} (H : Past W base b p h L) (hL : IsL (fun k => (SB 4 W p k ∨ k = b ∨ k < base) ∨ SB 4 w' p k) w' base p L') (hp : SPost 4 W p w') : Past w' base b p h L' := by
  have hoff : ¬ SB 4 w' p b := fun h => (hp.2 b h).elim H.off (fun h2 => by have := H.at; omega)
  exact ⟨H.box.same (hp.1.block b H.at H.off), hL.more (fun k hk => .inl (hk.elim .inr (fun e => .inl (.inr e)))) (fun k hk => .inl hk), hoff, H.hb⟩

theorem app_one {w W : World} {base b p g : Nat} {h : Int × Int} {L : LogS} {en : Ent} {a : Option Addr} {n c : Nat} (hW : Past W base b p h L) (hG : L.Good) (hn : L.es.length ≤ 40000) (hok : en.ok) (hdl : en.d.length ≤ 20000) (hpw : p < w.heap.size) (hg : g < W.heap.size) (hgp : w.heap.size ≤ g) (hC : CellM W g 0 ⟨en, a, n, c⟩) (hI : IsBytes W a n c en.d) (hy : ∀ y, a = some y → w.heap.size ≤ y.block) :
    Calls Tryz.prog 13 #[.pointer (some ⟨p, 0, none⟩), .slice (some ⟨g, 0, none⟩) 1 1] W fun e w' => e = .returned (.int .i64 (appL L [en]).1) ∧ IsL (fun k => (SB 4 W p k ∨ k = b ∨ k < base) ∨ SB 4 w' p k) w' base p (appL L [en]).2 ∧ SPost 4 W p w' :=
  app_any (fun k => SB 4 W p k ∨ k = b ∨ k < base) base p L (some ⟨g, 0, none⟩) 1 1 [⟨en, a, n, c⟩] W hW.log hG (isMs_one _ _ _ _ hg hC ⟨hok, hI, .inr (fun y hy' e => by have := hy y hy'; dsimp only at e; omega)⟩) (.inr (fun y hy' => by cases hy'; show g ≠ p; omega)) (by omega) (fun m hm => by rw [List.mem_singleton.1 hm]; have := hI.1; show n ≤ _; omega) (by omega) (fun k hk => hk.elim (fun h => (hW.log.lt h).1) (fun e => e.elim (fun e => by rw [e]; exact hW.at) (fun e => by have := hW.hb; have := hW.at; omega))) (by have := (hW.log.lt (k := p) SB.at).2.1; have := hW.log.at; omega)

set_option maxHeartbeats 400000 in
theorem replay_ent (w0 w : World) (base b p r q : Nat) (h : Int × Int) (L : LogS) (bs : List Int) (H : Past w0 base b p h L) (hG : L.Good) (hn : L.es.length ≤ 40000) (hb : Below w0.heap.size w0 w) (hr : w0.heap.size ≤ r) (hbase : base ≤ w0.heap.size) (hR : IsR true w r q (some bs)) (hl : bs.length ≤ 20000) (hk : (rdN 3 (some bs)).1 = 2) :
    Calls Tryz.prog 153 #[.pointer (some ⟨b, 0, none⟩), .pointer (some ⟨r, 0, none⟩)] w fun e w' => RepPost w base b (if (entOf (rdN 3 (some bs)).2).2 = 0 then ((appL L [(entOf (rdN 3 (some bs)).2).1]).1, h, (appL L [(entOf (rdN 3 (some bs)).2).1]).2) else ((entOf (rdN 3 (some bs)).2).2, h, L)) e w' := by
  have hbat := H.at
  have hpat := H.log.at
  have hrw := hR.at
  have hby := byt_rdN 3 (some bs) hR.byt (by decide)
  have hlf := left_rdN 3 (some bs) hR.byt
  have hlb : rdLeft (some bs) = bs.length := rfl
  obtain ⟨hok, hdl, hll⟩ := entOf_ok _ hby
  have HN := hide (rdN_any r q (some bs) 3 w hR (by decide) (by decide))
  rw [hk] at HN
  have HRd := hide (fun (W : World) (hW : IsR true W r q (rdN 3 (some bs)).2) => rdEnt_any r q (rdN 3 (some bs)).2 W hW (fun s hs => by rw [hs]; omega))
  have HPa := hide (fun (W : World) (hW : Keeps (fun k => k = r) w W) => H.read hb hr hW)
  have hdl2 : (entOf (rdN 3 (some bs)).2).1.d.length ≤ 20000 := by omega
  generalize entOf (rdN 3 (some bs)).2 = eo at *
  generalize (rdN 3 (some bs)).2 = st1 at *
  obtain ⟨en, er⟩ := eo
  dsimp only at *
  have hrb : base ≤ r := Nat.le_trans hbase hr
  have hbase2 : base ≤ w.heap.size := Nat.le_trans hbase hb.size
  have hsz := hb.size
  obtain ⟨z, hz⟩ : ∃ z : Bool, (er == 0) = z := ⟨_, rfl⟩
  clear H hR hk hlf hlb hdl hll hby
  cases z
  · have hne : ¬ er = 0 := by simpa using hz
    rw [if_neg hne]
    go_enter Tryz.func153, Tryz.ntmps153
    go_wp2_with (first
      | (go_at_call 160; go_must (refine HN.out.mono ?_); rintro e w1 ⟨rfl, hR1⟩; have HR1 := hide hR1; clear hR1)
      | (go_at_call 166; go_must (refine (HRd.out _ (by exact HR1.out.1)).mono ?_); rintro e w2 ⟨a2, n2, c2, rfl, hI2, hy2, hk2⟩; have HK2 := hide (HR1.out.2.trans hk2); clear hk2 hI2 hy2))
    go_ret
    have hb2 : Below base w _ := HK2.out.below hbase2 (fun k e => by rw [e]; exact hrb)
    exact ⟨rfl, hb2.alloc (Nat.le_trans hbase2 HK2.out.size) _, fun e => absurd e hne⟩
  · have her : er = 0 := by simpa using hz
    subst her
    rw [if_pos rfl]
    have HApp := hide (fun (W : World) (g : Nat) (a : Option Addr) (n c : Nat) hW hg hgp hC hI hy => app_one (w := w) (W := W) (base := base) (b := b) (p := p) (h := h) (L := L) (g := g) (en := en) (a := a) (n := n) (c := c) hW hG hn hok hdl2 (show p < w.heap.size by omega) hg hgp hC hI hy)
    generalize appL L [en] = rr at *
    obtain ⟨ea, La⟩ := rr
    dsimp only at *
    go_enter Tryz.func153, Tryz.ntmps153
    go_wp2_with (first
      | (go_at_call 160; go_must (refine HN.out.mono ?_); rintro e w1 ⟨rfl, hR1⟩; have HR1 := hide hR1; clear hR1)
      | (go_at_call 166; go_must (refine (HRd.out _ (by exact HR1.out.1)).mono ?_); rintro e w2 ⟨a2, n2, c2, rfl, hI2, hy2, hk2⟩; have HS1 := hide HR1.out.2.size; have HK2 := hide (HR1.out.2.trans hk2); have HI2 := hide hI2; have HY2 := hide hy2; have HP2 := hide (HPa.out _ HK2.out); clear hk2 hI2 hy2))
    have hs2 : w.heap.size ≤ w2.heap.size := HK2.out.size
    have hW3 := new_below w2 (.cells #[.int .u64 en.i, .int .u64 en.t, .int .i64 en.k, .slice a2 n2 c2] 76)
    have HP3 := hide (HP2.out.keep hW3)
    have HB4 := hide (box4_new w2 (.int .u64 en.i) (.int .u64 en.t) (.int .i64 en.k) (.slice a2 n2 c2) 76 _ rfl)
    have HFar : Hid (∀ W, Below w2.heap.size w2 W → ¬ SB 4 W p w2.heap.size) := fun W hW hk => by have := (HP2.out.log.lt (hk.same (hW.block p HP2.out.log.at))).1; omega
    have HW3 := hide hW3
    have HbW : Hid (Below base w w2) := HK2.out.below hbase2 (fun k e => by rw [e]; exact hrb)
    clear hW3
    generalize hw3 : w2.alloc (.cells #[.int .u64 en.i, .int .u64 en.t, .int .i64 en.k, .slice a2 n2 c2] 76) = w3 at *
    have hs3 : Hid (w2.heap.size < w3.heap.size) := by show _ < _; rw [← hw3]; simp
    clear hw3
    have y2 := HP3.out.box.2.2.1
    obtain ⟨b0, b1, b2, b3, -⟩ := HB4.out
    have HAt := hide (fun (o : Obj) => (show Below w3.heap.size w3 (w3.drew.alloc o) from ((Below.refl _ w3).drew).alloc (Nat.le_refl _) o))
    have hbE : Hid (w3.drew.cell? ⟨b, 2, none⟩ = some (.pointer (some ⟨p, 0, none⟩)) ∧ w3.drew.cell? ⟨w2.heap.size, 0, none⟩ = some (.int .u64 en.i) ∧ w3.drew.cell? ⟨w2.heap.size, 1, none⟩ = some (.int .u64 en.t) ∧ w3.drew.cell? ⟨w2.heap.size, 2, none⟩ = some (.int .i64 en.k) ∧ w3.drew.cell? ⟨w2.heap.size, 3, none⟩ = some (.slice a2 n2 c2)) := ⟨y2, b0, b1, b2, b3⟩
    go_region_held3 (fun W => W.cell? ⟨b, 2, none⟩ = some (.pointer (some ⟨p, 0, none⟩)) ∧ W.cell? ⟨w2.heap.size, 0, none⟩ = some (.int .u64 en.i) ∧ W.cell? ⟨w2.heap.size, 1, none⟩ = some (.int .u64 en.t) ∧ W.cell? ⟨w2.heap.size, 2, none⟩ = some (.int .i64 en.k) ∧ W.cell? ⟨w2.heap.size, 3, none⟩ = some (.slice a2 n2 c2)) (first | with_reducible exact hbE.out | go_keep) (first
      | (go_at_call 13; refine (HApp.out _ w3.heap.size a2 n2 c2 (HP3.out.keep (by exact HAt.out _)) (by simp) (by have := hs3.out; omega) (cellM_new w3.drew en a2 n2 c2 w3.heap.size _ rfl) ((HI2.out.keep HW3.out).keep (by exact HAt.out _)) (fun y hy => Nat.le_trans HS1.out (HY2.out y hy))).mono ?_; rintro e w5 ⟨rfl, hL5, hp5⟩; have HP5 := hide ((HP3.out.keep (HAt.out _)).app hL5 hp5); have HB5 := hide ((HP3.out.keep (HAt.out _)).log.below hp5 (Nat.le_trans HP3.out.hb (Nat.le_of_lt (HP3.out.keep (HAt.out _)).at))); have e0 : ∀ j, w5.cell? ⟨w2.heap.size, j, none⟩ = w3.cell? ⟨w2.heap.size, j, none⟩ := (fun j => (hp5.cell (g := w2.heap.size) (j := j) (Nat.lt_of_lt_of_le hs3.out (HAt.out _).size) (HFar.out _ (HW3.out.trans ((HAt.out _).mono HW3.out.size)))).trans ((HAt.out _).cell (p := ⟨w2.heap.size, j, none⟩) hs3.out)); have hbE : Hid (w5.cell? ⟨b, 2, none⟩ = some (.pointer (some ⟨p, 0, none⟩)) ∧ w5.cell? ⟨w2.heap.size, 0, none⟩ = some (.int .u64 en.i) ∧ w5.cell? ⟨w2.heap.size, 1, none⟩ = some (.int .u64 en.t) ∧ w5.cell? ⟨w2.heap.size, 2, none⟩ = some (.int .i64 en.k) ∧ w5.cell? ⟨w2.heap.size, 3, none⟩ = some (.slice a2 n2 c2)) := ⟨HP5.out.box.2.2.1, (e0 0).trans b0, (e0 1).trans b1, (e0 2).trans b2, (e0 3).trans b3⟩; clear e0 hL5 hp5))
    all_goals
      have hfin : Below base w w5 := (HbW.out.trans ((HW3.out.trans ((HAt.out _).mono HW3.out.size)).mono (Nat.le_trans hbase2 hs2))).trans HB5.out
      have HFin := hide hfin
      clear hfin
      go_wp2
      go_ret
      exact ⟨rfl, HFin.out, fun _ => ⟨p, HP5.out⟩⟩

end Go.Proofs.YtodmieehdleohaaGreat
