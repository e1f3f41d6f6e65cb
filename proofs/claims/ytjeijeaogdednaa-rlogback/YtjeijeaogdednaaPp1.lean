/- The law of what is put: RlogPuts. -/
import Derived.Test.YtjeijeaogdednaaPmC
import Derived.Test.YtjeijeaogdednaaOpen8
import Derived.Deep.RegionHeld
namespace Go.Proofs.Ytjeijeaogdednaa
open Go.RowKit NumMath
set_option linter.unusedVariables false
set_option maxRecDepth 100000

def memRes (bs : List Int) : List Int × Int := match memOf bs with | none => ([], 30) | some l => (l, 0)

theorem memPost_res {w w' : World} {bs : List Int} {e : Ending} (h : MemPost w bs e w') : ∃ a n c, e = .returned (.tuple #[.slice a n c, .int .i64 (memRes bs).2]) ∧ IsNums w' a n c (memRes bs).1 ∧ n = (memRes bs).1.length ∧ Below w.heap.size w w' := by
  unfold memRes
  rcases h with ⟨h1, rfl, hb⟩ | ⟨l, a, n, c, h1, rfl, ho, hr, h9, hb⟩
  · rw [h1]
    exact ⟨none, 0, 0, rfl, isNums_nil _, rfl, hb⟩
  · rw [h1]
    obtain ⟨a2, n2, c2, he, hI, -⟩ := ho.is hr
    cases he
    exact ⟨a, n, c, rfl, hI, hI.1.symm, hb⟩

/-- the boxes of what is handed in -/
def Boxes3 (w : World) (h e s : Array Value) : World := ((w.alloc (.cells h 48)).alloc (.cells e 50)).alloc (.cells s 26)

theorem boxes3_below (w : World) (h e s : Array Value) : Below w.heap.size w (Boxes3 w h e s) := by
  have b1 := new_below w (.cells h 48)
  have b2 := new_below (w.alloc (.cells h 48)) (.cells e 50)
  have b3 := new_below ((w.alloc (.cells h 48)).alloc (.cells e 50)) (.cells s 26)
  exact (b1.trans (b2.mono b1.size)).trans (b3.mono (b1.trans (b2.mono b1.size)).size)

theorem boxes3_size (w : World) (h e s : Array Value) : (Boxes3 w h e s).heap.size = w.heap.size + 3 := by unfold Boxes3; simp

theorem boxes3_cells {w W : World} {h0 h1 e0 e1 e2 e3 s0 s1 s2 s3 : Value} (hW : Below (Boxes3 w #[h0, h1] #[e0, e1, e2, e3] #[s0, s1, s2, s3]).heap.size (Boxes3 w #[h0, h1] #[e0, e1, e2, e3] #[s0, s1, s2, s3]) W) :
    W.cell? ⟨w.heap.size, 0, none⟩ = some h0 ∧ W.cell? ⟨w.heap.size, 1, none⟩ = some h1 ∧ W.cell? ⟨w.heap.size + 1, 0, none⟩ = some e0 ∧ W.cell? ⟨w.heap.size + 1, 1, none⟩ = some e1 ∧ W.cell? ⟨w.heap.size + 1, 2, none⟩ = some e2 ∧ W.cell? ⟨w.heap.size + 1, 3, none⟩ = some e3 ∧ W.cell? ⟨w.heap.size + 2, 0, none⟩ = some s0 ∧ W.cell? ⟨w.heap.size + 2, 1, none⟩ = some s1 ∧ W.cell? ⟨w.heap.size + 2, 2, none⟩ = some s2 ∧ W.cell? ⟨w.heap.size + 2, 3, none⟩ = some s3 := by
  have hs := boxes3_size w #[h0, h1] #[e0, e1, e2, e3] #[s0, s1, s2, s3]
  have b2 := new_below (w.alloc (.cells #[h0, h1] 48)) (.cells #[e0, e1, e2, e3] 50)
  have b3 := new_below ((w.alloc (.cells #[h0, h1] 48)).alloc (.cells #[e0, e1, e2, e3] 50)) (.cells #[s0, s1, s2, s3] 26)
  have z1 : (w.alloc (.cells #[h0, h1] 48)).heap.size = w.heap.size + 1 := by simp
  have z2 : ((w.alloc (.cells #[h0, h1] 48)).alloc (.cells #[e0, e1, e2, e3] 50)).heap.size = w.heap.size + 2 := by simp
  have cH : ∀ (i : Nat) (v : Value), (w.alloc (.cells #[h0, h1] 48)).cell? ⟨w.heap.size, i, none⟩ = some v → W.cell? ⟨w.heap.size, i, none⟩ = some v := fun i v h =>
    (hW.cell (by show w.heap.size < _; omega)).trans ((b3.cell (by show w.heap.size < _; omega)).trans ((b2.cell (by show w.heap.size < _; omega)).trans h))
  have cE : ∀ (i : Nat) (v : Value), ((w.alloc (.cells #[h0, h1] 48)).alloc (.cells #[e0, e1, e2, e3] 50)).cell? ⟨w.heap.size + 1, i, none⟩ = some v → W.cell? ⟨w.heap.size + 1, i, none⟩ = some v := fun i v h =>
    (hW.cell (by show w.heap.size + 1 < _; omega)).trans ((b3.cell (by show w.heap.size + 1 < _; omega)).trans h)
  have cS : ∀ (i : Nat) (v : Value), (((w.alloc (.cells #[h0, h1] 48)).alloc (.cells #[e0, e1, e2, e3] 50)).alloc (.cells #[s0, s1, s2, s3] 26)).cell? ⟨w.heap.size + 2, i, none⟩ = some v → W.cell? ⟨w.heap.size + 2, i, none⟩ = some v := fun i v h =>
    (hW.cell (by show w.heap.size + 2 < _; omega)).trans h
  exact ⟨cH 0 _ (by simp), cH 1 _ (by simp), cE 0 _ (by simp), cE 1 _ (by simp), cE 2 _ (by simp), cE 3 _ (by simp), cS 0 _ (by rw [← z2]; generalize ((w.alloc _).alloc _) = W2; simp), cS 1 _ (by rw [← z2]; generalize ((w.alloc _).alloc _) = W2; simp), cS 2 _ (by rw [← z2]; generalize ((w.alloc _).alloc _) = W2; simp), cS 3 _ (by rw [← z2]; generalize ((w.alloc _).alloc _) = W2; simp)⟩

theorem blw {W0 W W' : World} (h : Below W0.heap.size W0 W) (h' : Below W.heap.size W W') : Below W0.heap.size W0 W' := h.trans (h'.mono h.size)

/-- one entry in a slice of its own -/
theorem isMs_made {X : Nat → Prop} {W : World} {m : MEnt} (hok : m.ok X W) (ty : TypeId) (g : Nat) (hg : W.heap.size = g) : IsMs X (W.alloc (.cells #[.int .u64 m.e.i, .int .u64 m.e.t, .int .i64 m.e.k, .slice m.b m.n m.c] ty)) (some ⟨g, 0, none⟩) 1 1 [m] :=
  isMs_one _ _ _ _ (by simp; omega) (cellM_new _ _ _ _ _ _ _ hg) (hok.keep (new_below _ _))


theorem anyH_mono {P : Program} {md : Region.Mode} {ops : Array Oper} {Q : Exit → Act → World → Prop} {S S' : World → Prop} (h : ∀ W, S' W → S W) : ∀ (fuel : Nat) (listed : Array Bool) (a : Act) (w : World), wpAnyH P md ops Q S' fuel listed a w → wpAnyH P md ops Q S fuel listed a w
  | 0, _, _, _, h0 => h0
  | fuel + 1, _, _, _, h0 => ⟨h0.1, fun i hi => wpOp_mono (fun a' w' h' => ⟨h _ h'.1, anyH_mono h fuel _ a' w' h'.2⟩) (h0.2 i hi)⟩

/-- one that may come up now is taken first -/
theorem takeL {P : Program} {l : List Oper} {md : Region.Mode} {Q : Exit → Act → World → Prop} {X w : World} {i : Nat} {oi : Oper} {v : Value} {fuel : Nat} {listed : Array Bool} {a : Act} (hi : l[i]? = some oi) (hs : Region.noSelect l.toArray = true) (hf : Region.free md l.toArray listed i = true) (hr : (Region.ready md l.toArray listed).contains i = true)
    (hQ : ∀ c a w, Q (.panic c) (a.put oi.dst v) w → Q (.panic c) a w) (hwt : Region.wanted oi (yielded l.toArray a.tmps) = true) (hX : Below X.heap.size X w) (hy : ∀ W, Below X.heap.size X W → (execOp a.eval oi).run P W = .ok (.value v) W)
    (h : wpAnyH P md l.toArray Q (fun W => Below X.heap.size X W) fuel (listed.setIfInBounds i true) (a.put oi.dst v) w) : wpAnyH P md l.toArray Q (fun W => Below X.heap.size X W) (fuel + 1) listed a w :=
  wpAnyH_take (by simpa using hi) hs hf hr hQ (Or.inl ⟨hwt, hy⟩) hX h

/-- the one that may come up is a call; behind it all that stands is kept -/
theorem callL {P : Program} {l : List Oper} {md : Region.Mode} {Q : Exit → Act → World → Prop} {X w : World} {i : Nat} {o : Oper} {fuel : Nat} {listed : Array Bool} {a : Act} (hi : l[i]? = some o) (hr : Region.ready md l.toArray listed = [i])
    (h : ∀ K : Act → World → Prop, Shut (∀ a w', Below X.heap.size X w' → wpAnyH P md l.toArray Q (fun W => Below w'.heap.size w' W) fuel (listed.setIfInBounds i true) a w' → K a w') → if Region.wanted o (yielded l.toArray a.tmps) = true then Oper.wp P o a w K Q else K (a.put o.dst undef) w) :
    wpAnyH P md l.toArray Q (fun W => Below X.heap.size X W) (fuel + 1) listed a w :=
  wpAnyH_ready hr (by simp) (AllReadyH.cons (by simpa using hi) (fun K hK => h K (fun a w' hb hw => hK a w' hb (fun _ => anyH_mono (fun W hW => hb.trans (hW.mono hb.size)) _ _ _ _ hw))) AllReadyH.nil)

theorem startL {P : Program} {l : List Oper} {Q : Exit → Act → World → Prop} {id : Nat} {a : Act} {w : World} (hm : P.follows .mixedOrders = true) (h : wpAnyH P .any l.toArray Q (fun W => Below w.drew.heap.size w.drew W) l.toArray.size (Array.replicate l.toArray.size false) a w.drew) : (Code.region id l.toArray true).wp P Q a w :=
  wp_region_held_drew hm (Below.refl _ _) (fun _ => h)

set_option maxHeartbeats 4000000 in
theorem rlputs_any (t0 v0 : Int) (e1 : MEnt) (i2 t2 : Int) (ma2 : Option Addr) (mn2 mc2 : Nat) (m2 : List Int) (da2 : Option Addr) (dn2 dc2 : Nat) (d2 : List Int) (a3 : Option Addr) (len3 cap3 : Nat) (x3 : List Int) (a4 : Option Addr) (len4 cap4 : Nat) (x4 : List Int) (w : World)
    (w0 : (0 ≤ t0 ∧ t0 ≤ 18446744073709551615) ∧ (0 ≤ v0 ∧ v0 ≤ 18446744073709551615)) (w1 : e1.ok (fun _ => False) w) (w2 : IsSnap w i2 t2 ma2 mn2 mc2 m2 da2 dn2 dc2 d2) (w3 : IsNums w a3 len3 cap3 x3) (w4 : IsBytes w a4 len4 cap4 x4) :
    Calls Try.prog 4 #[.agg #[.int .u64 t0, .int .u64 v0], .agg #[.int .u64 e1.e.i, .int .u64 e1.e.t, .int .i64 e1.e.k, .slice e1.b e1.n e1.c], .agg #[.int .u64 i2, .int .u64 t2, .slice ma2 mn2 mc2, .slice da2 dn2 dc2], .slice a3 len3 cap3, .slice a4 len4 cap4] w fun e w' => e = .returned (.bool true) ∧ Below w.heap.size w w' := by
  obtain ⟨⟨ei, et, ek, ed⟩, eb, en, ec⟩ := e1
  dsimp only at *
  obtain ⟨W0, hW0⟩ : ∃ W0, Boxes3 w #[.int .u64 t0, .int .u64 v0] #[.int .u64 ei, .int .u64 et, .int .i64 ek, .slice eb en ec] #[.int .u64 i2, .int .u64 t2, .slice ma2 mn2 mc2, .slice da2 dn2 dc2] = W0 := ⟨_, rfl⟩
  have hb0 := boxes3_below w #[.int .u64 t0, .int .u64 v0] #[.int .u64 ei, .int .u64 et, .int .i64 ek, .slice eb en ec] #[.int .u64 i2, .int .u64 t2, .slice ma2 mn2 mc2, .slice da2 dn2 dc2]
  have HK := hide (fun W => boxes3_cells (w := w) (W := W) (h0 := .int .u64 t0) (h1 := .int .u64 v0) (e0 := .int .u64 ei) (e1 := .int .u64 et) (e2 := .int .i64 ek) (e3 := .slice eb en ec) (s0 := .int .u64 i2) (s1 := .int .u64 t2) (s2 := .slice ma2 mn2 mc2) (s3 := .slice da2 dn2 dc2))
  rw [hW0] at hb0 HK
  have HAw := hide (rlawake_any W0)
  rw [← hW0] at HAw
  unfold Boxes3 at HAw
  have HW0 := hide hW0
  have HB0 := hide hb0
  have HE := hide (fun (W : World) (hW : Below W0.heap.size W0 W) => isMs_made (w1.keep (hb0.trans (hW.mono hb0.size))) 50 W.heap.size rfl)
  dsimp only at HE
  have HOk := hide w1.1
  have HEd := hide (fun (W : World) (hW : Below W0.heap.size W0 W) => w1.2.1.keep (hb0.trans (hW.mono hb0.size)))
  have HM := hide (fun (W : World) (hW : Below W0.heap.size W0 W) => w2.2.2.1.keep (hb0.trans (hW.mono hb0.size)))
  have HD := hide (fun (W : World) (hW : Below W0.heap.size W0 W) => w2.2.2.2.keep (hb0.trans (hW.mono hb0.size)))
  have HN3 := hide (fun (W : World) (hW : Below W0.heap.size W0 W) => w3.keep (hb0.trans (hW.mono hb0.size)))
  have HB4 := hide (fun (W : World) (hW : Below W0.heap.size W0 W) => w4.keep (hb0.trans (hW.mono hb0.size)))
  have HI2 := hide w2.1
  have HT2 := hide w2.2.1
  have HH := hide w0
  dsimp only at HEd
  have hm3 : (len3 : Int) ≤ 9223372036854775807 := by have := w3.2.1; have := w3.2.2.1; unfold maxLen at this; omega
  have hm4 : (len4 : Int) ≤ 9223372036854775807 := by have := w4.2.1; have := w4.2.2.1; unfold maxLen at this; omega
  clear hW0 hb0 w0 w1 w2 w3 w4
  by_cases g1 : ¬ en ≤ 100
  · have HG1 : Hid (¬ en ≤ 100) := g1
    go_enter Try.func4, Try.ntmps4
    go_wp2_with (first
      | (go_at_call 8; go_must (refine HAw.out.mono ?_); rintro e wa ⟨rfl, hba⟩; (have hba : Below W0.heap.size W0 wa := (by have h := HW0.out; unfold Boxes3 at h; rw [h] at hba; exact hba)); have HBa := hide hba; obtain ⟨p0, p1, p2, p3, p4, p5, -⟩ := HK.out _ hba; clear hba)
      | (go_at_call 12; go_must (refine (small_no _ _ 1 1 _ _ (HE.out _ HBa.out) (fun h => HG1.out (h.2 _ (List.mem_singleton.2 rfl)))).mono ?_); rintro e wb ⟨rfl, hbb⟩; have HBb := hide (blw (blw HBa.out (new_below _ _)) hbb); clear hbb))
    go_ret
    exact ⟨rfl, HB0.out.trans (HBb.out.mono HB0.out.size)⟩
  have g1 : en ≤ 100 := Classical.not_not.1 g1
  have HS1 : Hid (SmallM 1 [(⟨⟨ei, et, ek, ed⟩, eb, en, ec⟩ : MEnt)]) := ⟨by omega, fun m hm => by rw [List.mem_singleton.1 hm]; exact g1⟩
  by_cases g2 : ¬ ((mn2 : Int) ≤ 9 ∧ (dn2 : Int) ≤ 200)
  · go_enter Try.func4, Try.ntmps4
    go_wp2_with (first
      | (go_at_call 8; go_must (refine HAw.out.mono ?_); rintro e wa ⟨rfl, hba⟩; (have hba : Below W0.heap.size W0 wa := (by have h := HW0.out; unfold Boxes3 at h; rw [h] at hba; exact hba)); have HBa := hide hba; obtain ⟨p0, p1, p2, p3, p4, p5, -⟩ := HK.out _ hba; clear hba)
      | (go_at_call 12; go_must (refine (small_yes _ _ 1 1 _ _ (HE.out _ HBa.out) HS1.out).mono ?_); rintro e wb ⟨rfl, hbb⟩; have HBb := hide (blw (blw HBa.out (new_below _ _)) hbb); clear hbb; obtain ⟨-, -, -, -, -, -, q0, q1, q2, q3⟩ := HK.out _ HBb.out)
      | (go_at_call 9; go_must (refine (smallS_no i2 t2 ma2 mn2 mc2 da2 dn2 dc2 _ g2).mono ?_); rintro e wc ⟨rfl, hbc⟩; have HBc := hide (blw HBb.out hbc); clear hbc))
    go_ret
    exact ⟨rfl, HB0.out.trans (HBc.out.mono HB0.out.size)⟩
  have g2 := Classical.not_not.1 g2
  obtain ⟨g2, g3⟩ := g2
  by_cases g4 : ¬ (len3 : Int) ≤ 20
  · go_enter Try.func4, Try.ntmps4
    go_wp2_with (first
      | (go_at_call 8; go_must (refine HAw.out.mono ?_); rintro e wa ⟨rfl, hba⟩; (have hba : Below W0.heap.size W0 wa := (by have h := HW0.out; unfold Boxes3 at h; rw [h] at hba; exact hba)); have HBa := hide hba; obtain ⟨p0, p1, p2, p3, p4, p5, -⟩ := HK.out _ hba; clear hba)
      | (go_at_call 12; go_must (refine (small_yes _ _ 1 1 _ _ (HE.out _ HBa.out) HS1.out).mono ?_); rintro e wb ⟨rfl, hbb⟩; have HBb := hide (blw (blw HBa.out (new_below _ _)) hbb); clear hbb; obtain ⟨-, -, -, -, -, -, q0, q1, q2, q3⟩ := HK.out _ HBb.out)
      | (go_at_call 9; go_must (refine (smallS_yes i2 t2 ma2 mn2 mc2 da2 dn2 dc2 _ g2 g3).mono ?_); rintro e wc ⟨rfl, hbc⟩; have HBc := hide (blw HBb.out hbc); clear hbc))
    go_ret
    exact ⟨rfl, HB0.out.trans (HBc.out.mono HB0.out.size)⟩
  have g4 := Classical.not_not.1 g4
  by_cases g5 : ¬ (len4 : Int) ≤ 200
  · go_enter Try.func4, Try.ntmps4
    go_wp2_with (first
      | (go_at_call 8; go_must (refine HAw.out.mono ?_); rintro e wa ⟨rfl, hba⟩; (have hba : Below W0.heap.size W0 wa := (by have h := HW0.out; unfold Boxes3 at h; rw [h] at hba; exact hba)); have HBa := hide hba; obtain ⟨p0, p1, p2, p3, p4, p5, -⟩ := HK.out _ hba; clear hba)
      | (go_at_call 12; go_must (refine (small_yes _ _ 1 1 _ _ (HE.out _ HBa.out) HS1.out).mono ?_); rintro e wb ⟨rfl, hbb⟩; have HBb := hide (blw (blw HBa.out (new_below _ _)) hbb); clear hbb; obtain ⟨-, -, -, -, -, -, q0, q1, q2, q3⟩ := HK.out _ HBb.out)
      | (go_at_call 9; go_must (refine (smallS_yes i2 t2 ma2 mn2 mc2 da2 dn2 dc2 _ g2 g3).mono ?_); rintro e wc ⟨rfl, hbc⟩; have HBc := hide (blw HBb.out hbc); clear hbc))
    go_ret
    exact ⟨rfl, HB0.out.trans (HBc.out.mono HB0.out.size)⟩
  have g5 := Classical.not_not.1 g5
  go_enter Try.func4, Try.ntmps4
  go_wp2_with (first
    | (go_at_call 8; go_must (refine HAw.out.mono ?_); rintro e wa ⟨rfl, hba⟩; (have hba : Below W0.heap.size W0 wa := (by have h := HW0.out; unfold Boxes3 at h; rw [h] at hba; exact hba)); have HBa := hide hba; obtain ⟨p0, p1, p2, p3, p4, p5, -⟩ := HK.out _ hba; clear hba)
    | (go_at_call 12; go_must (refine (small_yes _ _ 1 1 _ _ (HE.out _ HBa.out) HS1.out).mono ?_); rintro e wb ⟨rfl, hbb⟩; have HBb := hide (blw (blw HBa.out (new_below _ _)) hbb); clear hbb; obtain ⟨-, -, -, -, -, -, q0, q1, q2, q3⟩ := HK.out _ HBb.out)
    | (go_at_call 9; go_must (refine (smallS_yes i2 t2 ma2 mn2 mc2 da2 dn2 dc2 _ g2 g3).mono ?_); rintro e wc ⟨rfl, hbc⟩; have HBc := hide (blw HBb.out hbc); clear hbc)
    | (go_at_call 19; go_must (refine (ofMem_any a4 len4 cap4 x4 _ (HB4.out _ HBc.out) (by omega)).mono ?_); rintro e wd hpost; obtain ⟨ax, nx, cx, rfl, hIx, hnx, hbd⟩ := memPost_res hpost; have HIx := hide hIx; have HNx := hide hnx; have HBd := hide (blw HBc.out hbd); clear hpost hIx hnx hbd)
    | (go_at_call 20; go_must (refine (xofMem_any a4 len4 cap4 x4 _ (HB4.out _ HBd.out) (by omega)).mono ?_); rintro e we hpost; obtain ⟨ay, ny, cy, rfl, hIy, hny, hbe⟩ := memPost_res hpost; (have hxy : ny = nx := hny.trans HNx.out.symm); subst hxy; have HIx2 := hide (HIx.out.keep hbe); have HIy := hide hIy; have hbN := hide ((blw HBd.out hbe).drew); have HDr := hide ((Below.refl we.heap.size we).drew); clear hpost hIy hny hbe))
  obtain ⟨zs, er⟩ : ∃ zs, zs = (memRes x4).1 := ⟨_, rfl⟩
  rw [← er] at HIx2 HIy
  refine startL (by kernel_rfl) ?_
  refine takeL (i := 0) (v := ?v0) rfl (by kernel_rfl) (by kernel_rfl) (by kernel_rfl) (fun _ _ _ h => h) (by rfl) (Below.refl _ _) ?hy0 ?rest0
  case hy0 => (intro W hSw; obtain ⟨y0, y1, y2, y3, y4, y5, y6, y7, y8, y9⟩ := HK.out W (blw hbN.out hSw); go_simp; all_goals (with_reducible rfl))
  (try simp only [Act.put, List.setIfInBounds_toArray, List.set_cons_zero, List.set_cons_succ])
  refine takeL (i := 3) (v := ?v3) rfl (by kernel_rfl) (by kernel_rfl) (by kernel_rfl) (fun _ _ _ h => h) (by rfl) (Below.refl _ _) ?hy3 ?rest3
  case hy3 => (intro W hSw; obtain ⟨y0, y1, y2, y3, y4, y5, y6, y7, y8, y9⟩ := HK.out W (blw hbN.out hSw); go_simp; all_goals (with_reducible rfl))
  (try simp only [Act.put, List.setIfInBounds_toArray, List.set_cons_zero, List.set_cons_succ])
  refine callL (i := 1) rfl (by kernel_rfl) (fun K hK => ?_)
  go_simp
  refine (puthard_any t0 v0 _ HH.out.1 HH.out.2).mono ?_
  rintro e w6 ⟨r6, rfl, hO, hb⟩
  have HO6 := hide hO
  have hbN := hide (blw hbN.out hb)
  have HDr := hide (blw HDr.out hb)
  refine hK.out _ _ hb ?_
  clear hK K hb hO
  (try simp only [Act.put, List.setIfInBounds_toArray, List.set_cons_zero, List.set_cons_succ])
  refine takeL (i := 2) (v := ?v2) rfl (by kernel_rfl) (by kernel_rfl) (by kernel_rfl) (fun _ _ _ h => h) (by rfl) (Below.refl _ _) ?hy2 ?rest2
  case hy2 => (intro W hSw; have q := (HO6.out.keep hSw).holds.conv; go_simp; all_goals (with_reducible rfl))
  (try simp only [Act.put, List.setIfInBounds_toArray, List.set_cons_zero, List.set_cons_succ])
  refine callL (i := 4) rfl (by kernel_rfl) (fun K hK => ?_)
  go_simp
  refine (xputhard_any t0 v0 _ HH.out.1 HH.out.2).mono ?_
  rintro e w7 ⟨r7, rfl, hO, hb⟩
  have HO7 := hide hO
  have hbN := hide (blw hbN.out hb)
  have HDr := hide (blw HDr.out hb)
  refine hK.out _ _ hb ?_
  clear hK K hb hO
  (try simp only [Act.put, List.setIfInBounds_toArray, List.set_cons_zero, List.set_cons_succ])
  refine takeL (i := 5) (v := ?v5) rfl (by kernel_rfl) (by kernel_rfl) (by kernel_rfl) (fun _ _ _ h => h) (by rfl) (Below.refl _ _) ?hy5 ?rest5
  case hy5 => (intro W hSw; have q := (HO7.out.keep hSw).holds.conv; go_simp; all_goals (with_reducible rfl))
  (try simp only [Act.put, List.setIfInBounds_toArray, List.set_cons_zero, List.set_cons_succ])
  refine takeL (i := 6) (v := ?v6) rfl (by kernel_rfl) (by kernel_rfl) (by kernel_rfl) (fun _ _ _ h => h) (by rfl) (Below.refl _ _) ?hy6 ?rest6
  case hy6 => (intro W hSw; go_simp; all_goals (with_reducible rfl))
  (try simp only [Act.put, List.setIfInBounds_toArray, List.set_cons_zero, List.set_cons_succ])
  refine takeL (i := 7) (v := ?v7) rfl (by kernel_rfl) (by kernel_rfl) (by kernel_rfl) (fun _ _ _ h => h) (by rfl) (Below.refl _ _) ?hy7 ?rest7
  case hy7 => (intro W hSw; go_simp; all_goals (with_reducible rfl))
  (try simp only [Act.put, List.setIfInBounds_toArray, List.set_cons_zero, List.set_cons_succ])
  refine takeL (i := 8) (v := ?v8) rfl (by kernel_rfl) (by kernel_rfl) (by kernel_rfl) (fun _ _ _ h => h) (by rfl) (Below.refl _ _) ?hy8 ?rest8
  case hy8 => (intro W hSw; obtain ⟨y0, y1, y2, y3, y4, y5, y6, y7, y8, y9⟩ := HK.out W (blw hbN.out hSw); go_simp; all_goals (with_reducible rfl))
  (try simp only [Act.put, List.setIfInBounds_toArray, List.set_cons_zero, List.set_cons_succ])
  refine takeL (i := 11) (v := ?v11) rfl (by kernel_rfl) (by kernel_rfl) (by kernel_rfl) (fun _ _ _ h => h) (by rfl) (Below.refl _ _) ?hy11 ?rest11
  case hy11 => (intro W hSw; obtain ⟨y0, y1, y2, y3, y4, y5, y6, y7, y8, y9⟩ := HK.out W (blw hbN.out hSw); go_simp; all_goals (with_reducible rfl))
  (try simp only [Act.put, List.setIfInBounds_toArray, List.set_cons_zero, List.set_cons_succ])
  refine callL (i := 9) rfl (by kernel_rfl) (fun K hK => ?_)
  go_simp
  refine (putent_any ⟨ei, et, ek, ed⟩ eb en ec _ HOk.out (HEd.out _ hbN.out) (by omega)).mono ?_
  rintro e w8 ⟨r8, rfl, hO, hb⟩
  have HO8 := hide hO
  have hbN := hide (blw hbN.out hb)
  have HDr := hide (blw HDr.out hb)
  refine hK.out _ _ hb ?_
  clear hK K hb hO
  (try simp only [Act.put, List.setIfInBounds_toArray, List.set_cons_zero, List.set_cons_succ])
  refine takeL (i := 10) (v := ?v10) rfl (by kernel_rfl) (by kernel_rfl) (by kernel_rfl) (fun _ _ _ h => h) (by rfl) (Below.refl _ _) ?hy10 ?rest10
  case hy10 => (intro W hSw; have q := (HO8.out.keep hSw).holds.conv; go_simp; all_goals (with_reducible rfl))
  (try simp only [Act.put, List.setIfInBounds_toArray, List.set_cons_zero, List.set_cons_succ])
  refine callL (i := 12) rfl (by kernel_rfl) (fun K hK => ?_)
  go_simp
  refine (xputent_any ⟨ei, et, ek, ed⟩ eb en ec _ HOk.out (HEd.out _ hbN.out) (by omega)).mono ?_
  rintro e w9 ⟨r9, rfl, hO, hb⟩
  have HO9 := hide hO
  have hbN := hide (blw hbN.out hb)
  have HDr := hide (blw HDr.out hb)
  refine hK.out _ _ hb ?_
  clear hK K hb hO
  (try simp only [Act.put, List.setIfInBounds_toArray, List.set_cons_zero, List.set_cons_succ])
  refine takeL (i := 13) (v := ?v13) rfl (by kernel_rfl) (by kernel_rfl) (by kernel_rfl) (fun _ _ _ h => h) (by rfl) (Below.refl _ _) ?hy13 ?rest13
  case hy13 => (intro W hSw; have q := (HO9.out.keep hSw).holds.conv; go_simp; all_goals (with_reducible rfl))
  (try simp only [Act.put, List.setIfInBounds_toArray, List.set_cons_zero, List.set_cons_succ])
  refine takeL (i := 14) (v := ?v14) rfl (by kernel_rfl) (by kernel_rfl) (by kernel_rfl) (fun _ _ _ h => h) (by rfl) (Below.refl _ _) ?hy14 ?rest14
  case hy14 => (intro W hSw; go_simp; all_goals (with_reducible rfl))
  (try simp only [Act.put, List.setIfInBounds_toArray, List.set_cons_zero, List.set_cons_succ])
  refine takeL (i := 15) (v := ?v15) rfl (by kernel_rfl) (by kernel_rfl) (by kernel_rfl) (fun _ _ _ h => h) (by rfl) (Below.refl _ _) ?hy15 ?rest15
  case hy15 => (intro W hSw; go_simp; all_goals (with_reducible rfl))
  (try simp only [Act.put, List.setIfInBounds_toArray, List.set_cons_zero, List.set_cons_succ])
  refine takeL (i := 16) (v := ?v16) rfl (by kernel_rfl) (by kernel_rfl) (by kernel_rfl) (fun _ _ _ h => h) (by rfl) (Below.refl _ _) ?hy16 ?rest16
  case hy16 => (intro W hSw; go_simp; all_goals (with_reducible rfl))
  (try simp only [Act.put, List.setIfInBounds_toArray, List.set_cons_zero, List.set_cons_succ])
  refine takeL (i := 17) (v := ?v17) rfl (by kernel_rfl) (by kernel_rfl) (by kernel_rfl) (fun _ _ _ h => h) (by rfl) (Below.refl _ _) ?hy17 ?rest17
  case hy17 => (intro W hSw; obtain ⟨y0, y1, y2, y3, y4, y5, y6, y7, y8, y9⟩ := HK.out W (blw hbN.out hSw); go_simp; all_goals (with_reducible rfl))
  (try simp only [Act.put, List.setIfInBounds_toArray, List.set_cons_zero, List.set_cons_succ])
  refine takeL (i := 20) (v := ?v20) rfl (by kernel_rfl) (by kernel_rfl) (by kernel_rfl) (fun _ _ _ h => h) (by rfl) (Below.refl _ _) ?hy20 ?rest20
  case hy20 => (intro W hSw; obtain ⟨y0, y1, y2, y3, y4, y5, y6, y7, y8, y9⟩ := HK.out W (blw hbN.out hSw); go_simp; all_goals (with_reducible rfl))
  (try simp only [Act.put, List.setIfInBounds_toArray, List.set_cons_zero, List.set_cons_succ])
  refine callL (i := 18) rfl (by kernel_rfl) (fun K hK => ?_)
  go_simp
  refine (putsnap_any ⟨i2, t2, m2, d2⟩ ma2 mn2 mc2 da2 dn2 dc2 _ HI2.out HT2.out (HM.out _ hbN.out) (HD.out _ hbN.out) (by omega) (by omega)).mono ?_
  rintro e w10 ⟨r10, rfl, hO, hb⟩
  have HO10 := hide hO
  have hbN := hide (blw hbN.out hb)
  have HDr := hide (blw HDr.out hb)
  refine hK.out _ _ hb ?_
  clear hK K hb hO
  (try simp only [Act.put, List.setIfInBounds_toArray, List.set_cons_zero, List.set_cons_succ])
  refine takeL (i := 19) (v := ?v19) rfl (by kernel_rfl) (by kernel_rfl) (by kernel_rfl) (fun _ _ _ h => h) (by rfl) (Below.refl _ _) ?hy19 ?rest19
  case hy19 => (intro W hSw; have q := (HO10.out.keep hSw).holds.conv; go_simp; all_goals (with_reducible rfl))
  (try simp only [Act.put, List.setIfInBounds_toArray, List.set_cons_zero, List.set_cons_succ])
  refine callL (i := 21) rfl (by kernel_rfl) (fun K hK => ?_)
  go_simp
  refine (xputsnap_any ⟨i2, t2, m2, d2⟩ ma2 mn2 mc2 da2 dn2 dc2 _ HI2.out HT2.out (HM.out _ hbN.out) (HD.out _ hbN.out) (by omega) (by omega)).mono ?_
  rintro e w11 ⟨r11, rfl, hO, hb⟩
  have HO11 := hide hO
  have hbN := hide (blw hbN.out hb)
  have HDr := hide (blw HDr.out hb)
  refine hK.out _ _ hb ?_
  clear hK K hb hO
  (try simp only [Act.put, List.setIfInBounds_toArray, List.set_cons_zero, List.set_cons_succ])
  refine takeL (i := 22) (v := ?v22) rfl (by kernel_rfl) (by kernel_rfl) (by kernel_rfl) (fun _ _ _ h => h) (by rfl) (Below.refl _ _) ?hy22 ?rest22
  case hy22 => (intro W hSw; have q := (HO11.out.keep hSw).holds.conv; go_simp; all_goals (with_reducible rfl))
  (try simp only [Act.put, List.setIfInBounds_toArray, List.set_cons_zero, List.set_cons_succ])
  refine takeL (i := 23) (v := ?v23) rfl (by kernel_rfl) (by kernel_rfl) (by kernel_rfl) (fun _ _ _ h => h) (by rfl) (Below.refl _ _) ?hy23 ?rest23
  case hy23 => (intro W hSw; go_simp; all_goals (with_reducible rfl))
  (try simp only [Act.put, List.setIfInBounds_toArray, List.set_cons_zero, List.set_cons_succ])
  refine takeL (i := 24) (v := ?v24) rfl (by kernel_rfl) (by kernel_rfl) (by kernel_rfl) (fun _ _ _ h => h) (by rfl) (Below.refl _ _) ?hy24 ?rest24
  case hy24 => (intro W hSw; go_simp; all_goals (with_reducible rfl))
  (try simp only [Act.put, List.setIfInBounds_toArray, List.set_cons_zero, List.set_cons_succ])
  refine takeL (i := 25) (v := ?v25) rfl (by kernel_rfl) (by kernel_rfl) (by kernel_rfl) (fun _ _ _ h => h) (by rfl) (Below.refl _ _) ?hy25 ?rest25
  case hy25 => (intro W hSw; go_simp; all_goals (with_reducible rfl))
  (try simp only [Act.put, List.setIfInBounds_toArray, List.set_cons_zero, List.set_cons_succ])
  refine takeL (i := 26) (v := ?v26) rfl (by kernel_rfl) (by kernel_rfl) (by kernel_rfl) (fun _ _ _ h => h) (by rfl) (Below.refl _ _) ?hy26 ?rest26
  case hy26 => (intro W hSw; go_simp; all_goals (with_reducible rfl))
  (try simp only [Act.put, List.setIfInBounds_toArray, List.set_cons_zero, List.set_cons_succ])
  refine takeL (i := 29) (v := ?v29) rfl (by kernel_rfl) (by kernel_rfl) (by kernel_rfl) (fun _ _ _ h => h) (by rfl) (Below.refl _ _) ?hy29 ?rest29
  case hy29 => (intro W hSw; go_simp; all_goals (with_reducible rfl))
  (try simp only [Act.put, List.setIfInBounds_toArray, List.set_cons_zero, List.set_cons_succ])
  refine callL (i := 27) rfl (by kernel_rfl) (fun K hK => ?_)
  go_simp
  refine (putmem_any a3 len3 cap3 x3 _ (HN3.out _ hbN.out) (by omega)).mono ?_
  rintro e w12 ⟨r12, rfl, hO, hb⟩
  have HO12 := hide hO
  have hbN := hide (blw hbN.out hb)
  have HDr := hide (blw HDr.out hb)
  refine hK.out _ _ hb ?_
  clear hK K hb hO
  (try simp only [Act.put, List.setIfInBounds_toArray, List.set_cons_zero, List.set_cons_succ])
  refine takeL (i := 28) (v := ?v28) rfl (by kernel_rfl) (by kernel_rfl) (by kernel_rfl) (fun _ _ _ h => h) (by rfl) (Below.refl _ _) ?hy28 ?rest28
  case hy28 => (intro W hSw; have q := (HO12.out.keep hSw).holds.conv; go_simp; all_goals (with_reducible rfl))
  (try simp only [Act.put, List.setIfInBounds_toArray, List.set_cons_zero, List.set_cons_succ])
  refine callL (i := 30) rfl (by kernel_rfl) (fun K hK => ?_)
  go_simp
  refine (xputmem_any a3 len3 cap3 x3 _ (HN3.out _ hbN.out) (by omega)).mono ?_
  rintro e w13 ⟨r13, rfl, hO, hb⟩
  have HO13 := hide hO
  have hbN := hide (blw hbN.out hb)
  have HDr := hide (blw HDr.out hb)
  refine hK.out _ _ hb ?_
  clear hK K hb hO
  (try simp only [Act.put, List.setIfInBounds_toArray, List.set_cons_zero, List.set_cons_succ])
  refine takeL (i := 31) (v := ?v31) rfl (by kernel_rfl) (by kernel_rfl) (by kernel_rfl) (fun _ _ _ h => h) (by rfl) (Below.refl _ _) ?hy31 ?rest31
  case hy31 => (intro W hSw; have q := (HO13.out.keep hSw).holds.conv; go_simp; all_goals (with_reducible rfl))
  (try simp only [Act.put, List.setIfInBounds_toArray, List.set_cons_zero, List.set_cons_succ])
  refine takeL (i := 32) (v := ?v32) rfl (by kernel_rfl) (by kernel_rfl) (by kernel_rfl) (fun _ _ _ h => h) (by rfl) (Below.refl _ _) ?hy32 ?rest32
  case hy32 => (intro W hSw; go_simp; all_goals (with_reducible rfl))
  (try simp only [Act.put, List.setIfInBounds_toArray, List.set_cons_zero, List.set_cons_succ])
  refine takeL (i := 33) (v := ?v33) rfl (by kernel_rfl) (by kernel_rfl) (by kernel_rfl) (fun _ _ _ h => h) (by rfl) (Below.refl _ _) ?hy33 ?rest33
  case hy33 => (intro W hSw; go_simp; all_goals (with_reducible rfl))
  (try simp only [Act.put, List.setIfInBounds_toArray, List.set_cons_zero, List.set_cons_succ])
  refine takeL (i := 34) (v := ?v34) rfl (by kernel_rfl) (by kernel_rfl) (by kernel_rfl) (fun _ _ _ h => h) (by rfl) (Below.refl _ _) ?hy34 ?rest34
  case hy34 => (intro W hSw; go_simp; all_goals (with_reducible rfl))
  (try simp only [Act.put, List.setIfInBounds_toArray, List.set_cons_zero, List.set_cons_succ])
  refine takeL (i := 35) (v := ?v35) rfl (by kernel_rfl) (by kernel_rfl) (by kernel_rfl) (fun _ _ _ h => h) (by rfl) (Below.refl _ _) ?hy35 ?rest35
  case hy35 => (intro W hSw; go_simp; all_goals (with_reducible rfl))
  (try simp only [Act.put, List.setIfInBounds_toArray, List.set_cons_zero, List.set_cons_succ])
  refine takeL (i := 36) (v := ?v36) rfl (by kernel_rfl) (by kernel_rfl) (by kernel_rfl) (fun _ _ _ h => h) (by rfl) (Below.refl _ _) ?hy36 ?rest36
  case hy36 => (intro W hSw; go_simp; all_goals (with_reducible rfl))
  (try simp only [Act.put, List.setIfInBounds_toArray, List.set_cons_zero, List.set_cons_succ])
  refine callL (i := 37) rfl (by kernel_rfl) (fun K hK => ?_)
  go_simp
  refine (sameU_any ax ay _ cx cy zs _ (HIx2.out.keep HDr.out) (HIy.out.keep HDr.out)).mono ?_
  rintro e w14 ⟨rfl, hb⟩
  have hbN := hide (blw hbN.out hb)
  have HDr := hide (blw HDr.out hb)
  refine hK.out _ _ hb ?_
  clear hK K hb
  (try simp only [Act.put, List.setIfInBounds_toArray, List.set_cons_zero, List.set_cons_succ])
  refine takeL (i := 38) (v := ?v38) rfl (by kernel_rfl) (by kernel_rfl) (by kernel_rfl) (fun _ _ _ h => h) (by rfl) (Below.refl _ _) ?hy38 ?rest38
  case hy38 => (intro W hSw; go_simp; all_goals (with_reducible rfl))
  (try simp only [Act.put, List.setIfInBounds_toArray, List.set_cons_zero, List.set_cons_succ])
  refine takeL (i := 39) (v := ?v39) rfl (by kernel_rfl) (by kernel_rfl) (by kernel_rfl) (fun _ _ _ h => h) (by rfl) (Below.refl _ _) ?hy39 ?rest39
  case hy39 => (intro W hSw; go_simp; all_goals (with_reducible rfl))
  (try simp only [Act.put, List.setIfInBounds_toArray, List.set_cons_zero, List.set_cons_succ])
  refine takeL (i := 40) (v := ?v40) rfl (by kernel_rfl) (by kernel_rfl) (by kernel_rfl) (fun _ _ _ h => h) (by rfl) (Below.refl _ _) ?hy40 ?rest40
  case hy40 => (intro W hSw; go_simp; all_goals (with_reducible rfl))
  (try simp only [Act.put, List.setIfInBounds_toArray, List.set_cons_zero, List.set_cons_succ])
  refine takeL (i := 41) (v := ?v41) rfl (by kernel_rfl) (by kernel_rfl) (by kernel_rfl) (fun _ _ _ h => h) (by rfl) (Below.refl _ _) ?hy41 ?rest41
  case hy41 => (intro W hSw; go_simp; all_goals (with_reducible rfl))
  (try simp only [Act.put, List.setIfInBounds_toArray, List.set_cons_zero, List.set_cons_succ])
  refine takeL (i := 42) (v := ?v42) rfl (by kernel_rfl) (by kernel_rfl) (by kernel_rfl) (fun _ _ _ h => h) (by rfl) (Below.refl _ _) ?hy42 ?rest42
  case hy42 => (intro W hSw; go_simp; all_goals (with_reducible rfl))
  (try simp only [Act.put, List.setIfInBounds_toArray, List.set_cons_zero, List.set_cons_succ])
  refine takeL (i := 43) (v := ?v43) rfl (by kernel_rfl) (by kernel_rfl) (by kernel_rfl) (fun _ _ _ h => h) (by rfl) (Below.refl _ _) ?hy43 ?rest43
  case hy43 => (intro W hSw; go_simp; all_goals (with_reducible rfl))
  (try simp only [Act.put, List.setIfInBounds_toArray, List.set_cons_zero, List.set_cons_succ])
  refine takeL (i := 44) (v := ?v44) rfl (by kernel_rfl) (by kernel_rfl) (by kernel_rfl) (fun _ _ _ h => h) (by rfl) (Below.refl _ _) ?hy44 ?rest44
  case hy44 => (intro W hSw; go_simp; all_goals (with_reducible rfl))
  (try simp only [Act.put, List.setIfInBounds_toArray, List.set_cons_zero, List.set_cons_succ])
  refine wpAnyH_done (by kernel_rfl) ?_ _
  go_wp2
  go_ret
  exact ⟨rfl, HB0.out.trans (hbN.out.mono HB0.out.size)⟩

end Go.Proofs.Ytjeijeaogdednaa
