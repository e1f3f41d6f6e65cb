/- The program's sets and rows of edges in memory. The program's waitsOf: what it answers. -/
import Derived.Test.YtcgiicmmfleinaaGreatDoorMpV
import Derived.Test.YtcgiicmmfleinaaGreatDoorWtL
import Derived.Test.YtcgiicmmfleinaaGreatDoorTx
namespace Go.Proofs.YtcgiicmmfleinaaGreatDoor
open Go.RowKit NumMath Go.ChangeShapes Go.WideShapes Go.Deep
set_option linter.unusedVariables false
set_option maxRecDepth 100000

theorem keyedE : Maps.Keyed Tryz.prog 222 := Maps.Keyed.of_law (deep_law_laid laidV (m := 3) (by omega) (of_decide_eq_true (by kernel_rfl)) (by kernel_rfl) (by kernel_rfl))

/-- a pair as a key -/
def keyP (x y : Int) : Lit := .string (keyBytes [.int .u64 x, .int .u64 y])

theorem keyE_type : Tryz.prog.keyType 222 = true := by kernel_rfl

theorem sizeV : ∃ m, Tryz.prog.types.size = m + 1 := ⟨Tryz.prog.types.size - 1, by have : 0 < Tryz.prog.types.size := of_decide_eq_true (by kernel_rfl); omega⟩

theorem cellsE2 : Tryz.prog.cellsOf 222 = 2 := by kernel_rfl

theorem cellsU1 : Tryz.prog.cellsOf 31 = 1 := by kernel_rfl

theorem keyE {x y : Int} (hx : U64 x) (hy : U64 y) : keyOf Tryz.prog 222 (.agg #[.int .u64 x, .int .u64 y]) = some (keyP x y) := by
  have hkt := keyE_type
  obtain ⟨m, hm⟩ := sizeV
  have wx := wf_u64 hx
  have wy := wf_u64 hy
  unfold keyOf keyP
  simp only [Tryz.underlying222]
  rw [if_pos (by simp [hkt, Value.formed, Tryz.underlying222, cellsE2]), hm]
  unfold Program.keyLits
  simp only [Tryz.underlying222, Value.cells]
  rw [if_pos (by rw [cellsE2]; exact ⟨rfl, by kernel_rfl⟩), List.mapM_cons, List.mapM_cons, List.mapM_nil]
  simp [cellsU1, Program.keyLits, Tryz.underlying31, wx, wy]

theorem keyP_inj {x y x' y' : Int} (hx : U64 x) (hy : U64 y) (hx' : U64 x') (hy' : U64 y') (h : keyP x y = keyP x' y') : x = x' ∧ y = y' := by
  have h1 := keyE hx hy
  rw [h] at h1
  have := keyedE.inj h1 (keyE hx' hy')
  simpa using this

theorem zeroS (w : World) : (zeroValue 249).run Tryz.prog w = .ok (.agg #[]) w := by kernel_rfl

theorem zeroR (w : World) : (zeroValue 197).run Tryz.prog w = .ok (.slice none 0 0) w := by kernel_rfl

theorem zeroE (w : World) : (zeroValue 222).run Tryz.prog w = .ok (.agg #[.int .u64 0, .int .u64 0]) w := by kernel_rfl

/-- the map in block b is a set of numbers -/
def SetU (w : World) (b z : Nat) (P : Int → Bool) : Prop := ∃ f, MapV w 31 b z f ∧ (∀ l v, f l = some v → v = .agg #[]) ∧ ∀ x, U64 x → (f (.int .u64 x)).isSome = P x

/-- the map in block b is a set of pairs -/
def SetE (w : World) (b z : Nat) (P : Int × Int → Bool) : Prop := ∃ f, MapV w 222 b z f ∧ (∀ l v, f l = some v → v = .agg #[]) ∧ ∀ x y, U64 x → U64 y → (f (keyP x y)).isSome = P (x, y)

theorem unit_of {f : Lit → Option Value} (h : ∀ l v, f l = some v → v = .agg #[]) (l : Lit) : (f l).getD (.agg #[]) = .agg #[] := by
  cases hf : f l with
  | none => rfl
  | some v => exact h l v hf

theorem SetU.same {w w' : World} {b z : Nat} {P : Int → Bool} (h : SetU w b z P) (e : w'.heap[b]? = w.heap[b]?) : SetU w' b z P := by
  obtain ⟨f, h1, h2, h3⟩ := h
  exact ⟨f, h1.same e, h2, h3⟩

theorem SetU.lt {w : World} {b z : Nat} {P : Int → Bool} (h : SetU w b z P) : b < w.heap.size := by
  obtain ⟨f, h1, _⟩ := h
  exact h1.lt

theorem setU_new (w : World) (o : Obj) (ho : o = .map #[] 0) (g : Nat) (hg : w.heap.size = g) : SetU (w.alloc o) g 0 (fun _ => false) :=
  ⟨_, mapV_new w _ o ho g hg, fun l v h => (by cases h), fun x _ => rfl⟩

theorem SetU.look {w : World} {b z : Nat} {P : Int → Bool} (h : SetU w b z P) {x : Int} (hx : U64 x) : ∀ W : World, W.heap[b]? = w.heap[b]? → (Instr.lookup 252 (.map (some b)) (.int .u64 x) true).run Tryz.prog W = .ok (.tuple #[.agg #[], .bool (P x)]) W := by
  intro W hW
  obtain ⟨f, h1, h2, h3⟩ := h
  rw [h1.lookOk keyedU Tryz.underlying252 zeroS (keyU hx) W hW, unit_of h2, h3 x hx]

theorem SetU.put {w : World} {b z : Nat} {P : Int → Bool} (h : SetU w b z P) (hz : z ≤ 1000000) {x : Int} (hx : U64 x) : ∃ w', (Instr.mapUpdate 252 (.map (some b)) (.int .u64 x) (.agg #[])).run Tryz.prog w = .ok () w' ∧ SetU w' b (z + 1) (fun y => P y || y == x) ∧ w.grownBy w' (some b) := by
  obtain ⟨f, h1, h2, h3⟩ := h
  obtain ⟨w', r1, r2, r3⟩ := h1.put hz keyedU Tryz.underlying252 (keyU hx) (.agg #[])
  refine ⟨w', r1, ⟨_, r2, fun l v hv => ?_, fun y hy => ?_⟩, r3⟩
  · by_cases e : l = .int .u64 x
    · subst e; rw [setF_same] at hv; cases hv; rfl
    · rw [setF_other _ _ e] at hv; exact h2 l v hv
  · by_cases e : y = x
    · subst e; rw [setF_same]; simp
    · rw [setF_other _ _ (fun h => e (by simpa using h)), h3 y hy]; simp [e]

theorem SetE.same {w w' : World} {b z : Nat} {P : Int × Int → Bool} (h : SetE w b z P) (e : w'.heap[b]? = w.heap[b]?) : SetE w' b z P := by
  obtain ⟨f, h1, h2, h3⟩ := h
  exact ⟨f, h1.same e, h2, h3⟩

theorem SetE.lt {w : World} {b z : Nat} {P : Int × Int → Bool} (h : SetE w b z P) : b < w.heap.size := by
  obtain ⟨f, h1, _⟩ := h
  exact h1.lt

theorem setE_new (w : World) (o : Obj) (ho : o = .map #[] 0) (g : Nat) (hg : w.heap.size = g) : SetE (w.alloc o) g 0 (fun _ => false) :=
  ⟨_, mapV_new w _ o ho g hg, fun l v h => (by cases h), fun x y _ _ => rfl⟩

theorem SetE.look {w : World} {b z : Nat} {P : Int × Int → Bool} (h : SetE w b z P) {x y : Int} (hx : U64 x) (hy : U64 y) : ∀ W : World, W.heap[b]? = w.heap[b]? → (Instr.lookup 248 (.map (some b)) (.agg #[.int .u64 x, .int .u64 y]) true).run Tryz.prog W = .ok (.tuple #[.agg #[], .bool (P (x, y))]) W := by
  intro W hW
  obtain ⟨f, h1, h2, h3⟩ := h
  rw [h1.lookOk keyedE Tryz.underlying248 zeroS (keyE hx hy) W hW, unit_of h2, h3 x y hx hy]

theorem SetE.put {w : World} {b z : Nat} {P : Int × Int → Bool} (h : SetE w b z P) (hz : z ≤ 1000000) {x y : Int} (hx : U64 x) (hy : U64 y) : ∃ w', (Instr.mapUpdate 248 (.map (some b)) (.agg #[.int .u64 x, .int .u64 y]) (.agg #[])).run Tryz.prog w = .ok () w' ∧ SetE w' b (z + 1) (fun e => P e || e == (x, y)) ∧ w.grownBy w' (some b) := by
  obtain ⟨f, h1, h2, h3⟩ := h
  obtain ⟨w', r1, r2, r3⟩ := h1.put hz keyedE Tryz.underlying248 (keyE hx hy) (.agg #[])
  refine ⟨w', r1, ⟨_, r2, fun l v hv => ?_, fun x' y' hx' hy' => ?_⟩, r3⟩
  · by_cases e : l = keyP x y
    · subst e; rw [setF_same] at hv; cases hv; rfl
    · rw [setF_other _ _ e] at hv; exact h2 l v hv
  · by_cases e : (x', y') = (x, y)
    · cases e; rw [setF_same]; simp
    · rw [setF_other _ _ (fun h => e (by obtain ⟨h1, h2⟩ := keyP_inj hx' hy' hx hy h; rw [h1, h2])), h3 x' y' hx' hy']
      simp only [beq_eq_false_iff_ne.2 e, Bool.or_false]

theorem SetE.like {w : World} {b z z' : Nat} {P P' : Int × Int → Bool} (h : SetE w b z P) (hz : z ≤ z') (e : ∀ p, P' p = P p) : SetE w b z' P' := by
  obtain ⟨f, h1, h2, h3⟩ := h
  exact ⟨f, h1.more hz, h2, fun x y hx hy => (h3 x y hx hy).trans (e _).symm⟩

theorem SetU.like {w : World} {b z z' : Nat} {P P' : Int → Bool} (h : SetU w b z P) (hz : z ≤ z') (e : ∀ p, P' p = P p) : SetU w b z' P' := by
  obtain ⟨f, h1, h2, h3⟩ := h
  exact ⟨f, h1.more hz, h2, fun x hx => (h3 x hx).trans (e _).symm⟩

/-- rows of edges by who waits: map at mb, f what stands there, d the edges; the rows lie from base on -/
structure RowsW (w : World) (base mb z : Nat) (f : Lit → Option Value) (d : List (Int × Int)) : Prop where
  map : MapV w 31 mb z f
  row : ∀ q, U64 q → OwnY layE w base ((f (.int .u64 q)).getD (.slice none 0 0)) (rowsE d q)
  off : ∀ q q', U64 q → U64 q' → q ≠ q' → OffY ((f (.int .u64 q)).getD (.slice none 0 0)) ((f (.int .u64 q')).getD (.slice none 0 0))
  mb : mb < base

theorem rowsW_new (w : World) (o : Obj) (ho : o = .map #[] 0) (g base : Nat) (hg : w.heap.size = g) (hb : g < base) : RowsW (w.alloc o) base g 0 (fun _ => none) [] :=
  ⟨mapV_new w _ o ho g hg, fun q _ => ownY_nil _ _, fun q q' _ _ _ g hg => (by cases hg), hb⟩

theorem RowsW.keep {w w' : World} {base mb z : Nat} {f : Lit → Option Value} {d : List (Int × Int)} (h : RowsW w base mb z f d) (hb : Below w.heap.size w w') : RowsW w' base mb z f d :=
  ⟨h.map.keep hb, fun q hq => (h.row q hq).keep hb, h.off, h.mb⟩

theorem RowsW.more {w : World} {base mb z z' : Nat} {f : Lit → Option Value} {d : List (Int × Int)} (h : RowsW w base mb z f d) (hz : z ≤ z') : RowsW w base mb z' f d := ⟨h.map.more hz, h.row, h.off, h.mb⟩

/-- .. where only one block, not one of these, is another -/
theorem RowsW.kept {w w' : World} {base mb z k : Nat} {f : Lit → Option Value} {d : List (Int × Int)} (h : RowsW w base mb z f d) (hg : w.grownBy w' (some k)) (h1 : k ≠ mb) (h2 : k < base) : RowsW w' base mb z f d :=
  ⟨h.map.same (hg.block mb h.map.lt (fun e => h1 (by cases e; rfl))), fun q hq => (h.row q hq).lies (fun g hv => hg.block g ((h.row q hq).lt g hv).2 (fun e => by have := ((h.row q hq).lt g hv).1; cases e; omega)), h.off, h.mb⟩

/-- a row grown, and laid at its key -/
theorem RowsW.laid {w w1 w2 : World} {base mb z : Nat} {f : Lit → Option Value} {d : List (Int × Int)} (h : RowsW w base mb z f d) {x : Int} (hx : U64 x) {e : Int × Int} (he : e.1 = x) {v : Value} (hg : w.grownBy w1 ((f (.int .u64 x)).getD (.slice none 0 0)).ownBlock) (hv : OwnY layE w1 base v (rowsE d x ++ [e])) (ha : AtB w ((f (.int .u64 x)).getD (.slice none 0 0)) v)
    (hm : MapV w2 31 mb (z + 1) (setF f (.int .u64 x) (some v))) (hg2 : w1.grownBy w2 (some mb)) : RowsW w2 base mb (z + 1) (setF f (.int .u64 x) (some v)) (d ++ [e]) := by
  have hlt := fun q (hq : U64 q) g hu => ((h.row q hq).lt g hu).2
  have hoff : ∀ q, U64 q → q ≠ x → OffY v ((f (.int .u64 q)).getD (.slice none 0 0)) := fun q hq hne => (h.off x q hx hq (Ne.symm hne)).grown ha (hlt q hq)
  have key : ∀ q, q ≠ x → setF f (.int .u64 x) (some v) (.int .u64 q) = f (.int .u64 q) := fun q hne => setF_other _ _ (fun h => hne (by simpa using h))
  have hmb : ∀ (u : Value) (ys : List (Int × Int)) (W : World), OwnY layE W base u ys → ∀ g, u.ownBlock = some g → some g ≠ some mb := fun u ys W ho g hu e => by
    have := (ho.lt g hu).1
    have := h.mb
    cases e; omega
  refine ⟨hm, fun q hq => ?_, fun q q' hq hq' hne => ?_, h.mb⟩
  · by_cases hqx : q = x
    · subst hqx
      rw [setF_same, rowsE_more, if_pos he]
      exact hv.lies (fun g hu => hg2.block g (hv.lt g hu).2 (hmb _ _ _ hv g hu))
    · rw [key q hqx, rowsE_more, if_neg (by rw [he]; exact Ne.symm hqx)]
      have h1 : OwnY layE w1 base ((f (.int .u64 q)).getD (.slice none 0 0)) (rowsE d q) := (h.row q hq).off (h.off x q hx hq (Ne.symm hqx)) hg
      exact h1.lies (fun g hu => hg2.block g (h1.lt g hu).2 (hmb _ _ _ h1 g hu))
  · by_cases hqx : q = x
    · subst hqx
      rw [setF_same, key q' (Ne.symm hne)]
      exact hoff q' hq' (Ne.symm hne)
    · rw [key q hqx]
      by_cases hqx' : q' = x
      · subst hqx'
        rw [setF_same]
        exact (hoff q hq hqx).symm
      · rw [key q' hqx']
        exact h.off q q' hq hq' hne

/-- one is taken first, S held -/
theorem takeS {P : Program} {l : List Oper} {md : Region.Mode} {Q : Exit → Act → World → Prop} {S : World → Prop} {w : World} {E i : Nat} {oi : Oper} {v : Value} {fuel : Nat} {listed : Array Bool} {a : Act} (hi : l[i]? = some oi) (hs : Region.noSelect l.toArray = true) (hf : Region.free md l.toArray listed i = true) (hr : (Region.ready md l.toArray listed).contains i = true) (hE : (i != E && waitsX md l E i) = true)
    (hQ : ∀ c a w, Q (.panic c) (a.put oi.dst v) w → Q (.panic c) a w) (hwt : Region.wanted oi (yielded l.toArray a.tmps) = true) (hS : S w) (hy : ∀ W, S W → (execOp a.eval oi).run P W = .ok (.value v) W)
    (h : wpAnyX P md l.toArray Q S E fuel (listed.setIfInBounds i true) (a.put oi.dst v) w) : wpAnyX P md l.toArray Q S E (fuel + 1) listed a w := by
  rw [Bool.and_eq_true] at hE
  refine wpAnyX_first (by simpa using hi) (Region.noSelect_spec hs) hQ (by simpa using hE.1) ?_ fuel listed a w (Region.free_spec (by simpa using hi) hf) (by simpa using hr) (Or.inl ⟨hwt, hy⟩) hS h
  intro o ho
  have h2 := hE.2
  unfold waitsX at h2
  rw [List.getElem?_toArray] at ho
  rw [ho] at h2
  dsimp only at h2
  rw [Array.any_eq_true'] at h2
  obtain ⟨e, he, h3⟩ := h2
  rw [Bool.and_eq_true] at h3
  exact ⟨e, he, h3.1, by simpa using h3.2⟩

theorem startS {P : Program} {l : List Oper} {Q : Exit → Act → World → Prop} {id : Nat} {a : Act} {w : World} (S : World → Prop) (E : Nat) (hm : P.follows .mixedOrders = true) (h : wpAnyX P .any l.toArray Q S E l.toArray.size (Array.replicate l.toArray.size false) a w.drew) : (Code.region id l.toArray true).wp P Q a w :=
  wp_region_any hm (wpAny_of_X _ _ _ _ h)

end Go.Proofs.YtcgiicmmfleinaaGreatDoor

namespace Go.Proofs.YtcgiicmmfleinaaGreatDoor
open Go.RowKit NumMath Go.ChangeShapes Go.WideShapes Go.Deep
set_option linter.unusedVariables false
set_option maxRecDepth 100000

/-- edges of a law's argument -/
def IsEdges (w : World) (a : Option Addr) (n c : Nat) (l : List (Int × Int)) : Prop := IsY layE w a n c l ∧ ∀ e ∈ l, U64 e.1 ∧ U64 e.2

theorem IsEdges.keep {w w' : World} {a : Option Addr} {n c : Nat} {l : List (Int × Int)} (h : IsEdges w a n c l) (hb : Below w.heap.size w w') : IsEdges w' a n c l := ⟨h.1.keep hb, h.2⟩

theorem take_mem {l : List (Int × Int)} {j : Nat} {e : Int × Int} (h : l[j]? = some e) (x : Int × Int) : (decide (x ∈ l.take (j + 1))) = (decide (x ∈ l.take j) || x == e) := by
  rw [List.take_add_one, h]
  by_cases h1 : x ∈ l.take j
  · simp [h1]
  · by_cases h2 : x = e
    · simp [h2]
    · simp [h1, h2]

theorem dd_take {l : List (Int × Int)} {j : Nat} {e : Int × Int} (h : l[j]? = some e) : ddL (l.take (j + 1)) = ddW (ddL (l.take j)) e := foldl_take_succ ddW [] l j e h

set_option maxHeartbeats 4000000 in
theorem waitsOf_any (a : Option Addr) (len cap : Nat) (l : List (Int × Int)) (w : World) (h : IsEdges w a len cap l) (hl : len ≤ 100000) :
    Calls Tryz.prog 171 #[.slice a len cap] w fun e w' => ∃ f, e = .returned (.map (some w.heap.size)) ∧ RowsW w' (w.heap.size + 2) w.heap.size len f (ddL l) ∧ Below w.heap.size w w' := by
  have H := hide h.1
  have HU := hide h.2
  have HL := hide h.1.1
  have hlc := h.1.2.1
  have hm : (cap : Int) ≤ 9223372036854775807 := by have := h.1.2.2.1; unfold maxLen at this; omega
  have hmm := @run_makeMap Tryz.prog
  clear h
  go_enter Tryz.func171, Tryz.ntmps171
  go_wp2
  go_loopg [13] len (fun gk i wr => ∃ (j : Nat) (f : Lit → Option Value), gk = len - j ∧ i = .int .i64 j ∧ j ≤ len ∧ RowsW wr (w.heap.size + 2) w.heap.size j f (ddL (l.take j)) ∧ SetE wr (w.heap.size + 1) j (fun e => decide (e ∈ l.take j)) ∧ Below w.heap.size w wr ∧ w.heap.size + 2 ≤ wr.heap.size)
  case atStart =>
    refine ⟨0, fun _ => none, rfl, rfl, Nat.zero_le _, ?_, ?_, ?_, ?_⟩
    · exact (rowsW_new w _ rfl w.heap.size _ rfl (by omega)).keep (new_below _ _)
    · exact setE_new _ _ rfl _ (by simp)
    · exact ((Below.refl _ w).alloc (Nat.le_refl _) _).alloc (by simp) _
    · simp
  case round =>
    obtain ⟨j, f, rfl, rfl, hj, hR, hE, hB, hsz⟩ := hrel
    have HR := hide hR
    have HE := hide hE
    have HB := hide hB
    clear hR hE hB
    by_cases hlt : j < len
    · have hlt' : (j : Int) < (len : Int) := by omega
      obtain ⟨x, y, hxy⟩ := pair_at (l := l) (j := j) (by have := HL.out; omega)
      obtain ⟨hx, hy⟩ := HU.out _ (List.mem_of_getElem? hxy)
      obtain ⟨g0, off0, rfl, hg0, hC0⟩ := H.out.at hlt
      have d := rangeY_same (hC0 j _ hxy) (HB.out.block g0 hg0)
      have d0 : wr.cell? ⟨g0, off0 + j * 2, none⟩ = some (.int .u64 x) := d 0 _ rfl
      have d1 : wr.cell? ⟨g0, off0 + j * 2 + 1, none⟩ = some (.int .u64 y) := d 1 _ rfl
      clear d
      have HDd := hide (dd_take hxy)
      have HTm := hide (take_mem hxy)
      have HUx := hide hx
      have HUy := hide hy
      obtain ⟨W1, hW1⟩ : ∃ W1, W1 = wr.alloc (.cells #[.int .u64 x, .int .u64 y] 222) := ⟨_, rfl⟩
      have hb1 : Below wr.heap.size wr W1 := by rw [hW1]; exact new_below _ _
      have hs1 : W1.heap.size = wr.heap.size + 1 := by rw [hW1]; simp
      have hlk := HE.out.look hx hy W1 (hb1.block _ HE.out.lt)
      have HXX := hide (And.intro hx (And.intro hy hxy))
      clear hC0 hx hy hxy
      rw [hW1] at hlk
      cases hin : decide ((x, y) ∈ l.take j) with
      | true =>
        rw [hin] at hlk
        have HIn := hide hin
        clear hin
        go_wp2
        go_roundg (len - (j + 1))
        case measure => omega
        case rel =>
          have hb2 := (new_below wr (.cells #[.int .u64 x, .int .u64 y] 222)).trans ((new_below _ (.cells #[] 249)).mono (by simp))
          refine ⟨j + 1, f, rfl, by go_num, by omega, ?_, (HE.out.same (hb2.block _ HE.out.lt)).like (by omega) (fun p => ?_), HB.out.trans (hb2.mono (by omega)), by simp; omega⟩
          · rw [HDd.out, ddW, if_pos (mem_ddL.2 (of_decide_eq_true HIn.out))]
            exact (HR.out.keep hb2).more (by omega)
          · rw [HTm.out p]
            by_cases e : p = (x, y)
            · rw [e, HIn.out]; simp
            · simp [e]
      | false =>
        rw [hin] at hlk
        have HIn := hide hin
        clear hin
        obtain ⟨W2, hW2⟩ : ∃ W2, W2 = W1.alloc (.cells #[] 249) := ⟨_, rfl⟩
        have hb2 : Below W1.heap.size W1 W2 := by rw [hW2]; exact new_below _ _
        have hs2 : W2.heap.size = wr.heap.size + 2 := by rw [hW2, World.size_alloc, hs1]
        have hb12 := hb1.trans (hb2.mono hb1.size)
        obtain ⟨w3, hup, hE3, hg3⟩ := (HE.out.same (hb12.block _ HE.out.lt)).put (by omega) HUx.out HUy.out
        have HR3 := hide ((HR.out.keep hb12).kept hg3 (by omega) (by omega))
        have hc0 : W2.rangeAt wr.heap.size 0 [.int .u64 x, .int .u64 y] := by
          have := rangeY_new wr wr.heap.size #[.int .u64 x, .int .u64 y] 222 rfl
          rw [← hW1] at this
          exact rangeY_same this (hb2.block _ (by omega))
        have hc3 := rangeY_same hc0 (hg3.block wr.heap.size (by omega) (fun e => by have := Option.some.inj e; omega))
        have HC3 := hide hc3
        have hs3 := hg3.size
        have HE3 := hide hE3
        have HB3 := hide ((HB.out.trans (hb12.mono (by omega))).trans ((Below.refl w.heap.size W2).grown hg3 (by omega) (fun k hk => by cases hk; omega)))
        obtain ⟨ra, rn, rc, hrv⟩ := (HR3.out.row x HUx.out).any3
        have HRv := hide hrv
        have HSS : Hid (w3.drew.heap[wr.heap.size]? = w3.heap[wr.heap.size]? ∧ w3.drew.heap[w.heap.size]? = w3.heap[w.heap.size]?) := ⟨rfl, rfl⟩
        have HV : Hid (∀ V : World, (V.heap[wr.heap.size]? = w3.heap[wr.heap.size]? ∧ V.heap[w.heap.size]? = w3.heap[w.heap.size]?) → V.cell? ⟨wr.heap.size, 0, none⟩ = some (.int .u64 x) ∧ V.cell? ⟨wr.heap.size, 1, none⟩ = some (.int .u64 y) ∧ (Instr.lookup 235 (.map (some w.heap.size)) (.int .u64 x) false).run Tryz.prog V = .ok (.slice ra rn rc) V) := by
          intro V hV
          have hr := rangeY_same HC3.out hV.1
          refine ⟨hr 0 _ rfl, hr 1 _ rfl, ?_⟩
          have := HR3.out.map.look keyedU Tryz.underlying235 zeroR (keyU HUx.out) V hV.2
          rw [HRv.out] at this
          exact this
        rw [hW2, hW1] at hup
        have HS2 := hide hs2
        have c30 : w3.cell? ⟨wr.heap.size, 0, none⟩ = some (.int .u64 x) := hc3 0 _ rfl
        have HS3 : Hid (wr.heap.size + 2 ≤ w3.heap.size) := (by rw [← HS2.out]; exact hs3)
        clear hE3 hg3 hc3 hc0 hb12 hb2 hs2 hb1 hs1 hrv
        go_wp2
        refine startS (fun V : World => V.heap[wr.heap.size]? = w3.heap[wr.heap.size]? ∧ V.heap[w.heap.size]? = w3.heap[w.heap.size]?) 10 (by kernel_rfl) ?_
        refine' takeS (E := 10) (i := 0) (v := _) rfl (by kernel_rfl) (by kernel_rfl) (by kernel_rfl) (by kernel_rfl) (fun _ _ _ h => h) (by rfl) HSS.out ?_ ?_; rotate_left
        · (intro V hSV; obtain ⟨y0, y1, y2⟩ := HV.out V hSV; go_simp; all_goals (with_reducible rfl))
        (try simp only [Act.put, List.setIfInBounds_toArray, List.set_cons_zero, List.set_cons_succ])
        refine' takeS (E := 10) (i := 1) (v := _) rfl (by kernel_rfl) (by kernel_rfl) (by kernel_rfl) (by kernel_rfl) (fun _ _ _ h => h) (by rfl) HSS.out ?_ ?_; rotate_left
        · (intro V hSV; obtain ⟨y0, y1, y2⟩ := HV.out V hSV; go_simp; all_goals (with_reducible rfl))
        (try simp only [Act.put, List.setIfInBounds_toArray, List.set_cons_zero, List.set_cons_succ])
        refine' takeS (E := 10) (i := 2) (v := _) rfl (by kernel_rfl) (by kernel_rfl) (by kernel_rfl) (by kernel_rfl) (fun _ _ _ h => h) (by rfl) HSS.out ?_ ?_; rotate_left
        · (intro V hSV; obtain ⟨y0, y1, y2⟩ := HV.out V hSV; go_simp; all_goals (with_reducible rfl))
        (try simp only [Act.put, List.setIfInBounds_toArray, List.set_cons_zero, List.set_cons_succ])
        refine' takeS (E := 10) (i := 3) (v := _) rfl (by kernel_rfl) (by kernel_rfl) (by kernel_rfl) (by kernel_rfl) (fun _ _ _ h => h) (by rfl) HSS.out ?_ ?_; rotate_left
        · (intro V hSV; obtain ⟨y0, y1, y2⟩ := HV.out V hSV; go_simp; all_goals (with_reducible rfl))
        (try simp only [Act.put, List.setIfInBounds_toArray, List.set_cons_zero, List.set_cons_succ])
        refine' takeS (E := 10) (i := 4) (v := _) rfl (by kernel_rfl) (by kernel_rfl) (by kernel_rfl) (by kernel_rfl) (fun _ _ _ h => h) (by rfl) HSS.out ?_ ?_; rotate_left
        · (intro V hSV; obtain ⟨y0, y1, y2⟩ := HV.out V hSV; go_simp; all_goals (with_reducible rfl))
        (try simp only [Act.put, List.setIfInBounds_toArray, List.set_cons_zero, List.set_cons_succ])
        refine' takeS (E := 10) (i := 5) (v := _) rfl (by kernel_rfl) (by kernel_rfl) (by kernel_rfl) (by kernel_rfl) (fun _ _ _ h => h) (by rfl) HSS.out ?_ ?_; rotate_left
        · (intro V hSV; obtain ⟨y0, y1, y2⟩ := HV.out V hSV; go_simp; all_goals (with_reducible rfl))
        (try simp only [Act.put, List.setIfInBounds_toArray, List.set_cons_zero, List.set_cons_succ])
        refine' takeS (E := 10) (i := 6) (v := _) rfl (by kernel_rfl) (by kernel_rfl) (by kernel_rfl) (by kernel_rfl) (fun _ _ _ h => h) (by rfl) HSS.out ?_ ?_; rotate_left
        · (intro V hSV; obtain ⟨y0, y1, y2⟩ := HV.out V hSV; go_simp; all_goals (with_reducible rfl))
        (try simp only [Act.put, List.setIfInBounds_toArray, List.set_cons_zero, List.set_cons_succ])
        refine' takeS (E := 10) (i := 7) (v := _) rfl (by kernel_rfl) (by kernel_rfl) (by kernel_rfl) (by kernel_rfl) (fun _ _ _ h => h) (by rfl) HSS.out ?_ ?_; rotate_left
        · (intro V hSV; obtain ⟨y0, y1, y2⟩ := HV.out V hSV; go_simp; all_goals (with_reducible rfl))
        (try simp only [Act.put, List.setIfInBounds_toArray, List.set_cons_zero, List.set_cons_succ])
        obtain ⟨w4, hw4⟩ : ∃ w4, w4 = (w3.alloc (.cells #[.int .u64 x, .int .u64 y] 222)).drew := ⟨_, rfl⟩
        have hb4 : Below w3.heap.size w3 w4 := by rw [hw4]; exact (new_below _ _).drew
        have hs4 : w4.heap.size = w3.heap.size + 1 := by rw [hw4]; show (w3.alloc _).heap.size = _; simp
        have HOne : Hid (OwnY layE w4 w3.heap.size (.slice (some ⟨w3.heap.size, 0, none⟩) 1 1) [(x, y)]) := (by rw [hw4]; exact (ownY_one (L := layE) w3 w3.heap.size #[.int .u64 x, .int .u64 y] (x, y) (Nat.le_refl _) rfl).keep (Below.refl _ _).drew)
        have HR4 := hide (HR3.out.keep hb4)
        have HOw : Hid (OwnY layE w4 (w.heap.size + 2) (.slice ra rn rc) (rowsE (ddL (l.take j)) x)) := (by rw [← HRv.out]; exact HR4.out.row x HUx.out)
        have HB4 := hide hb4
        have hs3 := HS3.out
        have HLen : Hid ((rowsE (ddL (l.take j)) x).length + [(x, y)].length ≤ 1000000000) := (by
          show _ ≤ _
          have h1 := rowsE_len (ddL (l.take j)) x
          have h2 := dd_len (l.take j) []
          rw [List.length_take] at h2
          have : (ddL (l.take j)).length ≤ 0 + min j l.length := h2
          simp; omega)
        refine callX (i := 8) rfl (by kernel_rfl) (fun K hK => ?_)
        go_simp
        rw [← hw4]
        refine hK.out _ _ (fun _ => ⟨HB4.out.block _ (by omega), HB4.out.block _ (by omega)⟩) ?_
        clear hK K
        (try simp only [Act.put, List.setIfInBounds_toArray, List.set_cons_zero, List.set_cons_succ])
        refine callX (i := 9) rfl (by kernel_rfl) (fun K hK => ?_)
        refine step_joinY layE _ (by rfl) (.tmp 33) (.tmp 35) (by rfl) (w.heap.size + 2) (.slice ra rn rc) (rowsE (ddL (l.take j)) x) (by rfl) HOw.out (some ⟨w3.heap.size, 0, none⟩) 1 1 [(x, y)] (by rfl) HOne.out.is.src HLen.out (by omega) ?_
        intro v5 w5 hown5 hg5 hat5
        rw [← HRv.out] at hg5 hat5
        obtain ⟨xa, xn, xc, rfl⟩ := hown5.any3
        have hrb : ∀ k, k < w.heap.size + 2 → some k ≠ ((f (.int .u64 x)).getD (.slice none 0 0)).ownBlock := fun k hk e => by have := ((HR4.out.row x HUx.out).lt k e.symm).1; omega
        have hrN : some wr.heap.size ≠ ((f (.int .u64 x)).getD (.slice none 0 0)).ownBlock := fun e => by have := ((HR.out.row x HUx.out).lt _ e.symm).2; omega
        obtain ⟨w6, hup6, hm6, hg6⟩ := (HR4.out.map.same (hg5.block w.heap.size (by omega) (hrb _ (by omega)))).put (by omega) keyedU Tryz.underlying235 (keyU HUx.out) (.slice xa xn xc)
        have HLd := hide (HR4.out.laid HUx.out (e := (x, y)) rfl hg5 hown5 hat5 hm6 hg6)
        have HB6 := hide ((HB3.out.trans (HB4.out.mono (by omega))).trans (((Below.refl w.heap.size w4).grown hg5 (by omega) (fun k hk => by have := ((HR4.out.row x HUx.out).lt k hk).1; omega)).grown hg6 (by have := hg5.size; omega) (fun k hk => by have := Option.some.inj hk; omega)))
        have HE6 := hide ((HE3.out.same (HB4.out.block (w.heap.size + 1) (by omega))).same ((hg6.block (w.heap.size + 1) (by have := hg5.size; omega) (fun e => by have := Option.some.inj e; omega)).trans (hg5.block (w.heap.size + 1) (by omega) (hrb _ (by omega)))))
        have HS6 : Hid (w.heap.size + 2 ≤ w6.heap.size) := (by have := hg5.size; have := hg6.size; show _ ≤ _; omega)
        refine hK.out _ _ (fun _ => ⟨(hg5.block _ (by omega) hrN).trans (HB4.out.block _ (by omega)), (hg5.block _ (by omega) (hrb _ (by omega))).trans (HB4.out.block _ (by omega))⟩) ?_
        clear hK K hown5 hg5 hat5 hrb hrN hm6 hg6
        (try simp only [Act.put, List.setIfInBounds_toArray, List.set_cons_zero, List.set_cons_succ])
        refine callX (i := 10) rfl (by kernel_rfl) (fun K hK => ?_)
        go_simp
        refine hK.out _ _ (fun h => absurd rfl h) ?_
        clear hK K
        refine doneX (by kernel_rfl) ?_ _
        go_wp2
        go_roundg (len - (j + 1))
        case measure => omega
        case rel =>
          refine ⟨j + 1, setF f (.int .u64 x) (some (.slice xa xn xc)), rfl, by go_num, by omega, ?_, HE6.out.like (by omega) (fun p => HTm.out p), HB6.out, HS6.out⟩
          rw [HDd.out, ddW, if_neg (fun h => of_decide_eq_false HIn.out (mem_ddL.1 h))]
          exact HLd.out
    · have hlt' : ¬ (j : Int) < (len : Int) := by omega
      have ek : l.take j = l := List.take_of_length_le (by have := HL.out; omega)
      rw [ek] at HR
      go_wp2
      go_ret
      obtain rfl : j = len := by omega
      exact ⟨rfl, ⟨f, HR.out⟩, HB.out⟩

end Go.Proofs.YtcgiicmmfleinaaGreatDoor
