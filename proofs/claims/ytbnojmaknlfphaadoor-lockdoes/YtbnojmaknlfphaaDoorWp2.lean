/- The program's sets and rows of edges in memory. -/
import Derived.Test.YtbnojmaknlfphaaDoorMpV
import Derived.Test.YtbnojmaknlfphaaDoorWp1
import Derived.Test.YtbnojmaknlfphaaDoorTx
namespace Go.Proofs.YtbnojmaknlfphaaDoor
open Go.RowKit NumMath Go.ChangeShapes Go.WideShapes Go.Deep
set_option linter.unusedVariables false
set_option maxRecDepth 100000

theorem keyedE : Maps.Keyed Tryd.prog 70 := Maps.Keyed.of_law (deep_law_laid laidV (m := 3) (by omega) (of_decide_eq_true (by kernel_rfl)) (by kernel_rfl) (by kernel_rfl))

/-- a pair as a key -/
def keyP (x y : Int) : Lit := .string (keyBytes [.int .u64 x, .int .u64 y])

theorem keyE_type : Tryd.prog.keyType 70 = true := by kernel_rfl

theorem sizeV : ∃ m, Tryd.prog.types.size = m + 1 := ⟨Tryd.prog.types.size - 1, by have : 0 < Tryd.prog.types.size := of_decide_eq_true (by kernel_rfl); omega⟩

theorem cellsE2 : Tryd.prog.cellsOf 70 = 2 := by kernel_rfl

theorem cellsU1 : Tryd.prog.cellsOf 22 = 1 := by kernel_rfl

theorem keyE {x y : Int} (hx : U64 x) (hy : U64 y) : keyOf Tryd.prog 70 (.agg #[.int .u64 x, .int .u64 y]) = some (keyP x y) := by
  have hkt := keyE_type
  obtain ⟨m, hm⟩ := sizeV
  have wx := wf_u64 hx
  have wy := wf_u64 hy
  unfold keyOf keyP
  simp only [Tryd.underlying70]
  rw [if_pos (by simp [hkt, Value.formed, Tryd.underlying70, cellsE2]), hm]
  unfold Program.keyLits
  simp only [Tryd.underlying70, Value.cells]
  rw [if_pos (by rw [cellsE2]; exact ⟨rfl, by kernel_rfl⟩), List.mapM_cons, List.mapM_cons, List.mapM_nil]
  simp [cellsU1, Program.keyLits, Tryd.underlying22, wx, wy]

theorem keyP_inj {x y x' y' : Int} (hx : U64 x) (hy : U64 y) (hx' : U64 x') (hy' : U64 y') (h : keyP x y = keyP x' y') : x = x' ∧ y = y' := by
  have h1 := keyE hx hy
  rw [h] at h1
  have := keyedE.inj h1 (keyE hx' hy')
  simpa using this

theorem zeroS (w : World) : (zeroValue 91).run Tryd.prog w = .ok (.agg #[]) w := by kernel_rfl

theorem zeroR (w : World) : (zeroValue 49).run Tryd.prog w = .ok (.slice none 0 0) w := by kernel_rfl

theorem zeroE (w : World) : (zeroValue 70).run Tryd.prog w = .ok (.agg #[.int .u64 0, .int .u64 0]) w := by kernel_rfl

/-- the map in block b is a set of numbers -/
def SetU (w : World) (b z : Nat) (P : Int → Bool) : Prop := ∃ f, MapV w 22 b z f ∧ (∀ l v, f l = some v → v = .agg #[]) ∧ ∀ x, U64 x → (f (.int .u64 x)).isSome = P x

/-- the map in block b is a set of pairs -/
def SetE (w : World) (b z : Nat) (P : Int × Int → Bool) : Prop := ∃ f, MapV w 70 b z f ∧ (∀ l v, f l = some v → v = .agg #[]) ∧ ∀ x y, U64 x → U64 y → (f (keyP x y)).isSome = P (x, y)

theorem unit_of {f : Lit → Option Value} (h : ∀ l v, f l = some v → v = .agg #[]) (l : Lit) : (f l).getD (.agg #[]) = .agg #[] := by
  cases hf : f l with
  | none => rfl
  | some v => exact h l v hf

theorem SetU.same {w w' : World} {b z : Nat} {P : Int → Bool} (h : SetU w b z P) (e : w'.heap[b]? = w.heap[b]?) : SetU w' b z P := by
  obtain ⟨f, h1, h2, h3⟩ := h
  exact ⟨f, h1.same e, h2, h3⟩

theorem SetU.lt {w : World} {b z : Nat} {P : Int → Bool} (h : SetU w b z P) : b < w.heap.size := by
  obtain ⟨f, h1, _⟩ := h
  exact h1.lt

theorem setU_new (w : World) (o : Obj) (ho : o = .map #[] 0) (g : Nat) (hg : w.heap.size = g) : SetU (w.alloc o) g 0 (fun _ => false) :=
  ⟨_, mapV_new w _ o ho g hg, fun l v h => (by cases h), fun x _ => rfl⟩

theorem SetU.look {w : World} {b z : Nat} {P : Int → Bool} (h : SetU w b z P) {x : Int} (hx : U64 x) : ∀ W : World, W.heap[b]? = w.heap[b]? → (Instr.lookup 94 (.map (some b)) (.int .u64 x) true).run Tryd.prog W = .ok (.tuple #[.agg #[], .bool (P x)]) W := by
  intro W hW
  obtain ⟨f, h1, h2, h3⟩ := h
  rw [h1.lookOk keyedU Tryd.underlying94 zeroS (keyU hx) W hW, unit_of h2, h3 x hx]

theorem SetU.put {w : World} {b z : Nat} {P : Int → Bool} (h : SetU w b z P) (hz : z ≤ 1000000) {x : Int} (hx : U64 x) : ∃ w', (Instr.mapUpdate 94 (.map (some b)) (.int .u64 x) (.agg #[])).run Tryd.prog w = .ok () w' ∧ SetU w' b (z + 1) (fun y => P y || y == x) ∧ w.grownBy w' (some b) := by
  obtain ⟨f, h1, h2, h3⟩ := h
  obtain ⟨w', r1, r2, r3⟩ := h1.put hz keyedU Tryd.underlying94 (keyU hx) (.agg #[])
  refine ⟨w', r1, ⟨_, r2, fun l v hv => ?_, fun y hy => ?_⟩, r3⟩
  · by_cases e : l = .int .u64 x
    · subst e; rw [setF_same] at hv; cases hv; rfl
    · rw [setF_other _ _ e] at hv; exact h2 l v hv
  · by_cases e : y = x
    · subst e; rw [setF_same]; simp
    · rw [setF_other _ _ (fun h => e (by simpa using h)), h3 y hy]; simp [e]

theorem SetE.same {w w' : World} {b z : Nat} {P : Int × Int → Bool} (h : SetE w b z P) (e : w'.heap[b]? = w.heap[b]?) : SetE w' b z P := by
  obtain ⟨f, h1, h2, h3⟩ := h
  exact ⟨f, h1.same e, h2, h3⟩

theorem SetE.lt {w : World} {b z : Nat} {P : Int × Int → Bool} (h : SetE w b z P) : b < w.heap.size := by
  obtain ⟨f, h1, _⟩ := h
  exact h1.lt

theorem setE_new (w : World) (o : Obj) (ho : o = .map #[] 0) (g : Nat) (hg : w.heap.size = g) : SetE (w.alloc o) g 0 (fun _ => false) :=
  ⟨_, mapV_new w _ o ho g hg, fun l v h => (by cases h), fun x y _ _ => rfl⟩

theorem SetE.look {w : World} {b z : Nat} {P : Int × Int → Bool} (h : SetE w b z P) {x y : Int} (hx : U64 x) (hy : U64 y) : ∀ W : World, W.heap[b]? = w.heap[b]? → (Instr.lookup 90 (.map (some b)) (.agg #[.int .u64 x, .int .u64 y]) true).run Tryd.prog W = .ok (.tuple #[.agg #[], .bool (P (x, y))]) W := by
  intro W hW
  obtain ⟨f, h1, h2, h3⟩ := h
  rw [h1.lookOk keyedE Tryd.underlying90 zeroS (keyE hx hy) W hW, unit_of h2, h3 x y hx hy]

theorem SetE.put {w : World} {b z : Nat} {P : Int × Int → Bool} (h : SetE w b z P) (hz : z ≤ 1000000) {x y : Int} (hx : U64 x) (hy : U64 y) : ∃ w', (Instr.mapUpdate 90 (.map (some b)) (.agg #[.int .u64 x, .int .u64 y]) (.agg #[])).run Tryd.prog w = .ok () w' ∧ SetE w' b (z + 1) (fun e => P e || e == (x, y)) ∧ w.grownBy w' (some b) := by
  obtain ⟨f, h1, h2, h3⟩ := h
  obtain ⟨w', r1, r2, r3⟩ := h1.put hz keyedE Tryd.underlying90 (keyE hx hy) (.agg #[])
  refine ⟨w', r1, ⟨_, r2, fun l v hv => ?_, fun x' y' hx' hy' => ?_⟩, r3⟩
  · by_cases e : l = keyP x y
    · subst e; rw [setF_same] at hv; cases hv; rfl
    · rw [setF_other _ _ e] at hv; exact h2 l v hv
  · by_cases e : (x', y') = (x, y)
    · cases e; rw [setF_same]; simp
    · rw [setF_other _ _ (fun h => e (by obtain ⟨h1, h2⟩ := keyP_inj hx' hy' hx hy h; rw [h1, h2])), h3 x' y' hx' hy']
      simp only [beq_eq_false_iff_ne.2 e, Bool.or_false]

theorem SetE.like {w : World} {b z z' : Nat} {P P' : Int × Int → Bool} (h : SetE w b z P) (hz : z ≤ z') (e : ∀ p, P' p = P p) : SetE w b z' P' := by
  obtain ⟨f, h1, h2, h3⟩ := h
  exact ⟨f, h1.more hz, h2, fun x y hx hy => (h3 x y hx hy).trans (e _).symm⟩

theorem SetU.like {w : World} {b z z' : Nat} {P P' : Int → Bool} (h : SetU w b z P) (hz : z ≤ z') (e : ∀ p, P' p = P p) : SetU w b z' P' := by
  obtain ⟨f, h1, h2, h3⟩ := h
  exact ⟨f, h1.more hz, h2, fun x hx => (h3 x hx).trans (e _).symm⟩

/-- rows of edges by who waits: map at mb, f what stands there, d the edges; the rows lie from base on -/
structure RowsW (w : World) (base mb z : Nat) (f : Lit → Option Value) (d : List (Int × Int)) : Prop where
  map : MapV w 22 mb z f
  row : ∀ q, U64 q → OwnY layE w base ((f (.int .u64 q)).getD (.slice none 0 0)) (rowsE d q)
  off : ∀ q q', U64 q → U64 q' → q ≠ q' → OffY ((f (.int .u64 q)).getD (.slice none 0 0)) ((f (.int .u64 q')).getD (.slice none 0 0))
  mb : mb < base

theorem rowsW_new (w : World) (o : Obj) (ho : o = .map #[] 0) (g base : Nat) (hg : w.heap.size = g) (hb : g < base) : RowsW (w.alloc o) base g 0 (fun _ => none) [] :=
  ⟨mapV_new w _ o ho g hg, fun q _ => ownY_nil _ _, fun q q' _ _ _ g hg => (by cases hg), hb⟩

theorem RowsW.keep {w w' : World} {base mb z : Nat} {f : Lit → Option Value} {d : List (Int × Int)} (h : RowsW w base mb z f d) (hb : Below w.heap.size w w') : RowsW w' base mb z f d :=
  ⟨h.map.keep hb, fun q hq => (h.row q hq).keep hb, h.off, h.mb⟩

theorem RowsW.more {w : World} {base mb z z' : Nat} {f : Lit → Option Value} {d : List (Int × Int)} (h : RowsW w base mb z f d) (hz : z ≤ z') : RowsW w base mb z' f d := ⟨h.map.more hz, h.row, h.off, h.mb⟩

/-- .. where only one block, not one of these, is another -/
theorem RowsW.kept {w w' : World} {base mb z k : Nat} {f : Lit → Option Value} {d : List (Int × Int)} (h : RowsW w base mb z f d) (hg : w.grownBy w' (some k)) (h1 : k ≠ mb) (h2 : k < base) : RowsW w' base mb z f d :=
  ⟨h.map.same (hg.block mb h.map.lt (fun e => h1 (by cases e; rfl))), fun q hq => (h.row q hq).lies (fun g hv => hg.block g ((h.row q hq).lt g hv).2 (fun e => by have := ((h.row q hq).lt g hv).1; cases e; omega)), h.off, h.mb⟩

/-- a row grown, and laid at its key -/
theorem RowsW.laid {w w1 w2 : World} {base mb z : Nat} {f : Lit → Option Value} {d : List (Int × Int)} (h : RowsW w base mb z f d) {x : Int} (hx : U64 x) {e : Int × Int} (he : e.1 = x) {v : Value} (hg : w.grownBy w1 ((f (.int .u64 x)).getD (.slice none 0 0)).ownBlock) (hv : OwnY layE w1 base v (rowsE d x ++ [e])) (ha : AtB w ((f (.int .u64 x)).getD (.slice none 0 0)) v)
    (hm : MapV w2 22 mb (z + 1) (setF f (.int .u64 x) (some v))) (hg2 : w1.grownBy w2 (some mb)) : RowsW w2 base mb (z + 1) (setF f (.int .u64 x) (some v)) (d ++ [e]) := by
  have hlt := fun q (hq : U64 q) g hu => ((h.row q hq).lt g hu).2
  have hoff : ∀ q, U64 q → q ≠ x → OffY v ((f (.int .u64 q)).getD (.slice none 0 0)) := fun q hq hne => (h.off x q hx hq (Ne.symm hne)).grown ha (hlt q hq)
  have key : ∀ q, q ≠ x → setF f (.int .u64 x) (some v) (.int .u64 q) = f (.int .u64 q) := fun q hne => setF_other _ _ (fun h => hne (by simpa using h))
  have hmb : ∀ (u : Value) (ys : List (Int × Int)) (W : World), OwnY layE W base u ys → ∀ g, u.ownBlock = some g → some g ≠ some mb := fun u ys W ho g hu e => by
    have := (ho.lt g hu).1
    have := h.mb
    cases e; omega
  refine ⟨hm, fun q hq => ?_, fun q q' hq hq' hne => ?_, h.mb⟩
  · by_cases hqx : q = x
    · subst hqx
      rw [setF_same, rowsE_more, if_pos he]
      exact hv.lies (fun g hu => hg2.block g (hv.lt g hu).2 (hmb _ _ _ hv g hu))
    · rw [key q hqx, rowsE_more, if_neg (by rw [he]; exact Ne.symm hqx)]
      have h1 : OwnY layE w1 base ((f (.int .u64 q)).getD (.slice none 0 0)) (rowsE d q) := (h.row q hq).off (h.off x q hx hq (Ne.symm hqx)) hg
      exact h1.lies (fun g hu => hg2.block g (h1.lt g hu).2 (hmb _ _ _ h1 g hu))
  · by_cases hqx : q = x
    · subst hqx
      rw [setF_same, key q' (Ne.symm hne)]
      exact hoff q' hq' (Ne.symm hne)
    · rw [key q hqx]
      by_cases hqx' : q' = x
      · subst hqx'
        rw [setF_same]
        exact (hoff q hq hqx).symm
      · rw [key q' hqx']
        exact h.off q q' hq hq' hne

/-- one is taken first, S held -/
theorem takeS {P : Program} {l : List Oper} {md : Region.Mode} {Q : Exit → Act → World → Prop} {S : World → Prop} {w : World} {E i : Nat} {oi : Oper} {v : Value} {fuel : Nat} {listed : Array Bool} {a : Act} (hi : l[i]? = some oi) (hs : Region.noSelect l.toArray = true) (hf : Region.free md l.toArray listed i = true) (hr : (Region.ready md l.toArray listed).contains i = true) (hE : (i != E && waitsX md l E i) = true)
    (hQ : ∀ c a w, Q (.panic c) (a.put oi.dst v) w → Q (.panic c) a w) (hwt : Region.wanted oi (yielded l.toArray a.tmps) = true) (hS : S w) (hy : ∀ W, S W → (execOp a.eval oi).run P W = .ok (.value v) W)
    (h : wpAnyX P md l.toArray Q S E fuel (listed.setIfInBounds i true) (a.put oi.dst v) w) : wpAnyX P md l.toArray Q S E (fuel + 1) listed a w := by
  rw [Bool.and_eq_true] at hE
  refine wpAnyX_first (by simpa using hi) (Region.noSelect_spec hs) hQ (by simpa using hE.1) ?_ fuel listed a w (Region.free_spec (by simpa using hi) hf) (by simpa using hr) (Or.inl ⟨hwt, hy⟩) hS h
  intro o ho
  have h2 := hE.2
  unfold waitsX at h2
  rw [List.getElem?_toArray] at ho
  rw [ho] at h2
  dsimp only at h2
  rw [Array.any_eq_true'] at h2
  obtain ⟨e, he, h3⟩ := h2
  rw [Bool.and_eq_true] at h3
  exact ⟨e, he, h3.1, by simpa using h3.2⟩

theorem startS {P : Program} {l : List Oper} {Q : Exit → Act → World → Prop} {id : Nat} {a : Act} {w : World} (S : World → Prop) (E : Nat) (hm : P.follows .mixedOrders = true) (h : wpAnyX P .any l.toArray Q S E l.toArray.size (Array.replicate l.toArray.size false) a w.drew) : (Code.region id l.toArray true).wp P Q a w :=
  wp_region_any hm (wpAny_of_X _ _ _ _ h)

end Go.Proofs.YtbnojmaknlfphaaDoor
