/- A mesh in memory: what it is, that it stays so, and what changes it. -/
import Derived.Test.YtodmieehdleohaaMs1
import Derived.Maps.OwnSet
import Derived.Maps.OwnOps
import Derived.DeepKeys4
import Derived.WideKeyPair
namespace Go.Proofs.Ytodmieehdleohaa
open Go.RowKit NumMath Go.ChangeShapes Go.WideShapes Go.Deep
set_option linter.unusedVariables false
set_option maxRecDepth 100000

theorem laid10 : laidOutB Try.prog = true := by kernel_rfl

theorem arr2 : WideMaps.ArrKey Try.prog 66 32 2 := ⟨Try.underlying66, by kernel_rfl, by kernel_rfl, by kernel_rfl⟩

theorem keyed2 : Maps.Keyed Try.prog 66 := Maps.Keyed.of_law (deep_law_laid laid10 (m := 2) (by omega) (of_decide_eq_true (by kernel_rfl)) (by kernel_rfl) (by kernel_rfl))

/-- a pair as a key -/
def key2 (x y : Int) : Lit := .string (keyBytes [.int .u64 x, .int .u64 y])

theorem wf_uu {x : Int} (h : UU x) : (Lit.int .u64 x).wf = true := by
  simp [Lit.wf, IntKind.min, IntKind.max, IntKind.signed, IntKind.bits]
  exact ⟨h.1, by have := h.2; omega⟩

theorem size10 : ∃ m, Try.prog.types.size = m + 1 := ⟨Try.prog.types.size - 1, by have : 0 < Try.prog.types.size := of_decide_eq_true (by kernel_rfl); omega⟩

theorem key2_of {x y : Int} (hx : UU x) (hy : UU y) : keyOf Try.prog 66 (.agg #[.int .u64 x, .int .u64 y]) = some (key2 x y) :=
  WideMaps.keyOf_pair arr2 Try.underlying32 size10 (wf_uu hx) (wf_uu hy)

theorem key2_inj {x y x' y' : Int} (hx : UU x) (hy : UU y) (hx' : UU x') (hy' : UU y') (h : key2 x y = key2 x' y') : x = x' ∧ y = y' := by
  have h1 := key2_of hx hy
  rw [h] at h1
  have := keyed2.inj h1 (key2_of hx' hy')
  simpa using this

/-- the map in block b holds the pairs C -/
def MapC (w : World) (b z : Nat) (C : Int → Int → Bool) : Prop := ∃ D, w.ownsMap (H := Unit) Try.prog 66 unitElem b z D ∧ ∀ x y, UU x → UU y → Maps.has D (key2 x y) = C x y

theorem mapC_same {w w' : World} {b z : Nat} {C : Int → Int → Bool} (h : MapC w b z C) (e : w'.heap[b]? = w.heap[b]?) : MapC w' b z C := by
  obtain ⟨D, ⟨es, clock, hb, F, hs, hD⟩, hC⟩ := h
  exact ⟨D, ⟨es, clock, e.trans hb, F, hs, hD⟩, hC⟩

theorem mapC_lt {w : World} {b z : Nat} {C : Int → Int → Bool} (h : MapC w b z C) : b < w.heap.size := by
  obtain ⟨D, h, _⟩ := h
  exact h.lt

theorem mapC_new (w : World) (o : Obj) (ho : o = .map #[] 0) (g : Nat) (hg : w.heap.size = g) : MapC (w.alloc o) g 0 (fun _ _ => false) := by
  subst hg ho
  exact ⟨.map [], World.ownsMap_made w _ _ _, fun x y _ _ => rfl⟩

theorem zeroE2 (w : World) : (zeroValue 64).run Try.prog w = .ok (.agg #[]) w := by kernel_rfl

theorem MapC.look {w : World} {b z : Nat} {C : Int → Int → Bool} (h : MapC w b z C) {x y : Int} (hx : UU x) (hy : UU y) : (Instr.lookup 57 (.map (some b)) (.agg #[.int .u64 x, .int .u64 y]) true).run Try.prog w = .ok (.tuple #[.agg #[], .bool (C x y)]) w := by
  obtain ⟨D, h, hC⟩ := h
  obtain ⟨v, ps, h1, h2⟩ := h.look_ok keyed2 Try.underlying57 (zeroE2 w) unitElem_mk (key2_of hx hy)
  obtain ⟨rfl, _⟩ := unitElem_inv h2
  rw [h1, hC x y hx hy]

theorem MapC.put {w : World} {b z : Nat} {C : Int → Int → Bool} (h : MapC w b z C) (hz : z ≤ 1000000) {x y : Int} (hx : UU x) (hy : UU y) : ∃ w', (Instr.mapUpdate 57 (.map (some b)) (.agg #[.int .u64 x, .int .u64 y]) (.agg #[])).run Try.prog w = .ok () w' ∧ MapC w' b (z + 1) (fun x' y' => C x' y' || (x' == x && y' == y)) ∧ w.mapTurned w' b := by
  obtain ⟨D, h, hC⟩ := h
  obtain ⟨w', h1, h2, h3⟩ := h.store keyed2 Try.underlying57 (by unfold maxLen; omega) (key2_of hx hy) (unitElem_mk (H := Unit))
  refine ⟨w', h1, ⟨_, h2, fun x' y' hx' hy' => ?_⟩, h3⟩
  by_cases e : x' = x ∧ y' = y
  · obtain ⟨rfl, rfl⟩ := e
    rw [Maps.has_put_same h.isMap (keyed2.key (key2_of hx hy))]
    simp
  · have hne : key2 x' y' ≠ key2 x y := fun h => e (key2_inj hx' hy' hx hy h)
    rw [Maps.has_put_other hne, hC x' y' hx' hy']
    have : (x' == x && y' == y) = false := by
      simp only [Bool.and_eq_false_iff, beq_eq_false_iff_ne]
      by_cases h1 : x' = x
      · exact .inr (fun h2 => e ⟨h1, h2⟩)
      · exact .inl h1
    simp [this]

theorem MapC.del {w : World} {b z : Nat} {C : Int → Int → Bool} (h : MapC w b z C) {x y : Int} (hx : UU x) (hy : UU y) (ty : TypeId) : ∃ w', (Builtin.delete_ #[57, 66] ty #[.map (some b), .agg #[.int .u64 x, .int .u64 y]]).run Try.prog w = .ok (.tuple #[]) w' ∧ MapC w' b z (fun x' y' => C x' y' && !(x' == x && y' == y)) ∧ w.mapTurned w' b := by
  obtain ⟨D, h, hC⟩ := h
  obtain ⟨w', h1, h2, h3⟩ := h.drop keyed2 Try.underlying57 (key2_of hx hy) ty
  refine ⟨w', h1, ⟨_, h2, fun x' y' hx' hy' => ?_⟩, h3⟩
  by_cases e : x' = x ∧ y' = y
  · obtain ⟨rfl, rfl⟩ := e
    rw [Maps.has_del_same]
    simp
  · have hne : key2 x' y' ≠ key2 x y := fun h => e (key2_inj hx' hy' hx hy h)
    rw [Maps.has_del_other hne, hC x' y' hx' hy']
    have : (x' == x && y' == y) = false := by
      simp only [Bool.and_eq_false_iff, beq_eq_false_iff_ne]
      by_cases h1 : x' = x
      · exact .inr (fun h2 => e ⟨h1, h2⟩)
      · exact .inl h1
    simp [this]

/-! ### The mesh -/

def blk : Value → Option Nat
  | .slice (some a) _ _ => some a.block
  | .map b => b
  | _ => none

def cellsF (F : List (Int × Int)) : List Value := F.flatMap (fun f => [.int .i64 f.1, .int .i64 f.2])

theorem cellsF_len (F : List (Int × Int)) : (cellsF F).length = F.length * 2 := flat_len (f := fun f : Int × Int => [Value.int .i64 f.1, .int .i64 f.2]) (n := 2) (fun _ => rfl) F

/-- the mesh's own blocks -/
def Spine (p : Nat) (cs : Nat → Value) (k : Nat) : Prop := k = p ∨ ∃ i, i < 103 ∧ blk (cs i) = some k

/-- the mesh at p: its cells cs; F: the fates to come; C: who is cut off; Q: what is due (2), and what is due behind i - 2 ticks -/
structure IsMesh (w : World) (base p z : Nat) (cs : Nat → Value) (F : List (Int × Int)) (C : Int → Int → Bool) (Q : Nat → List MMsg) : Prop where
  cell : ∀ i, i < 103 → w.cell? ⟨p, i, none⟩ = some (cs i)
  fz : ∀ i, w.frozen? ⟨p, i, none⟩ = false
  pb : base ≤ p ∧ p < w.heap.size
  rng : ∀ i b, i < 103 → blk (cs i) = some b → base ≤ b ∧ b < w.heap.size
  ap : ∀ i j b, i < 103 → j < 103 → blk (cs i) = some b → blk (cs j) = some b → i = j
  op : ∀ i, i < 103 → blk (cs i) ≠ some p
  map : ∃ mb, cs 1 = .map (some mb) ∧ MapC w mb z C
  fates : Seg w 2 (cs 0) F.length (cellsF F)
  fr : ∀ f ∈ F, II f.1 ∧ II f.2
  seg : ∀ i, 2 ≤ i → i < 103 → Seg w 14 (cs i) (Q i).length (cellsG (Q i))
  dat : ∀ i m, 2 ≤ i → i < 103 → m ∈ Q i → m.okX (Spine p cs) w

theorem blk_own {w : World} {sz : Nat} {v : Value} {n : Nat} {xs : List Value} (h : Seg w sz v n xs) : blk v = v.ownBlock := by
  obtain ⟨a, c, rfl, _⟩ := h.form
  cases a <;> rfl

theorem Spine.lt {w : World} {base p z : Nat} {cs : Nat → Value} {F : List (Int × Int)} {C : Int → Int → Bool} {Q : Nat → List MMsg} (h : IsMesh w base p z cs F C Q) {k : Nat} (hk : Spine p cs k) : base ≤ k ∧ k < w.heap.size := by
  rcases hk with rfl | ⟨i, hi, hb⟩
  · exact h.pb
  · exact h.rng i k hi hb

theorem IsMesh.keep {w w' : World} {base p z : Nat} {cs : Nat → Value} {F : List (Int × Int)} {C : Int → Int → Bool} {Q : Nat → List MMsg} (h : IsMesh w base p z cs F C Q) (hb : Below w.heap.size w w') : IsMesh w' base p z cs F C Q := by
  refine ⟨fun i hi => (hb.cell (p := ⟨p, i, none⟩) h.pb.2).trans (h.cell i hi), fun i => (hb.frozen (p := ⟨p, i, none⟩) h.pb.2).trans (h.fz i), ⟨h.pb.1, Nat.lt_of_lt_of_le h.pb.2 hb.size⟩, fun i b hi hb' => ⟨(h.rng i b hi hb').1, Nat.lt_of_lt_of_le (h.rng i b hi hb').2 hb.size⟩, h.ap, h.op, ?_, h.fates.keep hb, h.fr, fun i h2 hi => (h.seg i h2 hi).keep hb, fun i m h2 hi hm => (h.dat i m h2 hi hm).keep hb⟩
  obtain ⟨mb, h1, h2⟩ := h.map
  exact ⟨mb, h1, mapC_same h2 (hb.block mb (mapC_lt h2))⟩

/-- other blocks changed -/
theorem IsMesh.lies {w w' : World} {M : Nat → Prop} {base p z : Nat} {cs : Nat → Value} {F : List (Int × Int)} {C : Int → Int → Bool} {Q : Nat → List MMsg} (h : IsMesh w base p z cs F C Q) (hk : Keeps M w w') (ho : ∀ k, M k → ¬ Spine p cs k) (hd : ∀ i m, 2 ≤ i → i < 103 → m ∈ Q i → m.okX (Spine p cs) w') : IsMesh w' base p z cs F C Q := by
  have e : ∀ k, Spine p cs k → w'.heap[k]? = w.heap[k]? := fun k hs => hk.block k (Spine.lt h hs).2 (fun hm => ho k hm hs)
  have ep := e p (.inl rfl)
  have eb : ∀ i, i < 103 → ∀ g, (cs i).ownBlock = some g → w'.heap[g]? = w.heap[g]? := by
    intro i hi g hg
    refine e g (.inr ⟨i, hi, ?_⟩)
    cases hc : cs i with
    | slice a n c => rw [hc] at hg; cases a with
      | none => cases hg
      | some a => exact hg
    | _ => rw [hc] at hg; cases hg
  refine ⟨fun i hi => (World.cell?_of_block (a := ⟨p, i, none⟩) ep).trans (h.cell i hi), fun i => (World.frozen?_of_block (a := ⟨p, i, none⟩) ep).trans (h.fz i), ⟨h.pb.1, Nat.lt_of_lt_of_le h.pb.2 hk.size⟩, fun i b hi hb' => ⟨(h.rng i b hi hb').1, Nat.lt_of_lt_of_le (h.rng i b hi hb').2 hk.size⟩, h.ap, h.op, ?_, h.fates.same (eb 0 (by decide)), h.fr, fun i h2 hi => (h.seg i h2 hi).same (eb i hi), hd⟩
  obtain ⟨mb, h1, h2⟩ := h.map
  exact ⟨mb, h1, mapC_same h2 (e mb (.inr ⟨1, by decide, by rw [h1]; rfl⟩))⟩

def upd {α : Type} (f : Nat → α) (i : Nat) (v : α) : Nat → α := fun j => if j = i then v else f j

theorem upd_at {α : Type} (f : Nat → α) (i : Nat) (v : α) : upd f i v i = v := if_pos rfl
theorem upd_ne {α : Type} (f : Nat → α) (i : Nat) (v : α) {j : Nat} (h : j ≠ i) : upd f i v j = f j := if_neg h

theorem cell_off {w : World} {p i j : Nat} {v : Value} (h : i ≠ j) : (w.setCell ⟨p, i, none⟩ v).cell? ⟨p, j, none⟩ = w.cell? ⟨p, j, none⟩ :=
  World.cell?_setCell_other _ _ _ _ (fun e => h (by cases e; rfl))

/-- one of the lists grown (or shortened), and stored -/
theorem IsMesh.put {w w' : World} {base p z : Nat} {cs : Nat → Value} {F : List (Int × Int)} {C : Int → Int → Bool} {Q : Nat → List MMsg} (h : IsMesh w base p z cs F C Q) (hbase : base ≤ w.heap.size) (i : Nat) (h2 : 2 ≤ i) (hi : i < 103) (hk : Keeps (fun k => (cs i).ownBlock = some k) w w') (v' : Value) (l' : List MMsg) (hs : Seg w' 14 v' l'.length (cellsG l')) (hat : AtB w (cs i) v') (hd : ∀ m ∈ l', m.okX (fun k => Spine p cs k ∨ v'.ownBlock = some k) w') :
    IsMesh (w'.setCell ⟨p, i, none⟩ v') base p z (upd cs i v') F C (upd Q i l') ∧ Keeps (Spine p cs) w (w'.setCell ⟨p, i, none⟩ v') ∧ ∀ k, Spine p (upd cs i v') k → Spine p cs k ∨ w.heap.size ≤ k := by
  have hbi := blk_own (h.seg i h2 hi)
  have hbv := blk_own hs
  have hnew : ∀ k, v'.ownBlock = some k → blk (cs i) = some k ∨ w.heap.size ≤ k := by
    intro k hk'
    rcases hat with h1 | ⟨g, h1, h3⟩
    · left; rw [hbi, ← h1]; exact hk'
    · right; rw [hk'] at h1; cases h1; exact h3
  have hsp : ∀ k, Spine p (upd cs i v') k → Spine p cs k ∨ v'.ownBlock = some k := by
    intro k hk'
    rcases hk' with rfl | ⟨j, hj, hb⟩
    · exact .inl (.inl rfl)
    · by_cases e : j = i
      · subst e; rw [upd_at, hbv] at hb; exact .inr hb
      · rw [upd_ne _ _ _ e] at hb; exact .inl (.inr ⟨j, hj, hb⟩)
  have hsp2 : ∀ k, Spine p (upd cs i v') k → Spine p cs k ∨ w.heap.size ≤ k := by
    intro k hk'
    rcases hsp k hk' with h1 | h1
    · exact .inl h1
    · exact (hnew k h1).imp (fun h1 => .inr ⟨i, hi, h1⟩) id
  have hkS : Keeps (Spine p cs) w w' := ⟨hk.os, hk.tape, hk.output, hk.size, fun k hk' hn => hk.block k hk' (fun e => hn (.inr ⟨i, hi, by rw [hbi]; exact e⟩))⟩
  have hpo : ¬ (cs i).ownBlock = some p := fun e => h.op i hi (by rw [hbi]; exact e)
  have ep : w'.heap[p]? = w.heap[p]? := hk.block p h.pb.2 hpo
  have hsz : (w'.setCell ⟨p, i, none⟩ v').heap.size = w'.heap.size := by simp [World.setCell]
  have hvp : v'.ownBlock ≠ some p := by
    intro e
    rcases hnew p e with h1 | h1
    · exact h.op i hi h1
    · have := h.pb.2; omega
  have e1 : ∀ k, k < w.heap.size → ¬ (cs i).ownBlock = some k → k ≠ p → (w'.setCell ⟨p, i, none⟩ v').heap[k]? = w.heap[k]? := fun k hk' hn hne => (Below.heap_setCell w' ⟨p, i, none⟩ v' k hne).trans (hk.block k hk' hn)
  have eb : ∀ j, j < 103 → j ≠ i → ∀ g, blk (cs j) = some g → (w'.setCell ⟨p, i, none⟩ v').heap[g]? = w.heap[g]? := by
    intro j hj hne g hg
    refine e1 g (h.rng j g hj hg).2 (fun e => hne (h.ap j i g hj hi hg (by rw [hbi]; exact e))) (fun e => h.op j hj (by rw [hg, e]))
  have hall : Keeps (Spine p cs) w (w'.setCell ⟨p, i, none⟩ v') := ⟨hk.os, hk.tape, hk.output, by rw [hsz]; exact hk.size, fun k hk' hn => (Below.heap_setCell w' ⟨p, i, none⟩ v' k (fun e => hn (.inl e))).trans (hkS.block k hk' hn)⟩
  have hk2 : Keeps (fun k => k = p) w' (w'.setCell ⟨p, i, none⟩ v') := keeps_cell v'
  refine ⟨⟨?_, ?_, ⟨h.pb.1, by rw [hsz]; exact Nat.lt_of_lt_of_le h.pb.2 hk.size⟩, ?_, ?_, ?_, ?_, ?_, h.fr, ?_, ?_⟩, hall, hsp2⟩
  · intro j hj
    have hc := (World.cell?_of_block (a := ⟨p, j, none⟩) ep).trans (h.cell j hj)
    by_cases e : j = i
    · subst e; rw [upd_at]; exact World.cell?_setCell_same _ _ _ hc
    · rw [upd_ne _ _ _ e, cell_off (fun e' => e e'.symm)]; exact hc
  · intro j
    simp
    exact (World.frozen?_of_block (a := ⟨p, j, none⟩) ep).trans (h.fz j)
  · intro j b hj hb
    rw [hsz]
    by_cases e : j = i
    · subst e
      rw [upd_at, hbv] at hb
      refine ⟨?_, hs.lt b hb⟩
      rcases hnew b hb with h1 | h1
      · exact (h.rng j b hj h1).1
      · exact Nat.le_trans hbase h1
    · rw [upd_ne _ _ _ e] at hb
      exact ⟨(h.rng j b hj hb).1, Nat.lt_of_lt_of_le (h.rng j b hj hb).2 hk.size⟩
  · have key : ∀ j b, j < 103 → j ≠ i → blk (cs j) = some b → v'.ownBlock = some b → False := by
      intro j b hj hne h1 h3
      rcases hnew b h3 with h4 | h4
      · exact hne (h.ap j i b hj hi h1 h4)
      · have := (h.rng j b hj h1).2; omega
    intro a b k ha hb h1 h3
    by_cases ea : a = i
    · by_cases e' : b = i
      · rw [ea, e']
      · subst ea
        rw [upd_at, hbv] at h1
        rw [upd_ne _ _ _ e'] at h3
        exact (key b k hb e' h3 h1).elim
    · rw [upd_ne _ _ _ ea] at h1
      by_cases e' : b = i
      · subst e'
        rw [upd_at, hbv] at h3
        exact (key a k ha ea h1 h3).elim
      · rw [upd_ne _ _ _ e'] at h3
        exact h.ap a b k ha hb h1 h3
  · intro j hj
    by_cases e : j = i
    · subst e; rw [upd_at, hbv]; exact hvp
    · rw [upd_ne _ _ _ e]; exact h.op j hj
  · obtain ⟨mb, m1, m2⟩ := h.map
    refine ⟨mb, by rw [upd_ne _ _ _ (by omega)]; exact m1, mapC_same m2 (eb 1 (by decide) (by omega) mb (by rw [m1]; rfl))⟩
  · rw [upd_ne _ _ _ (show (0 : Nat) ≠ i by omega)]
    refine h.fates.same (fun g hg => eb 0 (by decide) (by omega) g ?_)
    rw [blk_own h.fates]; exact hg
  · intro j hj2 hj
    by_cases e : j = i
    · subst e
      rw [upd_at, upd_at]
      exact hs.same (fun g hg => Below.heap_setCell w' ⟨p, j, none⟩ v' g (fun e => hvp (by rw [hg, e])))
    · rw [upd_ne _ _ _ e, upd_ne _ _ _ e]
      refine (h.seg j hj2 hj).same (fun g hg => eb j hj e g ?_)
      rw [blk_own (h.seg j hj2 hj)]; exact hg
  · intro j m hj2 hj hm
    by_cases e : j = i
    · subst e
      rw [upd_at] at hm
      refine ((hd m hm).lies hk2 (fun k e => .inl (.inl e))).more (fun k hk' => .inl (hsp k hk'))
    · rw [upd_ne _ _ _ e] at hm
      exact (((h.dat j m hj2 hj hm).more (Y := fun k => Spine p cs k ∨ Spine p (upd cs i v') k) (fun k hk' => hk'.elim .inl (hsp2 k))).lies hall (fun k hk' => .inl hk')).more (fun k hk' => .inl (.inr hk'))

/-- the fates' list shortened -/
theorem IsMesh.putF {w : World} {base p z : Nat} {cs : Nat → Value} {F F' : List (Int × Int)} {C : Int → Int → Bool} {Q : Nat → List MMsg} (h : IsMesh w base p z cs F C Q) (v' : Value) (hs : Seg w 2 v' F'.length (cellsF F')) (hb : v'.ownBlock = (cs 0).ownBlock) (hF : ∀ f ∈ F', f ∈ F) :
    IsMesh (w.setCell ⟨p, 0, none⟩ v') base p z (upd cs 0 v') F' C Q ∧ Keeps (Spine p cs) w (w.setCell ⟨p, 0, none⟩ v') ∧ ∀ k, Spine p (upd cs 0 v') k → Spine p cs k := by
  have hb0 : ∀ j, blk (upd cs 0 v' j) = blk (cs j) := by
    intro j
    by_cases e : j = 0
    · subst e; rw [upd_at, blk_own hs, hb, blk_own h.fates]
    · rw [upd_ne _ _ _ e]
  have hsz : (w.setCell ⟨p, 0, none⟩ v').heap.size = w.heap.size := by simp [World.setCell]
  have e1 : ∀ k, k ≠ p → (w.setCell ⟨p, 0, none⟩ v').heap[k]? = w.heap[k]? := fun k hne => Below.heap_setCell w ⟨p, 0, none⟩ v' k hne
  have eb : ∀ j, j < 103 → ∀ g, blk (cs j) = some g → (w.setCell ⟨p, 0, none⟩ v').heap[g]? = w.heap[g]? := fun j hj g hg => e1 g (fun e => h.op j hj (by rw [hg, e]))
  have hsp : ∀ k, Spine p (upd cs 0 v') k → Spine p cs k := by
    intro k hk
    rcases hk with rfl | ⟨j, hj, hb'⟩
    · exact .inl rfl
    · rw [hb0] at hb'; exact .inr ⟨j, hj, hb'⟩
  have hk2 : Keeps (fun k => k = p) w (w.setCell ⟨p, 0, none⟩ v') := keeps_cell v'
  refine ⟨⟨?_, fun j => by simp; exact h.fz j, ⟨h.pb.1, by rw [hsz]; exact h.pb.2⟩, fun j b hj hb' => by rw [hb0] at hb'; rw [hsz]; exact h.rng j b hj hb', fun a b k ha hb' h1 h3 => by rw [hb0] at h1 h3; exact h.ap a b k ha hb' h1 h3, fun j hj => by rw [hb0]; exact h.op j hj, ?_, ?_, fun f hf => h.fr f (hF f hf), ?_, ?_⟩, ⟨hk2.os, hk2.tape, hk2.output, hk2.size, fun k hk hn => hk2.block k hk (fun e => hn (.inl e))⟩, hsp⟩
  · intro j hj
    by_cases e : j = 0
    · subst e; rw [upd_at]; exact World.cell?_setCell_same _ _ _ (h.cell 0 hj)
    · rw [upd_ne _ _ _ e, cell_off (fun e' => e e'.symm)]; exact h.cell j hj
  · obtain ⟨mb, m1, m2⟩ := h.map
    exact ⟨mb, by rw [upd_ne _ _ _ (by decide)]; exact m1, mapC_same m2 (eb 1 (by decide) mb (by rw [m1]; rfl))⟩
  · rw [upd_at]
    refine hs.same (fun g hg => eb 0 (by decide) g ?_)
    rw [blk_own h.fates, ← hb]; exact hg
  · intro j h2 hj
    rw [upd_ne _ _ _ (show j ≠ 0 by omega)]
    refine (h.seg j h2 hj).same (fun g hg => eb j hj g ?_)
    rw [blk_own (h.seg j h2 hj)]; exact hg
  · intro j m h2 hj hm
    exact ((h.dat j m h2 hj hm).lies hk2 (fun k e => .inl e)).more (fun k hk => .inl (hsp k hk))

/-- the map turned -/
theorem IsMesh.turn {w w' : World} {base p z z' : Nat} {cs : Nat → Value} {F : List (Int × Int)} {C C' : Int → Int → Bool} {Q : Nat → List MMsg} (h : IsMesh w base p z cs F C Q) (mb : Nat) (h1 : cs 1 = .map (some mb)) (hm : MapC w' mb z' C') (ht : w.mapTurned w' mb) :
    IsMesh w' base p z' cs F C' Q ∧ Keeps (Spine p cs) w w' := by
  have hg := ht.grown
  have hs1 : Spine p cs mb := .inr ⟨1, by decide, by rw [h1]; rfl⟩
  have e : ∀ k, k < w.heap.size → k ≠ mb → w'.heap[k]? = w.heap[k]? := fun k hk hn => hg.block k hk (fun e => hn (by cases e; rfl))
  have hk : Keeps (fun k => k = mb) w w' := ⟨hg.os, hg.tape, hg.output, hg.size, fun k hk hn => e k hk hn⟩
  have hpm : p ≠ mb := fun e => h.op 1 (by decide) (by rw [h1, e]; rfl)
  have ep := e p h.pb.2 hpm
  have eb : ∀ j, j < 103 → j ≠ 1 → ∀ g, blk (cs j) = some g → w'.heap[g]? = w.heap[g]? := fun j hj hne g hg' => e g (h.rng j g hj hg').2 (fun e => hne (h.ap j 1 g hj (by decide) hg' (by rw [h1, e]; rfl)))
  refine ⟨⟨fun i hi => (World.cell?_of_block (a := ⟨p, i, none⟩) ep).trans (h.cell i hi), fun i => (World.frozen?_of_block (a := ⟨p, i, none⟩) ep).trans (h.fz i), ⟨h.pb.1, Nat.lt_of_lt_of_le h.pb.2 hg.size⟩, fun i b hi hb' => ⟨(h.rng i b hi hb').1, Nat.lt_of_lt_of_le (h.rng i b hi hb').2 hg.size⟩, h.ap, h.op, ⟨mb, h1, hm⟩, ?_, h.fr, ?_, ?_⟩, ⟨hg.os, hg.tape, hg.output, hg.size, fun k hk' hn => e k hk' (fun e => hn (e ▸ hs1))⟩⟩
  · refine h.fates.same (fun g hg' => eb 0 (by decide) (by decide) g ?_)
    rw [blk_own h.fates]; exact hg'
  · intro j h2 hj
    refine (h.seg j h2 hj).same (fun g hg' => eb j hj (by omega) g ?_)
    rw [blk_own (h.seg j h2 hj)]; exact hg'
  · intro j m h2 hj hm'
    exact (h.dat j m h2 hj hm').lies hk (fun k e => e ▸ hs1)

/-- one tick: the lists of what is due later move up -/
theorem IsMesh.shift {w w' : World} {base p z : Nat} {cs : Nat → Value} {F : List (Int × Int)} {C : Int → Int → Bool} {Q : Nat → List MMsg} (h : IsMesh w base p z cs F C Q) (hk : Keeps (fun k => k = p) w w') (hf : ∀ i, w'.frozen? ⟨p, i, none⟩ = false)
    (c0 : ∀ i, i < 3 → w'.cell? ⟨p, i, none⟩ = some (cs i)) (c1 : ∀ i, 3 ≤ i → i < 102 → w'.cell? ⟨p, i, none⟩ = some (cs (i + 1))) (c2 : w'.cell? ⟨p, 102, none⟩ = some (.slice none 0 0)) :
    IsMesh w' base p z (fun i => if i < 3 then cs i else if i < 102 then cs (i + 1) else .slice none 0 0) F C (fun i => if i < 3 then Q i else if i < 102 then Q (i + 1) else []) ∧ ∀ k, Spine p (fun i => if i < 3 then cs i else if i < 102 then cs (i + 1) else .slice none 0 0) k → Spine p cs k := by
  have eb : ∀ j, j < 103 → ∀ g, blk (cs j) = some g → w'.heap[g]? = w.heap[g]? := fun j hj g hg => hk.block g (h.rng j g hj hg).2 (fun e => h.op j hj (by rw [hg, e]))
  have pre : ∀ i b, i < 103 → blk ((fun i => if i < 3 then cs i else if i < 102 then cs (i + 1) else .slice none 0 0) i) = some b → (i < 3 ∧ blk (cs i) = some b) ∨ (3 ≤ i ∧ i < 102 ∧ blk (cs (i + 1)) = some b) := by
    intro i b hi hb
    dsimp only at hb
    split at hb
    · exact .inl ⟨by assumption, hb⟩
    · split at hb
      · exact .inr ⟨by omega, by assumption, hb⟩
      · cases hb
  have hsp : ∀ k, Spine p (fun i => if i < 3 then cs i else if i < 102 then cs (i + 1) else .slice none 0 0) k → Spine p cs k := by
    intro k hk'
    rcases hk' with rfl | ⟨i, hi, hb⟩
    · exact .inl rfl
    · rcases pre i k hi hb with ⟨h1, h2⟩ | ⟨h1, h2, h3⟩
      · exact .inr ⟨i, hi, h2⟩
      · exact .inr ⟨i + 1, by omega, h3⟩
  refine ⟨⟨?_, hf, ⟨h.pb.1, Nat.lt_of_lt_of_le h.pb.2 hk.size⟩, ?_, ?_, ?_, ?_, ?_, h.fr, ?_, ?_⟩, hsp⟩
  · intro i hi
    try dsimp only
    split
    · exact c0 i (by assumption)
    · split
      · exact c1 i (by omega) (by assumption)
      · obtain rfl : i = 102 := by omega
        exact c2
  · intro i b hi hb
    rcases pre i b hi hb with ⟨h1, h2⟩ | ⟨h1, h2, h3⟩
    · exact ⟨(h.rng i b hi h2).1, Nat.lt_of_lt_of_le (h.rng i b hi h2).2 hk.size⟩
    · exact ⟨(h.rng (i + 1) b (by omega) h3).1, Nat.lt_of_lt_of_le (h.rng (i + 1) b (by omega) h3).2 hk.size⟩
  · intro i j b hi hj hb hb'
    rcases pre i b hi hb with ⟨h1, h2⟩ | ⟨h1, h2, h3⟩ <;> rcases pre j b hj hb' with ⟨k1, k2⟩ | ⟨k1, k2, k3⟩
    · exact h.ap i j b hi hj h2 k2
    · have := h.ap i (j + 1) b hi (by omega) h2 k3; omega
    · have := h.ap (i + 1) j b (by omega) hj h3 k2; omega
    · have := h.ap (i + 1) (j + 1) b (by omega) (by omega) h3 k3; omega
  · intro i hi e
    rcases pre i p hi e with ⟨h1, h2⟩ | ⟨h1, h2, h3⟩
    · exact h.op i hi h2
    · exact h.op (i + 1) (by omega) h3
  · obtain ⟨mb, m1, m2⟩ := h.map
    exact ⟨mb, by simpa using m1, mapC_same m2 (eb 1 (by decide) mb (by rw [m1]; rfl))⟩
  · simp only [show (0 : Nat) < 3 by decide, if_true]
    refine h.fates.same (fun g hg => eb 0 (by decide) g ?_)
    rw [blk_own h.fates]; exact hg
  · intro i h2 hi
    try dsimp only
    split
    · refine (h.seg i h2 hi).same (fun g hg => eb i hi g ?_)
      rw [blk_own (h.seg i h2 hi)]; exact hg
    · split
      · refine (h.seg (i + 1) (by omega) (by omega)).same (fun g hg => eb (i + 1) (by omega) g ?_)
        rw [blk_own (h.seg (i + 1) (by omega) (by omega))]; exact hg
      · exact seg_nil _ _
  · intro i m h2 hi hm
    try dsimp only at hm
    have up : ∀ j, 2 ≤ j → j < 103 → m ∈ Q j → m.okX (Spine p (fun i => if i < 3 then cs i else if i < 102 then cs (i + 1) else .slice none 0 0)) w' := fun j j2 hj hmj => ((h.dat j m j2 hj hmj).lies hk (fun k e => .inl e)).more (fun k hk' => .inl (hsp k hk'))
    split at hm
    · exact up i h2 hi hm
    · split at hm
      · exact up (i + 1) (by omega) (by omega) hm
      · simp at hm

end Go.Proofs.Ytodmieehdleohaa
