/- The program's store in memory: all of it; what its steps make of it. -/
import Derived.Test.YtfldiapdfpkdaaaQsD
import Derived.Test.YtfldiapdfpkdaaaMvQ
namespace Go.Proofs.Ytfldiapdfpkdaaa
open Go.RowKit NumMath Go.ChangeShapes Go.WideShapes Go.Deep
set_option linter.unusedVariables false
set_option maxRecDepth 100000

/-- which cell stands at a key -/
def atS (cs : List PC) (key : List Int) : Option PC := cs.find? (fun m => decide (m.key = key))

def blkOf (cs : List PC) (key : List Int) : Int := match atS cs key with
  | some m => (m.b : Int)
  | none => -1

/-- blocks that the store's calls may change -/
def Mut (mb : Nat) (cs : List PC) (k : Nat) : Prop := k = mb ∨ ∃ m ∈ cs, m.blk k

/-- .. and somebody else's -/
def MutG (G : Nat → Prop) (mb : Nat) (cs : List PC) (k : Nat) : Prop := Mut mb cs k ∨ G k

/-- a cell's data hang on none of X -/
def PC.dat (X : Nat → Prop) (w : World) (m : PC) : Prop := (∀ v ∈ m.vs, Foot X w (fun w => v.at w)) ∧ Foot X w (fun w => m.it.at w)

/-- what a cell is, as plain values -/
structure PC.good (z : Nat) (m : PC) : Prop where
  key : ∀ c ∈ m.key, 0 ≤ c ∧ c < 256
  kl : m.key.length ≤ 100000
  desc : Desc tsM m.vs
  fit : ∀ v ∈ m.vs, FitV v.v
  fiti : FitV m.it.v
  few : m.vs.length ≤ z

/-- the program's store at p: its map lies at mb, with the cells cs, by their keys; nothing of it lies in the blocks G, which are somebody else's -/
structure IsS (G : Nat → Prop) (base : Nat) (w : World) (p mb z : Nat) (cs : List PC) : Prop where
  c : w.cell? ⟨p, 0, none⟩ = some (.map (some mb))
  lo : base ≤ p
  lt : p < w.heap.size
  mlo : base ≤ mb
  map : MapF w mb z (blkOf cs)
  is : ∀ m ∈ cs, m.is base w
  dat : ∀ m ∈ cs, m.dat (MutG G mb cs) w
  ap : cs.Pairwise (fun a b => ∀ k, a.blk k → ¬ b.blk k)
  mm : ∀ m ∈ cs, ¬ m.blk mb
  pm : p ≠ mb
  pc : ∀ m ∈ cs, ¬ m.blk p
  go : ∀ m ∈ cs, m.good z
  sort : SortC (cs.map PC.c)
  few : cs.length ≤ z
  gp : ¬ G p
  gm : ∀ k, Mut mb cs k → ¬ G k
  bs : base ≤ w.heap.size
  gl : ∀ k, G k → k < w.heap.size

theorem PC.is.blt {base : Nat} {w : World} {m : PC} (h : m.is base w) {k : Nat} (hk : m.blk k) : k < w.heap.size := by
  rcases hk with rfl | hk
  · exact h.lt
  · exact (h.own.lt k hk).2

theorem PC.is.blo {base : Nat} {w : World} {m : PC} (h : m.is base w) {k : Nat} (hk : m.blk k) : base ≤ k := by
  rcases hk with rfl | hk
  · exact h.lo
  · exact (h.own.lt k hk).1

theorem IsS.mlt {G : Nat → Prop} {base : Nat} {w : World} {p mb z : Nat} {cs : List PC} (h : IsS G base w p mb z cs) {k : Nat} (hk : Mut mb cs k) : k < w.heap.size := by
  rcases hk with rfl | ⟨m, hm, hk⟩
  · exact h.map.lt
  · exact (h.is m hm).blt hk

theorem IsS.mlo' {G : Nat → Prop} {base : Nat} {w : World} {p mb z : Nat} {cs : List PC} (h : IsS G base w p mb z cs) {k : Nat} (hk : Mut mb cs k) : base ≤ k := by
  rcases hk with rfl | ⟨m, hm, hk⟩
  · exact h.mlo
  · exact (h.is m hm).blo hk

theorem PC.good.more {z z' : Nat} {m : PC} (h : m.good z) (hz : z ≤ z') : m.good z' := ⟨h.key, h.kl, h.desc, h.fit, h.fiti, Nat.le_trans h.few hz⟩

/-- behind a call that changes somebody else's blocks alone -/
theorem IsS.next {G G' : Nat → Prop} {base : Nat} {w w' : World} {p mb z : Nat} {cs : List PC} (h : IsS G base w p mb z cs) (hk : Keeps G w w') (hG : ∀ k, G' k → G k ∨ w.heap.size ≤ k) (hl : ∀ k, G' k → k < w'.heap.size) : IsS G' base w' p mb z cs := by
  have hp := hk.block p h.lt h.gp
  have hm := hk.block mb h.map.lt (h.gm mb (.inl rfl))
  have hX : Keeps (MutG G mb cs) w w' := Keeps.wider hk (fun k hk => .inr hk)
  have hY : ∀ k, MutG G' mb cs k → MutG G mb cs k ∨ w.heap.size ≤ k := fun k hk => by
    rcases hk with hk | hk
    · exact .inl (.inl hk)
    · rcases hG k hk with h1 | h1
      · exact .inl (.inr h1)
      · exact .inr h1
  refine ⟨(World.cell?_of_block (a := ⟨p, 0, none⟩) hp).trans h.c, h.lo, Nat.lt_of_lt_of_le h.lt hk.size, h.mlo, h.map.same hm, fun m hm => (h.is m hm).lies hk (fun k hb => h.gm k (.inr ⟨m, hm, hb⟩)), fun m hm => ⟨fun v hv => ((h.dat m hm).1 v hv).step hX hY, (h.dat m hm).2.step hX hY⟩, h.ap, h.mm, h.pm, h.pc, h.go, h.sort, h.few, fun e => ?_, fun k hk1 e => ?_, Nat.le_trans h.bs hk.size, hl⟩
  · rcases hG p e with h1 | h1
    · exact h.gp h1
    · have := h.lt; omega
  · rcases hG k e with h1 | h1
    · exact h.gm k hk1 h1
    · have := h.mlt hk1; omega

theorem IsS.keep {G : Nat → Prop} {base : Nat} {w w' : World} {p mb z : Nat} {cs : List PC} (h : IsS G base w p mb z cs) (hb : Below w.heap.size w w') : IsS G base w' p mb z cs := h.next (Below.keeps hb G) (fun k hk => .inl hk) (fun k hk => Nat.lt_of_lt_of_le (h.gl k hk) hb.size)

theorem IsS.more {G : Nat → Prop} {base : Nat} {w : World} {p mb z z' : Nat} {cs : List PC} (h : IsS G base w p mb z cs) (hz : z ≤ z') : IsS G base w p mb z' cs :=
  ⟨h.c, h.lo, h.lt, h.mlo, h.map.more hz, h.is, h.dat, h.ap, h.mm, h.pm, h.pc, fun m hm => (h.go m hm).more hz, h.sort, Nat.le_trans h.few hz, h.gp, h.gm, h.bs, h.gl⟩

theorem atS_mem {cs : List PC} {key : List Int} {m : PC} (h : atS cs key = some m) : m ∈ cs ∧ m.key = key := by
  unfold atS at h
  exact ⟨List.mem_of_find?_eq_some h, by simpa using List.find?_some h⟩

theorem atS_none {cs : List PC} {key : List Int} (h : atS cs key = none) : ∀ m ∈ cs, m.key ≠ key := by
  unfold atS at h
  intro m hm
  have := List.find?_eq_none.1 h m hm
  simpa using this

theorem sort_keyne {cs : List PC} (hs : SortC (cs.map PC.c)) : cs.Pairwise (fun a b => a.key ≠ b.key) := by
  unfold SortC at hs
  rw [List.pairwise_map] at hs
  refine hs.imp (fun {a b} h e => ?_)
  have h' : lessL a.key b.key = true := h
  rw [e, lessL_self] at h'
  cases h'

theorem atS_of {cs : List PC} (hs : SortC (cs.map PC.c)) {m : PC} (hm : m ∈ cs) : atS cs m.key = some m := by
  have hp := sort_keyne hs
  clear hs
  unfold atS
  induction cs with
  | nil => cases hm
  | cons a r ih =>
    rw [List.pairwise_cons] at hp
    rw [List.find?_cons]
    rcases List.mem_cons.1 hm with rfl | hm
    · simp
    · have : a.key ≠ m.key := hp.1 m hm
      rw [decide_eq_false this]
      exact ih hm hp.2

/-- the cell at a key, and where it stands -/
theorem atS_get {cs : List PC} {key : List Int} {m : PC} (h : atS cs key = some m) : ∃ i : Nat, cs[i]? = some m ∧ m.key = key := by
  obtain ⟨hm, hk⟩ := atS_mem h
  obtain ⟨i, hi, rfl⟩ := List.getElem_of_mem hm
  exact ⟨i, List.getElem?_eq_getElem hi, hk⟩

theorem mem_set_cases {α : Type} {l : List α} {i : Nat} {x y : α} (h : x ∈ l.set i y) : x = y ∨ ∃ j : Nat, j ≠ i ∧ l[j]? = some x := by
  obtain ⟨j, hj, rfl⟩ := List.getElem_of_mem h
  rw [List.length_set] at hj
  by_cases e : j = i
  · subst e
    left
    simp
  · right
    refine ⟨j, e, ?_⟩
    rw [List.getElem_set_ne (fun e2 => e e2.symm), List.getElem?_eq_getElem hj]

theorem blk_set {cs : List PC} {i : Nat} {m m' : PC} (hi : cs[i]? = some m) (hk : m'.key = m.key) (hb : m'.b = m.b) : blkOf (cs.set i m') = blkOf cs := by
  funext key
  have : ∀ (l : List PC) (i : Nat), l[i]? = some m → (atS (l.set i m') key).map PC.b = (atS l key).map PC.b := by
    intro l
    induction l with
    | nil => intro i h; simp at h
    | cons a r ih =>
      intro i h
      unfold atS
      cases i with
      | zero =>
        simp at h
        subst h
        rw [List.set_cons_zero, List.find?_cons, List.find?_cons, hk]
        split
        · simp [hb]
        · rfl
      | succ j =>
        rw [List.set_cons_succ, List.find?_cons, List.find?_cons]
        split
        · rfl
        · exact ih j (by simpa using h)
  have h1 := this cs i hi
  unfold blkOf
  cases e1 : atS (cs.set i m') key with
  | none => rw [e1] at h1; cases e2 : atS cs key with
    | none => rfl
    | some x => rw [e2] at h1; simp at h1
  | some y => rw [e1] at h1; cases e2 : atS cs key with
    | none => rw [e2] at h1; simp at h1
    | some x => rw [e2] at h1; simp at h1; simp [h1]

theorem sort_set {cs : List PC} {i : Nat} {m m' : PC} (hi : cs[i]? = some m) (hk : m'.key = m.key) (hs : SortC (cs.map PC.c)) : SortC ((cs.set i m').map PC.c) := by
  refine sort_keys (st := cs.map PC.c) ?_ hs
  unfold keysC
  rw [List.map_map, List.map_map]
  exact map_set_same (f := Cel.key ∘ PC.c) hi hk

theorem pair_get {cs : List PC} (h : cs.Pairwise (fun a b => ∀ k, a.blk k → ¬ b.blk k)) {i j : Nat} {a b : PC} (hi : cs[i]? = some a) (hj : cs[j]? = some b) (hne : i ≠ j) {k : Nat} (ha : a.blk k) : ¬ b.blk k := by
  obtain ⟨hi', rfl⟩ := List.getElem?_eq_some_iff.1 hi
  obtain ⟨hj', rfl⟩ := List.getElem?_eq_some_iff.1 hj
  rw [List.pairwise_iff_getElem] at h
  rcases Nat.lt_or_ge i j with hlt | hge
  · exact h i j hi' hj' hlt k ha
  · intro hb
    exact h j i hj' hi' (by omega) k hb ha

/-- one cell turned into another one of the same key at the same place -/
theorem IsS.turn {G : Nat → Prop} {base : Nat} {w w' : World} {p mb z : Nat} {cs : List PC} (h : IsS G base w p mb z cs) {i : Nat} {m m' : PC} (hi : cs[i]? = some m) (hk : m'.key = m.key) (hb : m'.b = m.b) (hc : CPost base w m m' w') (hd : m'.dat (MutG G mb cs) w) {z' : Nat} (hz : z ≤ z') (hg : m'.good z') :
    IsS G base w' p mb z' (cs.set i m') ∧ Keeps (Mut mb cs) w w' ∧ ∀ k, Mut mb (cs.set i m') k → Mut mb cs k ∨ w.heap.size ≤ k := by
  have hm := List.mem_of_getElem? hi
  have hil := (List.getElem?_eq_some_iff.1 hi).1
  have hkM : Keeps (Mut mb cs) w w' := Keeps.wider hc.kp (fun k hk => .inr ⟨m, hm, hk⟩)
  have hMn : ∀ k, Mut mb (cs.set i m') k → Mut mb cs k ∨ w.heap.size ≤ k := fun k hk2 => by
    rcases hk2 with hk2 | ⟨x, hx, hk2⟩
    · exact .inl (.inl hk2)
    · rcases mem_set_cases hx with rfl | ⟨j, hj, hx⟩
      · rcases hc.nw k hk2 with h1 | h1
        · exact .inl (.inr ⟨m, hm, h1⟩)
        · exact .inr h1
      · exact .inl (.inr ⟨x, List.mem_of_getElem? hx, hk2⟩)
  have hX : Keeps (MutG G mb cs) w w' := Keeps.wider hkM (fun k hk => .inl hk)
  have hY : ∀ k, MutG G mb (cs.set i m') k → MutG G mb cs k ∨ w.heap.size ≤ k := fun k hk => by
    rcases hk with hk | hk
    · rcases hMn k hk with h1 | h1
      · exact .inl (.inl h1)
      · exact .inr h1
    · exact .inl (.inr hk)
  have hpb := hc.kp.block p h.lt (h.pc m hm)
  have hmb := hc.kp.block mb h.map.lt (h.mm m hm)
  have hblk' : ∀ k, m'.blk k → ∀ j x, j ≠ i → cs[j]? = some x → ¬ x.blk k := fun k hk2 j x hj hx hxk => by
    rcases hc.nw k hk2 with h1 | h1
    · exact pair_get h.ap hi hx (fun e => hj e.symm) h1 hxk
    · have := (h.is x (List.mem_of_getElem? hx)).blt hxk; omega
  refine ⟨⟨(World.cell?_of_block (a := ⟨p, 0, none⟩) hpb).trans h.c, h.lo, Nat.lt_of_lt_of_le h.lt hc.kp.size, h.mlo, ?_, ?_, ?_, ?_, ?_, h.pm, ?_, ?_, sort_set hi hk h.sort, by rw [List.length_set]; have := h.few; omega, h.gp, ?_, Nat.le_trans h.bs hc.kp.size, fun k hk => Nat.lt_of_lt_of_le (h.gl k hk) hc.kp.size⟩, hkM, hMn⟩
  · rw [blk_set hi hk hb]
    exact (h.map.same hmb).more hz
  · intro x hx
    rcases mem_set_cases hx with rfl | ⟨j, hj, hx⟩
    · exact hc.is
    · exact (h.is x (List.mem_of_getElem? hx)).lies hc.kp (fun k hb2 hb3 => pair_get h.ap hi hx (fun e => hj e.symm) hb3 hb2)
  · intro x hx
    rcases mem_set_cases hx with rfl | ⟨j, hj, hx⟩
    · exact ⟨fun v hv => (hd.1 v hv).step hX hY, hd.2.step hX hY⟩
    · have hd2 := h.dat x (List.mem_of_getElem? hx)
      exact ⟨fun v hv => (hd2.1 v hv).step hX hY, hd2.2.step hX hY⟩
  · rw [List.pairwise_iff_getElem]
    intro a b ha hb2 hab k hka hkb
    rw [List.length_set] at ha hb2
    rw [List.getElem_set] at hka hkb
    by_cases ea : i = a
    · rw [if_pos ea] at hka
      rw [if_neg (by omega)] at hkb
      exact hblk' k hka b _ (by omega) (List.getElem?_eq_getElem hb2) hkb
    · rw [if_neg ea] at hka
      by_cases eb : i = b
      · rw [if_pos eb] at hkb
        exact hblk' k hkb a _ (by omega) (List.getElem?_eq_getElem ha) hka
      · rw [if_neg eb] at hkb
        exact (List.pairwise_iff_getElem.1 h.ap) a b ha hb2 hab k hka hkb
  · intro x hx hb2
    rcases mem_set_cases hx with rfl | ⟨j, hj, hx⟩
    · rcases hc.nw mb hb2 with h1 | h1
      · exact h.mm m hm h1
      · have := h.map.lt; omega
    · exact h.mm x (List.mem_of_getElem? hx) hb2
  · intro x hx hb2
    rcases mem_set_cases hx with rfl | ⟨j, hj, hx⟩
    · rcases hc.nw p hb2 with h1 | h1
      · exact h.pc m hm h1
      · have := h.lt; omega
    · exact h.pc x (List.mem_of_getElem? hx) hb2
  · intro x hx
    rcases mem_set_cases hx with rfl | ⟨j, hj, hx⟩
    · exact hg
    · exact (h.go x (List.mem_of_getElem? hx)).more hz
  · intro k hk2 hG
    rcases hMn k hk2 with h1 | h1
    · exact h.gm k h1 hG
    · have := h.gl k hG; omega

theorem IsS.less {G G' : Nat → Prop} {base : Nat} {w : World} {p mb z : Nat} {cs : List PC} (h : IsS G' base w p mb z cs) (hG : ∀ k, G k → G' k) : IsS G base w p mb z cs :=
  ⟨h.c, h.lo, h.lt, h.mlo, h.map, h.is, fun m hm => ⟨fun v hv => ((h.dat m hm).1 v hv).more (fun k hk => .inl (hk.imp id (hG k))), (h.dat m hm).2.more (fun k hk => .inl (hk.imp id (hG k)))⟩, h.ap, h.mm, h.pm, h.pc, h.go, h.sort, h.few, fun e => h.gp (hG p e), fun k hk e => h.gm k hk (hG k e), h.bs, fun k hk => h.gl k (hG k hk)⟩

end Go.Proofs.Ytfldiapdfpkdaaa
