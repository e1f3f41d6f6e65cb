/- Entries ([]api.Entry) in memory: where they lie, and their data; a list of them that the call owns; append, cut, Clone. -/
import Derived.Test.YtodmieehdleohaaNums
import Derived.ArgAppend
namespace Go.Proofs.Ytodmieehdleohaa
open Go.RowKit NumMath Go.ChangeShapes Go.WideShapes Go.Deep
set_option linter.unusedVariables false
set_option maxRecDepth 100000

/-- an entry -/
structure Ent where
  i : Int
  t : Int
  k : Int
  d : List Int

/-- an entry in memory: its data's slice beside it -/
structure MEnt where
  e : Ent
  b : Option Addr
  n : Nat
  c : Nat

def ent0 : Ent := ⟨0, 0, 0, []⟩
def ment0 : MEnt := ⟨ent0, none, 0, 0⟩

def Ent.ok (e : Ent) : Prop := (0 ≤ e.i ∧ e.i ≤ 18446744073709551615) ∧ (0 ≤ e.t ∧ e.t ≤ 18446744073709551615) ∧ (-9223372036854775808 ≤ e.k ∧ e.k ≤ 9223372036854775807)

/-- bytes that lie in none of the blocks X -/
def DatB (X : Nat → Prop) (w : World) (b : Option Addr) (n c : Nat) (d : List Int) : Prop := IsBytes w b n c d ∧ (n = 0 ∨ ∀ y, b = some y → ¬ X y.block)

def MEnt.ok (X : Nat → Prop) (w : World) (m : MEnt) : Prop := m.e.ok ∧ DatB X w m.b m.n m.c m.e.d

theorem isB_liesX {w w' : World} {a : Option Addr} {len cap : Nat} {xs : List Int} {M : Nat → Prop} (h : IsBytes w a len cap xs) (hk : Keeps M w w') (ho : len = 0 ∨ ∀ y, a = some y → ¬ M y.block) : IsBytes w' a len cap xs := by
  obtain ⟨h1, h2, h3, h4, h5⟩ := h
  refine ⟨h1, h2, h3, h4, ?_⟩
  rcases h5 with h5 | ⟨g, off, rfl, hg, hB⟩
  · exact .inl h5
  · rcases ho with ho | ho
    · exact .inl ho
    · exact .inr ⟨g, off, rfl, Nat.lt_of_lt_of_le hg hk.size, fun i hi => (hk.cell hg (ho _ rfl)).trans (hB i hi)⟩

theorem DatB.lies {X M : Nat → Prop} {w w' : World} {b : Option Addr} {n c : Nat} {d : List Int} (h : DatB X w b n c d) (hk : Keeps M w w') (hM : ∀ k, M k → X k) : DatB X w' b n c d :=
  ⟨isB_liesX h.1 hk (h.2.imp id (fun q y hy hm => q y hy (hM _ hm))), h.2⟩

theorem DatB.keep {X : Nat → Prop} {w w' : World} {b : Option Addr} {n c : Nat} {d : List Int} (h : DatB X w b n c d) (hb : Below w.heap.size w w') : DatB X w' b n c d := ⟨h.1.keep hb, h.2⟩

/-- more blocks are kept off, if they are new -/
theorem DatB.more {X Y : Nat → Prop} {w : World} {b : Option Addr} {n c : Nat} {d : List Int} (h : DatB X w b n c d) (hY : ∀ k, Y k → X k ∨ w.heap.size ≤ k) : DatB Y w b n c d := by
  refine ⟨h.1, ?_⟩
  by_cases h0 : n = 0
  · exact .inl h0
  · right
    intro y hy hk
    rcases h.2 with h2 | h2
    · exact h0 h2
    · rcases hY _ hk with hx | hx
      · exact h2 y hy hx
      · rcases h.1.2.2.2.2 with h5 | ⟨g, off, ha, hg, _⟩
        · exact h0 h5
        · rw [hy] at ha
          cases ha
          dsimp only at hx
          omega

theorem DatB.free {X : Nat → Prop} {w : World} {b : Option Addr} {n c : Nat} {d : List Int} (h : IsBytes w b n c d) (hX : ∀ k, k < w.heap.size → ¬ X k) : DatB X w b n c d := by
  refine DatB.more (X := fun _ => False) ⟨h, .inr (fun _ _ x => x)⟩ ?_
  intro k hk
  right
  apply Nat.le_of_not_lt
  intro hlt
  exact hX k hlt hk

theorem MEnt.ok.lies {X M : Nat → Prop} {w w' : World} {m : MEnt} (h : m.ok X w) (hk : Keeps M w w') (hM : ∀ k, M k → X k) : m.ok X w' := ⟨h.1, h.2.lies hk hM⟩
theorem MEnt.ok.keep {X : Nat → Prop} {w w' : World} {m : MEnt} (h : m.ok X w) (hb : Below w.heap.size w w') : m.ok X w' := ⟨h.1, h.2.keep hb⟩
theorem MEnt.ok.more {X Y : Nat → Prop} {w : World} {m : MEnt} (h : m.ok X w) (hY : ∀ k, Y k → X k ∨ w.heap.size ≤ k) : m.ok Y w := ⟨h.1, h.2.more hY⟩

/-- the four cells of an entry -/
def MEnt.cells (m : MEnt) : List Value := [.int .u64 m.e.i, .int .u64 m.e.t, .int .i64 m.e.k, .slice m.b m.n m.c]
def cellsM (ms : List MEnt) : List Value := ms.flatMap MEnt.cells

def CellM (w : World) (g o : Nat) (m : MEnt) : Prop := w.cell? ⟨g, o, none⟩ = some (.int .u64 m.e.i) ∧ w.cell? ⟨g, o + 1, none⟩ = some (.int .u64 m.e.t) ∧ w.cell? ⟨g, o + 2, none⟩ = some (.int .i64 m.e.k) ∧ w.cell? ⟨g, o + 3, none⟩ = some (.slice m.b m.n m.c)
def CellsM (w : World) (g off : Nat) (ms : List MEnt) : Prop := ∀ i, i < ms.length → CellM w g (off + i * 4) (ms.getD i ment0)

theorem CellM.same {w w' : World} {g o : Nat} {m : MEnt} (h : CellM w g o m) (e : w'.heap[g]? = w.heap[g]?) : CellM w' g o m := by
  obtain ⟨h0, h1, h2, h3⟩ := h
  exact ⟨(World.cell?_of_block (a := ⟨g, _, none⟩) e).trans h0, (World.cell?_of_block (a := ⟨g, _, none⟩) e).trans h1, (World.cell?_of_block (a := ⟨g, _, none⟩) e).trans h2, (World.cell?_of_block (a := ⟨g, _, none⟩) e).trans h3⟩

/-- the slice's elements are the entries ms, wherever they lie; their data lies in none of the blocks X -/
def IsMs (X : Nat → Prop) (w : World) (a : Option Addr) (len cap : Nat) (ms : List MEnt) : Prop :=
  ms.length = len ∧ len ≤ cap ∧ cap ≤ maxLen ∧ (∀ m ∈ ms, m.ok X w) ∧ (len = 0 ∨ ∃ g off, a = some ⟨g, off, none⟩ ∧ g < w.heap.size ∧ CellsM w g off ms)

theorem IsMs.lies {X M : Nat → Prop} {w w' : World} {a : Option Addr} {len cap : Nat} {ms : List MEnt} (h : IsMs X w a len cap ms) (hk : Keeps M w w') (hM : ∀ k, M k → X k) (ho : len = 0 ∨ ∀ y, a = some y → ¬ M y.block) : IsMs X w' a len cap ms := by
  obtain ⟨h1, h2, h3, h4, h5⟩ := h
  refine ⟨h1, h2, h3, fun m hm => (h4 m hm).lies hk hM, ?_⟩
  rcases h5 with h5 | ⟨g, off, rfl, hg, hB⟩
  · exact .inl h5
  · rcases ho with ho | ho
    · exact .inl ho
    · exact .inr ⟨g, off, rfl, Nat.lt_of_lt_of_le hg hk.size, fun i hi => (hB i hi).same (hk.block g hg (ho _ rfl))⟩

theorem IsMs.keep {X : Nat → Prop} {w w' : World} {a : Option Addr} {len cap : Nat} {ms : List MEnt} (h : IsMs X w a len cap ms) (hb : Below w.heap.size w w') : IsMs X w' a len cap ms := by
  obtain ⟨h1, h2, h3, h4, h5⟩ := h
  refine ⟨h1, h2, h3, fun m hm => (h4 m hm).keep hb, ?_⟩
  rcases h5 with h5 | ⟨g, off, rfl, hg, hB⟩
  · exact .inl h5
  · exact .inr ⟨g, off, rfl, Nat.lt_of_lt_of_le hg hb.size, fun i hi => (hB i hi).same (hb.block g hg)⟩

theorem IsMs.more {X Y : Nat → Prop} {w : World} {a : Option Addr} {len cap : Nat} {ms : List MEnt} (h : IsMs X w a len cap ms) (hY : ∀ k, Y k → X k ∨ w.heap.size ≤ k) : IsMs Y w a len cap ms :=
  ⟨h.1, h.2.1, h.2.2.1, fun m hm => (h.2.2.2.1 m hm).more hY, h.2.2.2.2⟩

theorem IsMs.at {X : Nat → Prop} {w : World} {a : Option Addr} {len cap : Nat} {ms : List MEnt} (h : IsMs X w a len cap ms) {k : Nat} (hk : k < len) : ∃ g off, a = some ⟨g, off, none⟩ ∧ g < w.heap.size ∧ CellsM w g off ms := by
  obtain ⟨h1, h2, h3, h4, h5⟩ := h
  rcases h5 with h5 | h5
  · omega
  · exact h5

theorem ment_mem (ms : List MEnt) (k : Nat) (h : k < ms.length) : ms.getD k ment0 ∈ ms := by
  have : ms.getD k ment0 = ms[k] := by simp [List.getD, List.getElem?_eq_getElem h]
  rw [this]; exact List.getElem_mem h

theorem isMs_nil (X : Nat → Prop) (w : World) : IsMs X w none 0 0 [] := ⟨rfl, Nat.le_refl _, Nat.zero_le _, by simp, .inl rfl⟩

theorem cellsM_length (ms : List MEnt) : (cellsM ms).length = ms.length * 4 := by
  unfold cellsM
  induction ms with
  | nil => rfl
  | cons v r ih => rw [List.flatMap_cons, List.length_append, ih, List.length_cons]; simp [MEnt.cells]; omega

theorem cellsM_append (xs ys : List MEnt) : cellsM (xs ++ ys) = cellsM xs ++ cellsM ys := List.flatMap_append

theorem cellsM_one (ms : List MEnt) : ∀ u ∈ cellsM ms, u.oneCell' = true := by
  intro u hu
  unfold cellsM at hu
  rw [List.mem_flatMap] at hu
  obtain ⟨v, _, hv⟩ := hu
  simp [MEnt.cells] at hv
  rcases hv with rfl | rfl | rfl | rfl <;> rfl

theorem cellsM_nth : ∀ (ms : List MEnt) (i d : Nat), i < ms.length → d < 4 → (cellsM ms)[i * 4 + d]? = (ms.getD i ment0).cells[d]? := by
  intro ms
  induction ms with
  | nil => intro i d hi; simp at hi
  | cons v r ih =>
    intro i d hi hd
    have e : cellsM (v :: r) = v.cells ++ cellsM r := rfl
    rw [e]
    cases i with
    | zero =>
      rw [List.getElem?_append_left (by simp [MEnt.cells]; omega)]
      simp
    | succ j =>
      rw [List.getElem?_append_right (by simp [MEnt.cells]; omega)]
      have : (j + 1) * 4 + d - v.cells.length = j * 4 + d := by simp [MEnt.cells]; omega
      rw [this, ih j d (by simpa using hi) hd]
      simp

/-- the slice v holds the entries' cells, in a block of the call's own (from base on), or is nil -/
def RowM (w : World) (base : Nat) (v : Value) (ms : List MEnt) : Prop := w.ownsRow base 62 4 v ms.length (cellsM ms)

theorem rowM_nil (w : World) (base : Nat) : RowM w base (.slice none 0 0) [] := World.ownsRow_nil _ _ _ _

theorem rowM_empty (w : World) (base : Nat) (hb : base ≤ w.heap.size) : RowM (w.alloc (.cells #[] 62)) base (.slice (some ⟨w.heap.size, 0, none⟩) 0 0) [] := by
  exact ⟨by simp [cellsM], .inr ⟨w.heap.size, 0, #[], rfl, hb, heap_alloc_new w _, Nat.le_refl _, by unfold maxLen; omega, rfl, rfl⟩⟩

theorem RowM.lies {w w' : World} {base : Nat} {v : Value} {ms : List MEnt} (h : RowM w base v ms) (hb : ∀ g, v.ownBlock = some g → w'.heap[g]? = w.heap[g]?) : RowM w' base v ms := by
  refine ⟨h.1, ?_⟩
  rcases h.2 with h0 | ⟨g, cap, cur, hv, hg, hh, hr⟩
  · exact .inl h0
  · refine .inr ⟨g, cap, cur, hv, hg, ?_, hr⟩
    rw [hb g (by rw [hv]; rfl)]
    exact hh

theorem RowM.lt {w : World} {base : Nat} {v : Value} {ms : List MEnt} (h : RowM w base v ms) : ∀ g, v.ownBlock = some g → base ≤ g ∧ g < w.heap.size := World.ownsRow.lt h

theorem RowM.keep {w w' : World} {base : Nat} {v : Value} {ms : List MEnt} (h : RowM w base v ms) (hb : Below w.heap.size w w') : RowM w' base v ms := h.lies (fun g hg => hb.block g (h.lt g hg).2)

theorem RowM.mono {w : World} {base base' : Nat} {v : Value} {ms : List MEnt} (h : RowM w base v ms) (hb : base' ≤ base) : RowM w base' v ms := by
  refine ⟨h.1, ?_⟩
  rcases h.2 with h0 | ⟨g, cap, cur, hv, hg, hr⟩
  · exact .inl h0
  · exact .inr ⟨g, cap, cur, hv, Nat.le_trans hb hg, hr⟩

theorem RowM.form {w : World} {base : Nat} {v : Value} {ms : List MEnt} (h : RowM w base v ms) : (v = .slice none 0 0 ∧ ms = []) ∨ ∃ g cap, v = .slice (some ⟨g, 0, none⟩) ms.length cap ∧ base ≤ g ∧ g < w.heap.size ∧ ms.length ≤ cap ∧ cap ≤ maxLen ∧ CellsM w g 0 ms ∧ ∀ i, w.frozen? ⟨g, i, none⟩ = false := by
  have hlt := World.ownsRow.lt h
  rcases h.2 with ⟨rfl, h0⟩ | ⟨g, cap, cur, rfl, hg, hh, hn, hm, _, _⟩
  · exact .inl ⟨rfl, List.length_eq_zero_iff.1 h0⟩
  · refine .inr ⟨g, cap, rfl, hg, (hlt g rfl).2, hn, hm, fun i hi => ?_, fun i => World.ownsRow.frozenAt h i⟩
    have e : ∀ j, (⟨g, 0, none⟩ : Addr).add j = ⟨g, 0 + j, none⟩ := by
      intro j
      unfold Addr.add; split <;> simp_all
    have c : ∀ d u, d < 4 → (ms.getD i ment0).cells[d]? = some u → w.cell? ⟨g, 0 + (i * 4 + d), none⟩ = some u := by
      intro d u hd hu
      have d0 := World.ownsRow.cells h (g := g) rfl (i * 4 + d) u (by rw [cellsM_nth ms i d hi hd]; exact hu)
      rw [e] at d0
      exact d0
    have c0 := c 0 _ (by omega) rfl
    have c1 := c 1 _ (by omega) rfl
    have c2 := c 2 _ (by omega) rfl
    have c3 := c 3 _ (by omega) rfl
    exact ⟨c0, c1, c2, c3⟩

theorem RowM.any3 {w : World} {base : Nat} {v : Value} {ms : List MEnt} (h : RowM w base v ms) : ∃ a n c, v = .slice a n c := by
  rcases h.form with ⟨rfl, rfl⟩ | ⟨g, cap, rfl, _⟩
  · exact ⟨_, _, _, rfl⟩
  · exact ⟨_, _, _, rfl⟩

theorem RowM.len {w : World} {base : Nat} {a : Option Addr} {n c : Nat} {ms : List MEnt} (h : RowM w base (.slice a n c) ms) : ms.length = n ∧ n ≤ c ∧ c ≤ maxLen := by
  rcases h.form with ⟨e, rfl⟩ | ⟨g, cap, e, hg1, hg2, hc, hm, hB⟩
  · cases e; exact ⟨rfl, Nat.le_refl _, Nat.zero_le _⟩
  · cases e; exact ⟨rfl, hc, hm⟩

theorem RowM.is {X : Nat → Prop} {w : World} {base : Nat} {a : Option Addr} {n c : Nat} {ms : List MEnt} (h : RowM w base (.slice a n c) ms) (ho : ∀ m ∈ ms, m.ok X w) : IsMs X w a n c ms := by
  rcases h.form with ⟨e, rfl⟩ | ⟨g, cap, e, hg1, hg2, hc, hm, hB, _⟩
  · cases e; exact isMs_nil X w
  · cases e; exact ⟨rfl, hc, hm, ho, .inr ⟨g, 0, rfl, hg2, hB⟩⟩

theorem RowM.grown {w w' : World} {base : Nat} {v : Value} {ms : List MEnt} (h : RowM w base v ms) (hg : w.grownBy w' v.ownBlock) (hb : base ≤ w.heap.size) : Below base w w' :=
  (Below.refl _ _).grown hg hb (fun k hk => (World.ownsRow.lt h k hk).1)

theorem infoEnt : (Try.prog.info? 62).map (fun i => (i.zero, i.size, i.bytes)) = some (some (.agg #[.int .u64 0, .int .u64 0, .int .i64 0, .slice none 0 0]), 4, 48) := by kernel_rfl

theorem cellsM_add {w : World} {g off : Nat} {ys : List MEnt} (hB : CellsM w g off ys) : ∀ j u, (cellsM ys)[j]? = some u → w.cell? ((⟨g, off, none⟩ : Addr).add j) = some u := by
  intro j u hu
  have h2 : (⟨g, off, none⟩ : Addr).add j = ⟨g, off + j, none⟩ := by unfold Addr.add; split <;> simp_all
  rw [h2]
  have hj : j < ys.length * 4 := by
    rw [← cellsM_length]
    exact (List.getElem?_eq_some_iff.1 hu).1
  have hi : j / 4 < ys.length := by omega
  have hd : j % 4 < 4 := by omega
  have ej : j = j / 4 * 4 + j % 4 := by omega
  obtain ⟨d0, d1, d2, d3⟩ := hB (j / 4) hi
  rw [ej, cellsM_nth ys (j / 4) (j % 4) hi hd] at hu
  have hm : j % 4 = 0 ∨ j % 4 = 1 ∨ j % 4 = 2 ∨ j % 4 = 3 := by omega
  rcases hm with hm | hm | hm | hm
  · have e : off + j = off + j / 4 * 4 := by omega
    rw [hm] at hu; rw [e, d0]; exact hu
  · have e : off + j = off + j / 4 * 4 + 1 := by omega
    rw [hm] at hu; rw [e, d1]; exact hu
  · have e : off + j = off + j / 4 * 4 + 2 := by omega
    rw [hm] at hu; rw [e, d2]; exact hu
  · have e : off + j = off + j / 4 * 4 + 3 := by omega
    rw [hm] at hu; rw [e, d3]; exact hu

/-- a slice's elements are the entries' cells, wherever they lie -/
def SrcM (w : World) (a : Option Addr) (len : Nat) (ms : List MEnt) : Prop := ms.length = len ∧ (len = 0 ∨ ∃ g off, a = some ⟨g, off, none⟩ ∧ g < w.heap.size ∧ CellsM w g off ms)

theorem IsMs.src {X : Nat → Prop} {w : World} {a : Option Addr} {len cap : Nat} {ms : List MEnt} (h : IsMs X w a len cap ms) : SrcM w a len ms := ⟨h.1, h.2.2.2.2⟩

theorem SrcM.keep {w w' : World} {a : Option Addr} {len : Nat} {ms : List MEnt} (h : SrcM w a len ms) (hb : Below w.heap.size w w') : SrcM w' a len ms := by
  refine ⟨h.1, ?_⟩
  rcases h.2 with h0 | ⟨g, off, ha, hg, hc⟩
  · exact .inl h0
  · exact .inr ⟨g, off, ha, Nat.lt_of_lt_of_le hg hb.size, fun i hi => (hc i hi).same (hb.block g hg)⟩

/-- append of entries, wherever they lie, as it runs -/
theorem run_joinM (w : World) (ty : TypeId) (base : Nat) (v : Value) (ms : List MEnt) (hown : RowM w base v ms) (sa : Option Addr) (m c : Nat) (ys : List MEnt) (hB : SrcM w sa m ys) (hbig : ms.length + ys.length ≤ 1000000000) (hbase : base ≤ w.heap.size) :
    ∃ v' w', (Builtin.append_ #[33, 33] ty #[v, .slice sa m c]).run Try.prog w = .ok v' w' ∧ RowM w' base v' (ms ++ ys) ∧ w.grownBy w' v.ownBlock ∧ AtB w v v' := by
  obtain ⟨i0, hi, hz0, hz1, hz2⟩ := info_parts infoEnt
  by_cases h0 : m = 0
  · subst h0
    have hy : ys = [] := List.length_eq_zero_iff.1 hB.1
    subst hy
    exact ⟨v, w, run_append_empty w base 33 ty 62 i0 4 Try.underlying33 hi v ms.length _ hown sa c, by rw [List.append_nil]; exact hown, ⟨rfl, rfl, rfl, Nat.le_refl _, fun _ _ _ => rfl⟩, .inl rfl⟩
  · rcases hB.2 with h1 | ⟨g, off, rfl, hg, hb⟩
    · exact absurd h1 h0
    · have hl := hB.1
      obtain ⟨v', w', hr, h2, h3, _, h5⟩ := run_append_own_at (P := Try.prog) w base 33 ty 62 i0 _ 4 48 Try.underlying33 hi hz0 hz1 hz2 rfl (by decide) v ms.length _ hown ⟨g, off, none⟩ m c (cellsM ys) (by rw [cellsM_length, hl]) (cellsM_add hb) (cellsM_one ys) (by unfold maxLen; omega) (by omega) hbase
      refine ⟨v', w', hr, ?_, h3, ?_⟩
      · unfold RowM
        rw [List.length_append, cellsM_append, hl]
        exact h2
      · rcases h5 with h5 | h5
        · exact .inl h5
        · exact .inr ⟨_, h5, Nat.le_refl _⟩

/-- append onto a list that has no room behind it: a new block -/
theorem run_growM (w : World) (ty : TypeId) (g off n : Nat) (ms : List MEnt) (hl0 : ms.length = n) (hC : CellsM w g off ms) (sa : Option Addr) (m c : Nat) (ys : List MEnt) (hB : SrcM w sa m ys) (hm : 0 < m) (hbig : ms.length + ys.length ≤ 1000000000) :
    ∃ v' w', (Builtin.append_ #[33, 33] ty #[.slice (some ⟨g, off, none⟩) n n, .slice sa m c]).run Try.prog w = .ok v' w' ∧ RowM w' w.heap.size v' (ms ++ ys) ∧ w.grownBy w' none := by
  obtain ⟨i0, hi, hz0, hz1, hz2⟩ := info_parts infoEnt
  rcases hB.2 with h1 | ⟨g', off', rfl, hg, hb⟩
  · omega
  · have hl := hB.1
    obtain ⟨v', w', hr, h2, h3⟩ := run_append_arg_grows (P := Try.prog) w 33 ty 62 i0 _ 4 48 Try.underlying33 hi hz0 hz1 hz2 rfl (by decide) ⟨g, off, none⟩ n n (cellsM ms) (by rw [cellsM_length, hl0]) (cellsM_add hC) ⟨g', off', none⟩ m c (cellsM ys) (by rw [cellsM_length, hl]) (cellsM_add hb) (by omega) (by unfold maxLen; omega) (by omega)
    refine ⟨v', w', hr, ?_, h3⟩
    unfold RowM
    rw [List.length_append, cellsM_append, hl, hl0]
    exact h2

theorem step_joinM {ops : Array Oper} {o : Oper} {a : Act} {K : Act → World → Prop} {Q : Exit → Act → World → Prop} {E : Prop} (w : World) (hgd : Region.wanted o (yielded ops a.tmps) = true) (s x : Operand)
    (ho : o.op = .call { callee := .builtin .append, args := #[s, x], argTypes := #[33, 33] }) (base : Nat) (v : Value) (ms : List MEnt) (hs : a.eval s = v) (hown : RowM w base v ms)
    (sa : Option Addr) (m c : Nat) (ys : List MEnt) (hx : a.eval x = .slice sa m c) (hB : SrcM w sa m ys) (hbig : ms.length + ys.length ≤ 1000000000) (hbase : base ≤ w.heap.size)
    (h : ∀ v' w', RowM w' base v' (ms ++ ys) → w.grownBy w' v.ownBlock → AtB w v v' → K (a.put o.dst v') w') :
    if Region.wanted o (yielded ops a.tmps) = true then Oper.wp Try.prog o a w K Q else E := by
  rw [if_pos hgd]
  obtain ⟨v', w', hr, h1, h2, h3⟩ := run_joinM w o.type base v ms hown sa m c ys hB hbig hbase
  unfold Oper.wp execOp
  simp only [ho, resolve, invoke, builtin, Sem.run_bind, Sem.run_pure, Result.andThen_ok, List.map_toArray, List.map_cons, List.map_nil, hs, hx, hr]
  exact h v' w' h1 h2 h3

theorem step_growM {ops : Array Oper} {o : Oper} {a : Act} {K : Act → World → Prop} {Q : Exit → Act → World → Prop} {E : Prop} (w : World) (hgd : Region.wanted o (yielded ops a.tmps) = true) (s x : Operand)
    (ho : o.op = .call { callee := .builtin .append, args := #[s, x], argTypes := #[33, 33] }) (g off n : Nat) (ms : List MEnt) (hs : a.eval s = .slice (some ⟨g, off, none⟩) n n) (hl0 : ms.length = n) (hC : CellsM w g off ms)
    (sa : Option Addr) (m c : Nat) (ys : List MEnt) (hx : a.eval x = .slice sa m c) (hB : SrcM w sa m ys) (hm : 0 < m) (hbig : ms.length + ys.length ≤ 1000000000)
    (h : ∀ v' w', RowM w' w.heap.size v' (ms ++ ys) → w.grownBy w' none → K (a.put o.dst v') w') :
    if Region.wanted o (yielded ops a.tmps) = true then Oper.wp Try.prog o a w K Q else E := by
  rw [if_pos hgd]
  obtain ⟨v', w', hr, h1, h2⟩ := run_growM w o.type g off n ms hl0 hC sa m c ys hB hm hbig
  unfold Oper.wp execOp
  simp only [ho, resolve, invoke, builtin, Sem.run_bind, Sem.run_pure, Result.andThen_ok, List.map_toArray, List.map_cons, List.map_nil, hs, hx, hr]
  exact h v' w' h1 h2

/-- append of entries, wherever they lie -/
theorem wp_joinM {ops : Array Oper} {rest : List Oper} {o : Oper} {a : Act} {Q : Exit → Act → World → Prop} (w : World) (hgd : o.guard = none) (s x : Operand)
    (ho : o.op = .call { callee := .builtin .append, args := #[s, x], argTypes := #[33, 33] }) (base : Nat) (v : Value) (ms : List MEnt) (hs : a.eval s = v) (hown : RowM w base v ms)
    (sa : Option Addr) (m c : Nat) (ys : List MEnt) (hx : a.eval x = .slice sa m c) (hB : SrcM w sa m ys) (hbig : ms.length + ys.length ≤ 1000000000) (hbase : base ≤ w.heap.size)
    (h : ∀ v' w', RowM w' base v' (ms ++ ys) → w.grownBy w' v.ownBlock → AtB w v v' → wpList Try.prog ops Q rest (a.put o.dst v') w') : wpList Try.prog ops Q (o :: rest) a w :=
  wpList_step fun K hK => step_joinM w (by simp [Region.wanted, hgd]) s x ho base v ms hs hown sa m c ys hx hB hbig hbase (fun v' w' h1 h2 h3 => hK _ _ (h v' w' h1 h2 h3))

/-- the size of an entry -/
theorem size_ent (W : World) : (sizeOf (Try.prog.elem 33)).run Try.prog W = .ok 4 W := by
  obtain ⟨i0, hi, _, hz1, _⟩ := info_parts infoEnt
  have he : Try.prog.elem 33 = 62 := by kernel_rfl
  rw [he]
  simp [sizeOf, typeInfo, hi, hz1]

theorem cellsM_part {w : World} {g off : Nat} {ms : List MEnt} (h : CellsM w g off ms) (l k : Nat) : CellsM w g (off + l * 4) ((ms.drop l).take k) := by
  intro i hi
  rw [List.length_take, List.length_drop] at hi
  have := h (l + i) (by omega)
  have e : ((ms.drop l).take k).getD i ment0 = ms.getD (l + i) ment0 := by simp [List.getD, show i < k by omega]
  rw [e]
  have e2 : off + l * 4 + i * 4 = off + (l + i) * 4 := by omega
  rw [e2]
  exact this

/-- a list that begins later in the same array -/
theorem isM_later {X : Nat → Prop} {w : World} {a : Option Addr} {len cap : Nat} {ms : List MEnt} (h : IsMs X w a len cap ms) (l k c m : Nat) (h1 : l + k ≤ len) (h2 : k ≤ c) (h3 : l + c ≤ cap) (hm : m = l + c) : IsMs X w (if m = l then a else a.map (·.add (l * 4))) k c ((ms.drop l).take k) := by
  subst hm
  have hcap := h.2.2.1
  refine ⟨by rw [List.length_take, List.length_drop, h.1]; omega, h2, by omega, fun x hx => h.2.2.2.1 x (List.mem_of_mem_drop (List.mem_of_mem_take hx)), ?_⟩
  by_cases k0 : k = 0
  · exact .inl k0
  · right
    obtain ⟨g, off, rfl, hg, hB⟩ := h.at (k := 0) (by omega)
    refine ⟨g, off + l * 4, ?_, hg, cellsM_part hB l k⟩
    rw [if_neg (by omega)]
    simp [Addr.add]

/-- x[l:l+k:l+c] -/
theorem run_cutM3 (a : Option Addr) (len cap : Nat) (hlc : len ≤ cap) (l k c : Nat) (h2 : k ≤ c) (h3 : l + c ≤ cap) (il ih im : Int) (el : il = (l : Int)) (eh : ih = ((l + k : Nat) : Int)) (em : im = ((l + c : Nat) : Int)) (W : World) :
    (Instr.sliceAt 33 (.slice a len cap) (some (.int .i64 il)) (some (.int .i64 ih)) (some (.int .i64 im))).run Try.prog W = .ok (.slice (if l + c = l then a else a.map (·.add (l * 4))) k c) W := by
  subst el eh em
  rw [run_sliceAt_slice W 33 _ _ _ _ Try.underlying33, run_slice_lhm W 33 a len cap Try.underlying33 _ _ _ _ _ _ (by omega) (by omega) (by omega) (by omega), size_ent]
  simp only [Result.andThen_ok, sliced, Int.toNat_natCast]
  congr 2 <;> omega

/-- x[:k] -/
theorem isM_cutTo {X : Nat → Prop} {w : World} {a : Option Addr} {len cap : Nat} {ms : List MEnt} (h : IsMs X w a len cap ms) (k : Nat) (h1 : k ≤ len) (kh : IntKind) (ih : Int) (eh : ih = (k : Int)) :
    ∃ b, (∀ W, (Instr.sliceAt 33 (.slice a len cap) none (some (.int kh ih)) none).run Try.prog W = .ok (.slice b k cap) W) ∧ IsMs X w b k cap (ms.take k) := by
  subst eh
  have hlc := h.2.1
  refine ⟨_, fun W => ?_, isM_later h 0 k cap cap (by omega) (by omega) (by omega) (by omega)⟩
  rw [run_sliceAt_slice W 33 _ _ _ _ Try.underlying33, run_slice_h W 33 a len cap Try.underlying33 _ _ (by omega) (by omega), size_ent]
  simp only [Result.andThen_ok, sliced, Int.toNat_natCast]
  congr 2

/-- x[l:] -/
theorem isM_cutFrom {X : Nat → Prop} {w : World} {a : Option Addr} {len cap : Nat} {ms : List MEnt} (h : IsMs X w a len cap ms) (l k c : Nat) (h1 : l + k = len) (h3 : l + c = cap) (kl : IntKind) (il : Int) (el : il = (l : Int)) :
    ∃ b, (∀ W, (Instr.sliceAt 33 (.slice a len cap) (some (.int kl il)) none none).run Try.prog W = .ok (.slice b k c) W) ∧ IsMs X w b k c (ms.drop l) := by
  subst el
  have hlc := h.2.1
  have hd : (ms.drop l).take k = ms.drop l := List.take_of_length_le (by rw [List.length_drop, h.1]; omega)
  refine ⟨_, fun W => ?_, by have := isM_later h l k c cap (by omega) (by omega) (by omega) h3.symm; rw [hd] at this; exact this⟩
  rw [run_sliceAt_slice W 33 _ _ _ _ Try.underlying33, run_slice_l W 33 a len cap Try.underlying33 _ _ (by omega) (by omega), size_ent]
  simp only [Result.andThen_ok, sliced, Int.toNat_natCast]
  congr 2 <;> omega

theorem cloneM_any (a : Option Addr) (len cap : Nat) (ms : List MEnt) (w : World) (hs : SrcM w a len ms) (hbig : len ≤ 100000000) :
    Calls Try.prog 29 #[.slice a len cap] w fun e w' => ∃ v, e = .returned v ∧ RowM w' w.heap.size v ms ∧ Below w.heap.size w w' := by
  have HS := hide hs
  cases a with
  | none =>
    have h0 : len = 0 := by
      rcases hs.2 with h | ⟨g, off, h, _⟩
      · exact h
      · cases h
    have hx : ms = [] := List.length_eq_zero_iff.1 (hs.1.trans h0)
    subst h0 hx
    clear hs
    have hnil : ∀ w, (binOp .eql 33 (.slice none 0 cap) (.slice none 0 0)).run Try.prog w = .ok (.bool true) w := fun w => Lib.run_eql_slice_nil w 33 62 none 0 cap 0 0 Try.underlying33
    go_enter Try.func29, Try.ntmps29
    go_wp2
    go_ret
    exact ⟨_, rfl, rowM_nil _ _, Below.refl _ _⟩
  | some x =>
    clear hs
    have hnil : ∀ w, (binOp .eql 33 (.slice (some x) len cap) (.slice none 0 0)).run Try.prog w = .ok (.bool false) w := fun w => Lib.run_eql_slice_nil w 33 62 (some x) len cap 0 0 Try.underlying33
    go_enter Try.func29, Try.ntmps29
    go_wp2_with (first
      | (at_builtin; go_must (refine wp_joinM _ rfl (.tmp 5) (.tmp 6) rfl w.heap.size _ [] rfl (rowM_empty w _ (Nat.le_refl _)) (some x) len cap ms rfl (HS.out.keep (new_below _ _)) (by rw [HS.out.1]; simp; omega) (by simp) ?_); intro v1 w1 hown1 hg1 hat1))
    go_ret
    refine ⟨v1, rfl, hown1, ?_⟩
    exact (new_below _ _).trans ((rowM_empty w _ (Nat.le_refl _)).grown hg1 (by simp))

end Go.Proofs.Ytodmieehdleohaa
