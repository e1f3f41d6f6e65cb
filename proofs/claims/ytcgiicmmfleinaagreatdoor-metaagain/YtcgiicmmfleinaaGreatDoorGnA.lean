/- Lists of things of any one kind in memory: where they lie, a list that the call owns, append, loads and stores of one. Lists of things of any one kind: one cell of one of them set. -/
import Derived.Test.YtcgiicmmfleinaaGreatDoorBtA
import Derived.ArgAppend
import Derived.Deep.MidRow
import Derived.Deep.WholeRow
import Derived.Deep.RegionHeld
import Derived.Deep.RegionHeld3
import Derived.Laws.OwnMore
namespace Go.Proofs.YtcgiicmmfleinaaGreatDoor
open Go.RowKit NumMath Go.ChangeShapes Go.WideShapes Go.Deep
set_option linter.unusedVariables false
set_option maxRecDepth 100000

/-- how things of one kind lie in memory: their type e, the type t of a list of them, their k cells -/
structure Lay (α : Type) where
  e : TypeId
  t : TypeId
  k : Nat
  bys : Nat
  z : Value
  cells : α → List Value
  len : ∀ x, (cells x).length = k
  one : ∀ x, ∀ u ∈ cells x, u.oneCell' = true
  pos : 0 < k
  few : bys ≤ 1000
  und : Tryz.prog.underlying t = some (.slice e)
  info : (Tryz.prog.info? e).map (fun i => (i.zero, i.size, i.bytes)) = some (some z, k, bys)
  zs : z.cells.size = k

/-- block g holds, from off on, the things xs -/
def CellsY {α : Type} (L : Lay α) (w : World) (g off : Nat) (xs : List α) : Prop := ∀ i x, xs[i]? = some x → w.rangeAt g (off + i * L.k) (L.cells x)

def flatY {α : Type} (L : Lay α) (xs : List α) : List Value := xs.flatMap L.cells

/-- the slice's elements are the things xs, wherever they lie -/
def IsY {α : Type} (L : Lay α) (w : World) (a : Option Addr) (n c : Nat) (xs : List α) : Prop :=
  xs.length = n ∧ n ≤ c ∧ c ≤ maxLen ∧ (n = 0 ∨ ∃ g off, a = some ⟨g, off, none⟩ ∧ g < w.heap.size ∧ CellsY L w g off xs)

/-- the slice v holds the things xs, in a block of the call's own (from base on), or is nil -/
def OwnY {α : Type} (L : Lay α) (w : World) (base : Nat) (v : Value) (xs : List α) : Prop := w.ownsRow base L.e L.k v xs.length (flatY L xs)

/-- .. wherever they lie, with no bound on what is behind them -/
def SrcY {α : Type} (L : Lay α) (w : World) (a : Option Addr) (n : Nat) (xs : List α) : Prop := xs.length = n ∧ (n = 0 ∨ ∃ g off, a = some ⟨g, off, none⟩ ∧ g < w.heap.size ∧ CellsY L w g off xs)

variable {α : Type} {L : Lay α}

theorem rangeY_same {w w' : World} {g o : Nat} {l : List Value} (h : w.rangeAt g o l) (e : w'.heap[g]? = w.heap[g]?) : w'.rangeAt g o l :=
  fun j v hj => (World.cell?_of_block (a := ⟨g, o + j, none⟩) e).trans (h j v hj)

theorem CellsY.same {w w' : World} {g off : Nat} {xs : List α} (h : CellsY L w g off xs) (e : w'.heap[g]? = w.heap[g]?) : CellsY L w' g off xs :=
  fun i x hx => rangeY_same (h i x hx) e

theorem IsY.lies {w w' : World} {a : Option Addr} {n c : Nat} {xs : List α} {M : Nat → Prop} (h : IsY L w a n c xs) (hk : Keeps M w w') (ho : n = 0 ∨ ∀ y, a = some y → ¬ M y.block) : IsY L w' a n c xs := by
  obtain ⟨h1, h2, h3, h5⟩ := h
  refine ⟨h1, h2, h3, ?_⟩
  rcases h5 with h5 | ⟨g, off, rfl, hg, hB⟩
  · exact .inl h5
  · rcases ho with ho | ho
    · exact .inl ho
    · exact .inr ⟨g, off, rfl, Nat.lt_of_lt_of_le hg hk.size, hB.same (hk.block g hg (ho _ rfl))⟩

theorem IsY.keep {w w' : World} {a : Option Addr} {n c : Nat} {xs : List α} (h : IsY L w a n c xs) (hb : Below w.heap.size w w') : IsY L w' a n c xs := by
  obtain ⟨h1, h2, h3, h5⟩ := h
  refine ⟨h1, h2, h3, ?_⟩
  rcases h5 with h5 | ⟨g, off, rfl, hg, hB⟩
  · exact .inl h5
  · exact .inr ⟨g, off, rfl, Nat.lt_of_lt_of_le hg hb.size, hB.same (hb.block g hg)⟩

theorem IsY.at {w : World} {a : Option Addr} {n c : Nat} {xs : List α} (h : IsY L w a n c xs) {j : Nat} (hj : j < n) : ∃ g off, a = some ⟨g, off, none⟩ ∧ g < w.heap.size ∧ CellsY L w g off xs := by
  rcases h.2.2.2 with h5 | h5
  · omega
  · exact h5

theorem isY_nil (w : World) : IsY L w none 0 0 [] := ⟨rfl, Nat.le_refl _, Nat.zero_le _, .inl rfl⟩

/-- the first m of them -/
theorem IsY.take {w : World} {a : Option Addr} {n c : Nat} {xs : List α} (h : IsY L w a n c xs) (m c' : Nat) (hm : m ≤ n) (h1 : m ≤ c') (h2 : c' ≤ maxLen) : IsY L w a m c' (xs.take m) := by
  refine ⟨by rw [List.length_take, h.1]; omega, h1, h2, ?_⟩
  by_cases h0 : m = 0
  · exact .inl h0
  · obtain ⟨g, off, e, hg, hc⟩ := h.at (j := 0) (by omega)
    refine .inr ⟨g, off, e, hg, fun i x hx => hc i x ?_⟩
    rw [List.getElem?_take] at hx
    split at hx
    · exact hx
    · cases hx

theorem flatY_length (xs : List α) : (flatY L xs).length = xs.length * L.k := by
  unfold flatY
  induction xs with
  | nil => simp
  | cons v r ih => rw [List.flatMap_cons, List.length_append, ih, List.length_cons, L.len, Nat.add_mul, Nat.one_mul, Nat.add_comm]

theorem flatY_append (xs ys : List α) : flatY L (xs ++ ys) = flatY L xs ++ flatY L ys := List.flatMap_append

theorem flatY_one (xs : List α) : ∀ u ∈ flatY L xs, u.oneCell' = true := by
  intro u hu
  unfold flatY at hu
  rw [List.mem_flatMap] at hu
  obtain ⟨v, _, hv⟩ := hu
  exact L.one v u hv

theorem flatY_nth : ∀ (xs : List α) (i d : Nat) (x : α), xs[i]? = some x → d < L.k → (flatY L xs)[i * L.k + d]? = (L.cells x)[d]? := by
  intro xs
  induction xs with
  | nil => intro i d x hi; simp at hi
  | cons v r ih =>
    intro i d x hi hd
    have e : flatY L (v :: r) = L.cells v ++ flatY L r := rfl
    rw [e]
    cases i with
    | zero =>
      rw [List.getElem?_append_left (by rw [L.len]; omega)]
      simp at hi
      rw [hi, Nat.zero_mul, Nat.zero_add]
    | succ j =>
      have hl := L.len v
      have e2 : (j + 1) * L.k + d = L.k + (j * L.k + d) := by rw [Nat.add_mul]; omega
      rw [List.getElem?_append_right (by rw [hl, e2]; omega), hl, e2, Nat.add_sub_cancel_left]
      exact ih j d x (by simpa using hi) hd

theorem ownY_nil (w : World) (base : Nat) : OwnY L w base (.slice none 0 0) [] := World.ownsRow_nil _ _ _ _

theorem ownY_one (w : World) (base : Nat) (cs : Array Value) (x : α) (hb : base ≤ w.heap.size) (hc : cs.toList = L.cells x) : OwnY L (w.alloc (.cells cs L.e)) base (.slice (some ⟨w.heap.size, 0, none⟩) 1 1) [x] := by
  have hl := L.len x
  have hs : cs.size = L.k := by rw [← Array.length_toList, hc, hl]
  exact ⟨by simp [flatY, hl], .inr ⟨w.heap.size, 1, cs, rfl, hb, heap_alloc_new w _, Nat.le_refl _, by unfold maxLen; omega, by simp [hs], by rw [hc, List.length_singleton, Nat.one_mul, List.take_of_length_le (by omega)]; simp [flatY]⟩⟩

theorem ownY_empty (w : World) (base : Nat) (hb : base ≤ w.heap.size) : OwnY L (w.alloc (.cells #[] L.e)) base (.slice (some ⟨w.heap.size, 0, none⟩) 0 0) [] := by
  exact ⟨by simp [flatY], .inr ⟨w.heap.size, 0, #[], rfl, hb, heap_alloc_new w _, Nat.le_refl _, by unfold maxLen; omega, by simp, by simp [flatY]⟩⟩

theorem OwnY.lies {w w' : World} {base : Nat} {v : Value} {xs : List α} (h : OwnY L w base v xs) (hb : ∀ g, v.ownBlock = some g → w'.heap[g]? = w.heap[g]?) : OwnY L w' base v xs := by
  refine ⟨h.1, ?_⟩
  rcases h.2 with h0 | ⟨g, cap, cur, hv, hg, hh, hr⟩
  · exact .inl h0
  · refine .inr ⟨g, cap, cur, hv, hg, ?_, hr⟩
    rw [hb g (by rw [hv]; rfl)]
    exact hh

theorem OwnY.lt {w : World} {base : Nat} {v : Value} {xs : List α} (h : OwnY L w base v xs) : ∀ g, v.ownBlock = some g → base ≤ g ∧ g < w.heap.size := World.ownsRow.lt h

theorem OwnY.keep {w w' : World} {base : Nat} {v : Value} {xs : List α} (h : OwnY L w base v xs) (hb : Below w.heap.size w w') : OwnY L w' base v xs := h.lies (fun g hg => hb.block g (h.lt g hg).2)

theorem OwnY.mono {w : World} {base base' : Nat} {v : Value} {xs : List α} (h : OwnY L w base v xs) (hb : base' ≤ base) : OwnY L w base' v xs := by
  refine ⟨h.1, ?_⟩
  rcases h.2 with h0 | ⟨g, cap, cur, hv, hg, hr⟩
  · exact .inl h0
  · exact .inr ⟨g, cap, cur, hv, Nat.le_trans hb hg, hr⟩

theorem addY (g o j : Nat) : (⟨g, o, none⟩ : Addr).add j = ⟨g, o + j, none⟩ := by unfold Addr.add; split <;> simp_all

theorem OwnY.form {w : World} {base : Nat} {v : Value} {xs : List α} (h : OwnY L w base v xs) : (v = .slice none 0 0 ∧ xs = []) ∨ ∃ g cap, v = .slice (some ⟨g, 0, none⟩) xs.length cap ∧ base ≤ g ∧ g < w.heap.size ∧ xs.length ≤ cap ∧ cap ≤ maxLen ∧ CellsY L w g 0 xs ∧ ∀ i, w.frozen? ⟨g, i, none⟩ = false := by
  have hlt := World.ownsRow.lt h
  rcases h.2 with ⟨rfl, h0⟩ | ⟨g, cap, cur, rfl, hg, hh, hn, hm, _, _⟩
  · exact .inl ⟨rfl, List.length_eq_zero_iff.1 h0⟩
  · refine .inr ⟨g, cap, rfl, hg, (hlt g rfl).2, hn, hm, fun i x hx d u hu => ?_, fun i => World.ownsRow.frozenAt h i⟩
    have hd : d < L.k := by rw [← L.len x]; exact (List.getElem?_eq_some_iff.1 hu).1
    have d0 := World.ownsRow.cells h (g := g) rfl (i * L.k + d) u (by rw [flatY_nth xs i d x hx hd]; exact hu)
    rw [addY] at d0
    rw [Nat.add_assoc]
    exact d0

theorem OwnY.any3 {w : World} {base : Nat} {v : Value} {xs : List α} (h : OwnY L w base v xs) : ∃ a n c, v = .slice a n c := by
  rcases h.form with ⟨rfl, rfl⟩ | ⟨g, cap, rfl, _⟩
  · exact ⟨_, _, _, rfl⟩
  · exact ⟨_, _, _, rfl⟩

theorem OwnY.len {w : World} {base : Nat} {a : Option Addr} {n c : Nat} {xs : List α} (h : OwnY L w base (.slice a n c) xs) : xs.length = n ∧ n ≤ c ∧ c ≤ maxLen := by
  rcases h.form with ⟨e, rfl⟩ | ⟨g, cap, e, hg1, hg2, hc, hm, hB⟩
  · cases e; exact ⟨rfl, Nat.le_refl _, Nat.zero_le _⟩
  · cases e; exact ⟨rfl, hc, hm⟩

theorem OwnY.is {w : World} {base : Nat} {a : Option Addr} {n c : Nat} {xs : List α} (h : OwnY L w base (.slice a n c) xs) : IsY L w a n c xs := by
  rcases h.form with ⟨e, rfl⟩ | ⟨g, cap, e, hg1, hg2, hc, hm, hB, _⟩
  · cases e; exact isY_nil w
  · cases e; exact ⟨rfl, hc, hm, .inr ⟨g, 0, rfl, hg2, hB⟩⟩

theorem OwnY.grown {w w' : World} {base : Nat} {v : Value} {xs : List α} (h : OwnY L w base v xs) (hg : w.grownBy w' v.ownBlock) (hb : base ≤ w.heap.size) : Below base w w' :=
  (Below.refl _ _).grown hg hb (fun k hk => (World.ownsRow.lt h k hk).1)

theorem cellsY_add {w : World} {g off : Nat} {ys : List α} (hB : CellsY L w g off ys) : ∀ j u, (flatY L ys)[j]? = some u → w.cell? ((⟨g, off, none⟩ : Addr).add j) = some u := by
  intro j u hu
  rw [addY]
  have hj : j < ys.length * L.k := by
    rw [← flatY_length]
    exact (List.getElem?_eq_some_iff.1 hu).1
  have hi : j / L.k < ys.length := (Nat.div_lt_iff_lt_mul L.pos).2 hj
  have hd : j % L.k < L.k := Nat.mod_lt _ L.pos
  have ej : j = j / L.k * L.k + j % L.k := by rw [Nat.mul_comm]; exact (Nat.div_add_mod j L.k).symm
  have hx : ys[j / L.k]? = some (ys[j / L.k]'hi) := List.getElem?_eq_getElem hi
  have h2 := hB _ _ hx (j % L.k) u (by rw [← flatY_nth ys _ _ _ hx hd, ← ej]; exact hu)
  rw [Nat.add_assoc, ← ej] at h2
  exact h2

theorem IsY.src {w : World} {a : Option Addr} {n c : Nat} {xs : List α} (h : IsY L w a n c xs) : SrcY L w a n xs := ⟨h.1, h.2.2.2⟩

theorem SrcY.keep {w w' : World} {a : Option Addr} {n : Nat} {xs : List α} (h : SrcY L w a n xs) (hb : Below w.heap.size w w') : SrcY L w' a n xs := by
  refine ⟨h.1, ?_⟩
  rcases h.2 with h0 | ⟨g, off, ha, hg, hc⟩
  · exact .inl h0
  · exact .inr ⟨g, off, ha, Nat.lt_of_lt_of_le hg hb.size, hc.same (hb.block g hg)⟩

theorem rangeY_new (w : World) (g : Nat) (cs : Array Value) (ty : TypeId) (hg : w.heap.size = g) : (w.alloc (.cells cs ty)).rangeAt g 0 cs.toList := by
  intro j v hj
  have hh : (w.alloc (.cells cs ty)).heap[g]? = some (.cells cs ty) := by rw [← hg]; exact heap_alloc_new w _
  unfold World.cell?
  rw [hh, Nat.zero_add]
  show cs[j]? = _
  rw [← Array.getElem?_toList]; exact hj

/-- append of things, wherever they lie, as it runs -/
theorem run_joinY (L : Lay α) (w : World) (ty : TypeId) (base : Nat) (v : Value) (xs : List α) (hown : OwnY L w base v xs) (sa : Option Addr) (m c : Nat) (ys : List α) (hB : SrcY L w sa m ys) (hbig : xs.length + ys.length ≤ 1000000000) (hbase : base ≤ w.heap.size) :
    ∃ v' w', (Builtin.append_ #[L.t, L.t] ty #[v, .slice sa m c]).run Tryz.prog w = .ok v' w' ∧ OwnY L w' base v' (xs ++ ys) ∧ w.grownBy w' v.ownBlock ∧ AtB w v v' := by
  obtain ⟨i0, hi, hz0, hz1, hz2⟩ := info_parts L.info
  by_cases h0 : m = 0
  · subst h0
    have hy : ys = [] := List.length_eq_zero_iff.1 hB.1
    subst hy
    exact ⟨v, w, run_append_empty w base L.t ty L.e i0 L.k L.und hi v xs.length _ hown sa c, by rw [List.append_nil]; exact hown, ⟨rfl, rfl, rfl, Nat.le_refl _, fun _ _ _ => rfl⟩, .inl rfl⟩
  · rcases hB.2 with h1 | ⟨g, off, rfl, hg, hb⟩
    · exact absurd h1 h0
    · have hl := hB.1
      have hmul : (xs.length + m) * L.bys ≤ 1000000000 * 1000 := Nat.mul_le_mul (by omega) L.few
      obtain ⟨v', w', hr, h2, h3, _, h5⟩ := run_append_own_at (P := Tryz.prog) w base L.t ty L.e i0 _ L.k L.bys L.und hi hz0 hz1 hz2 L.zs L.pos v xs.length _ hown ⟨g, off, none⟩ m c (flatY L ys) (by rw [flatY_length, hl]) (cellsY_add hb) (flatY_one ys) (by unfold maxLen; omega) (by omega) hbase
      refine ⟨v', w', hr, ?_, h3, ?_⟩
      · unfold OwnY
        rw [List.length_append, flatY_append, hl]
        exact h2
      · rcases h5 with h5 | h5
        · exact .inl h5
        · exact .inr ⟨_, h5, Nat.le_refl _⟩

theorem step_joinY (L : Lay α) {ops : Array Oper} {o : Oper} {a : Act} {K : Act → World → Prop} {Q : Exit → Act → World → Prop} {E : Prop} (w : World) (hgd : Region.wanted o (yielded ops a.tmps) = true) (s x : Operand)
    (ho : o.op = .call { callee := .builtin .append, args := #[s, x], argTypes := #[L.t, L.t] }) (base : Nat) (v : Value) (xs : List α) (hs : a.eval s = v) (hown : OwnY L w base v xs)
    (sa : Option Addr) (m c : Nat) (ys : List α) (hx : a.eval x = .slice sa m c) (hB : SrcY L w sa m ys) (hbig : xs.length + ys.length ≤ 1000000000) (hbase : base ≤ w.heap.size)
    (h : ∀ v' w', OwnY L w' base v' (xs ++ ys) → w.grownBy w' v.ownBlock → AtB w v v' → K (a.put o.dst v') w') :
    if Region.wanted o (yielded ops a.tmps) = true then Oper.wp Tryz.prog o a w K Q else E := by
  rw [if_pos hgd]
  obtain ⟨v', w', hr, h1, h2, h3⟩ := run_joinY L w o.type base v xs hown sa m c ys hB hbig hbase
  unfold Oper.wp execOp
  simp only [ho, resolve, invoke, builtin, Sem.run_bind, Sem.run_pure, Result.andThen_ok, List.map_toArray, List.map_cons, List.map_nil, hs, hx, hr]
  exact h v' w' h1 h2 h3

/-- append of things, wherever they lie -/
theorem wp_joinY (L : Lay α) {ops : Array Oper} {rest : List Oper} {o : Oper} {a : Act} {Q : Exit → Act → World → Prop} (w : World) (hgd : o.guard = none) (s x : Operand)
    (ho : o.op = .call { callee := .builtin .append, args := #[s, x], argTypes := #[L.t, L.t] }) (base : Nat) (v : Value) (xs : List α) (hs : a.eval s = v) (hown : OwnY L w base v xs)
    (sa : Option Addr) (m c : Nat) (ys : List α) (hx : a.eval x = .slice sa m c) (hB : SrcY L w sa m ys) (hbig : xs.length + ys.length ≤ 1000000000) (hbase : base ≤ w.heap.size)
    (h : ∀ v' w', OwnY L w' base v' (xs ++ ys) → w.grownBy w' v.ownBlock → AtB w v v' → wpList Tryz.prog ops Q rest (a.put o.dst v') w') : wpList Tryz.prog ops Q (o :: rest) a w :=
  wpList_step fun K hK => step_joinY L w (by simp [Region.wanted, hgd]) s x ho base v xs hs hown sa m c ys hx hB hbig hbase (fun v' w' h1 h2 h3 => hK _ _ (h v' w' h1 h2 h3))

theorem sizeY (L : Lay α) (W : World) : (sizeOf (Tryz.prog.elem L.t)).run Tryz.prog W = .ok L.k W := by
  obtain ⟨i0, hi, _, hz1, _⟩ := info_parts L.info
  have he : Tryz.prog.elem L.t = L.e := by unfold Program.elem; rw [L.und]
  rw [he]
  simp [sizeOf, typeInfo, hi, hz1]

theorem Lay.size (L : Lay α) : (Tryz.prog.info? L.e).map (·.size) = some L.k := by
  obtain ⟨i0, hi, _, hz1, _⟩ := info_parts L.info
  rw [hi]; simp [hz1]

/-- a thing of several cells read whole -/
theorem run_loadY (L : Lay α) (w : World) (g f : Nat) (x : α) (d : TypeDesc) (hu : Tryz.prog.underlying L.e = some d) (hd : d.isRow = true) (h : w.rangeAt g f (L.cells x)) : (Instr.loadAt L.e (.pointer (some ⟨g, f, none⟩))).run Tryz.prog w = .ok (.agg (L.cells x).toArray) w :=
  run_loadAt_mid w g f L.e (L.cells x) d h hu hd (by rw [L.len]; exact L.size)

theorem wp_loadY (L : Lay α) {ops : Array Oper} {rest : List Oper} {o : Oper} {a : Act} {Q : Exit → Act → World → Prop} (w : World) (d : TypeDesc) (hu : Tryz.prog.underlying L.e = some d) (hd : d.isRow = true) (hgd : o.guard = none) (y : Operand) (ho : o.op = .load L.e y) (g f : Nat) (x : α) (cs : Array Value) (hcs : (L.cells x).toArray = cs) (hx : a.eval y = .pointer (some ⟨g, f, none⟩)) (hc : w.rangeAt g f (L.cells x))
    (h : wpList Tryz.prog ops Q rest (a.put o.dst (.agg cs)) w) : wpList Tryz.prog ops Q (o :: rest) a w := by
  subst hcs
  refine wpList_plain hgd fun K hK => ?_
  unfold Oper.wp execOp
  simp only [ho, hx, Sem.run_bind, run_loadY L w g f x d hu hd hc, Sem.run_pure, Result.andThen_ok]
  exact hK _ _ h

/-- a thing laid into a new block -/
theorem wp_newY {ops : Array Oper} {rest : List Oper} {o : Oper} {a : Act} {Q : Exit → Act → World → Prop} (w : World) (t : TypeId) (c cs : Array Value) (hi : (Tryz.prog.info? t).map (·.size) = some cs.size) (hs : c.size = cs.size) (h1 : cs.all (·.oneCell') = true) (hgd : o.guard = none) (x y : Operand) (ho : o.op = .store t x y) (hx : a.eval x = .pointer (some ⟨w.heap.size, 0, none⟩)) (hy : a.eval y = .agg cs)
    (h : wpList Tryz.prog ops Q rest (a.put o.dst undef) (w.alloc (.cells cs t))) : wpList Tryz.prog ops Q (o :: rest) a (w.alloc (.cells c t)) := by
  refine wpList_plain hgd fun K hK => ?_
  have hr := run_storeAt_new (P := Tryz.prog) w t c cs hi hs h1
  unfold Oper.wp execOp
  simp only [ho, hx, hy, Sem.run_bind, hr, Sem.run_pure, Result.andThen_ok]
  exact hK _ _ h

theorem keepsY_cell {g i : Nat} {w : World} (v : Value) : Keeps (fun k => k = g) w (w.setCell ⟨g, i, none⟩ v) :=
  ⟨rfl, rfl, rfl, by simp [World.setCell], fun k hk hn => Below.heap_setCell _ _ _ _ hn⟩

theorem belY {w w' : World} (h : Below w.heap.size w w') (o : Obj) : Below w.heap.size w (w'.alloc o) := h.alloc h.size o

/-- things from place i on -/
theorem CellsY.drop {w : World} {g off : Nat} {xs : List α} (h : CellsY L w g off xs) (i : Nat) : CellsY L w g (off + i * L.k) (xs.drop i) := by
  intro j x hx
  rw [List.getElem?_drop] at hx
  have := h (i + j) x hx
  rw [Nat.add_mul, ← Nat.add_assoc] at this
  exact this

theorem CellsY.take {w : World} {g off : Nat} {xs : List α} (h : CellsY L w g off xs) (i : Nat) : CellsY L w g off (xs.take i) := by
  intro j x hx
  rw [List.getElem?_take] at hx
  split at hx
  · exact h j x hx
  · cases hx

/-- two slices in unlike blocks -/
def OffY (v u : Value) : Prop := ∀ g, v.ownBlock = some g → u.ownBlock ≠ some g

theorem OffY.symm {v u : Value} (h : OffY v u) : OffY u v := fun g hu hv => h g hv hu

theorem OffY.grown {w : World} {v v' u : Value} (h : OffY v u) (ha : AtB w v v') (hu : ∀ g, u.ownBlock = some g → g < w.heap.size) : OffY v' u := by
  intro g hv hu2
  rcases ha with e | ⟨g2, e, hg⟩
  · rw [e] at hv; exact h g hv hu2
  · rw [e] at hv; cases hv; have := hu g hu2; omega

theorem OwnY.off {w w' : World} {base : Nat} {v u : Value} {xs : List α} (h : OwnY L w base u xs) (ha : OffY v u) (hg : w.grownBy w' v.ownBlock) : OwnY L w' base u xs :=
  h.lies (fun g hu => hg.block g (h.lt g hu).2 (fun e => ha g e.symm hu))

end Go.Proofs.YtcgiicmmfleinaaGreatDoor

namespace Go.Proofs.YtcgiicmmfleinaaGreatDoor
open Go.RowKit NumMath Go.ChangeShapes Go.WideShapes Go.Deep
set_option linter.unusedVariables false
set_option maxRecDepth 100000

variable {α : Type} {L : Lay α}

theorem flatY_set : ∀ (xs : List α) (i d : Nat) (x x' : α) (u : Value), xs[i]? = some x → d < L.k → L.cells x' = (L.cells x).set d u → flatY L (xs.set i x') = (flatY L xs).set (i * L.k + d) u := by
  intro xs
  induction xs with
  | nil => intro i d x x' u hi; simp at hi
  | cons v r ih =>
    intro i d x x' u hi hd hc
    have e : flatY L (v :: r) = L.cells v ++ flatY L r := rfl
    cases i with
    | zero =>
      simp at hi
      subst hi
      rw [List.set_cons_zero, e, Nat.zero_mul, Nat.zero_add, List.set_append_left _ _ (by rw [L.len]; exact hd), ← hc]
      rfl
    | succ j =>
      have e2 : (j + 1) * L.k + d = L.k + (j * L.k + d) := by rw [Nat.add_mul]; omega
      rw [List.set_cons_succ, e, e2, List.set_append_right _ _ (by rw [L.len]; omega), L.len, Nat.add_sub_cancel_left, ← ih j d x x' u (by simpa using hi) hd hc]
      rfl

/-- one cell of one of them set -/
theorem OwnY.cell {w : World} {base g n cap : Nat} {xs : List α} (h : OwnY L w base (.slice (some ⟨g, 0, none⟩) n cap) xs) (i d : Nat) (x x' : α) (u : Value) (hi : xs[i]? = some x) (hd : d < L.k) (hc : L.cells x' = (L.cells x).set d u) (o : Nat) (ho : o = i * L.k + d) : OwnY L (w.setCell ⟨g, o, none⟩ u) base (.slice (some ⟨g, 0, none⟩) n cap) (xs.set i x') := by
  subst ho
  have hn := h.len.1
  subst hn
  unfold OwnY at *
  have hs := (World.ownsRow.stored h (i * L.k + d) u).1
  rw [List.length_set, flatY_set xs i d x x' u hi hd hc]
  exact hs

end Go.Proofs.YtcgiicmmfleinaaGreatDoor
