/- A message in a block of its own; loads and stores of messages; copyOf, made, pair. -/
import Derived.Test.YtodmieehdleohaaMs2
namespace Go.Proofs.Ytodmieehdleohaa
open Go.RowKit NumMath Go.ChangeShapes Go.WideShapes Go.Deep
set_option linter.unusedVariables false
set_option maxRecDepth 100000

theorem belA {w w' : World} (h : Below w.heap.size w w') (o : Obj) : Below w.heap.size w (w'.alloc o) := h.alloc h.size o

/-- from offset o of block g on lies the message m -/
def CellG (w : World) (g o : Nat) (m : MMsg) : Prop := w.rangeAt g o m.vals

/-- block g holds the message m, and may be written -/
structure BoxG (w : World) (g : Nat) (m : MMsg) : Prop where
  c : CellG w g 0 m
  fz : ∀ j, w.frozen? ⟨g, j, none⟩ = false
  lt : g < w.heap.size

theorem CellG.same {w w' : World} {g o : Nat} {m : MMsg} (h : CellG w g o m) (e : w'.heap[g]? = w.heap[g]?) : CellG w' g o m :=
  fun j v hj => (World.cell?_of_block (a := ⟨g, o + j, none⟩) e).trans (h j v hj)

theorem boxG_new (w : World) (m : MMsg) (g : Nat) (ty : TypeId) (hg : w.heap.size = g) : BoxG (w.alloc (.cells #[.int .i64 m.k, .int .u64 m.fr, .int .u64 m.tt, .int .u64 m.tm, .int .u64 m.ix, .int .u64 m.lt, .int .u64 m.cm, .int .u64 m.hn, .bool m.rj, .slice m.ea m.en m.ec, .int .u64 m.si, .int .u64 m.st, .slice m.ma m.mn m.mc, .slice m.sa m.sn m.sc] ty)) g m := by
  have hh : (w.alloc (.cells #[.int .i64 m.k, .int .u64 m.fr, .int .u64 m.tt, .int .u64 m.tm, .int .u64 m.ix, .int .u64 m.lt, .int .u64 m.cm, .int .u64 m.hn, .bool m.rj, .slice m.ea m.en m.ec, .int .u64 m.si, .int .u64 m.st, .slice m.ma m.mn m.mc, .slice m.sa m.sn m.sc] ty)).heap[g]? = some (.cells m.vals.toArray ty) := by rw [← hg]; exact (MapKept.heap_alloc w _).1
  refine ⟨fun j v hj => ?_, fun j => ?_, by simp; omega⟩
  · unfold World.cell?
    rw [hh, Nat.zero_add]
    show m.vals.toArray[j]? = _
    rw [List.getElem?_toArray, hj]
  · unfold World.frozen?
    rw [hh]
    simp

theorem BoxG.keep {w w' : World} {g : Nat} {m : MMsg} (h : BoxG w g m) (hb : Below w.heap.size w w') : BoxG w' g m :=
  ⟨h.c.same (hb.block g h.lt), fun j => (hb.frozen (p := ⟨g, j, none⟩) h.lt).trans (h.fz j), Nat.lt_of_lt_of_le h.lt hb.size⟩

theorem BoxG.lies {M : Nat → Prop} {w w' : World} {g : Nat} {m : MMsg} (h : BoxG w g m) (hk : Keeps M w w') (hg : ¬ M g) : BoxG w' g m :=
  ⟨h.c.same (hk.block g h.lt hg), fun j => (World.frozen?_of_block (a := ⟨g, j, none⟩) (hk.block g h.lt hg)).trans (h.fz j), Nat.lt_of_lt_of_le h.lt hk.size⟩

theorem CellG.x {w : World} {g o : Nat} {m : MMsg} (h : CellG w g o m) : w.cell? ⟨g, o, none⟩ = some (.int .i64 m.k) ∧ w.cell? ⟨g, o + 1, none⟩ = some (.int .u64 m.fr) ∧ w.cell? ⟨g, o + 2, none⟩ = some (.int .u64 m.tt) ∧ w.cell? ⟨g, o + 3, none⟩ = some (.int .u64 m.tm) ∧ w.cell? ⟨g, o + 4, none⟩ = some (.int .u64 m.ix) ∧ w.cell? ⟨g, o + 5, none⟩ = some (.int .u64 m.lt) ∧ w.cell? ⟨g, o + 6, none⟩ = some (.int .u64 m.cm) ∧ w.cell? ⟨g, o + 7, none⟩ = some (.int .u64 m.hn) ∧ w.cell? ⟨g, o + 8, none⟩ = some (.bool m.rj) ∧ w.cell? ⟨g, o + 9, none⟩ = some (.slice m.ea m.en m.ec) ∧ w.cell? ⟨g, o + 10, none⟩ = some (.int .u64 m.si) ∧ w.cell? ⟨g, o + 11, none⟩ = some (.int .u64 m.st) ∧ w.cell? ⟨g, o + 12, none⟩ = some (.slice m.ma m.mn m.mc) ∧ w.cell? ⟨g, o + 13, none⟩ = some (.slice m.sa m.sn m.sc) :=
  ⟨h 0 _ rfl, h 1 _ rfl, h 2 _ rfl, h 3 _ rfl, h 4 _ rfl, h 5 _ rfl, h 6 _ rfl, h 7 _ rfl, h 8 _ rfl, h 9 _ rfl, h 10 _ rfl, h 11 _ rfl, h 12 _ rfl, h 13 _ rfl⟩

theorem BoxG.x {w : World} {g : Nat} {m : MMsg} (h : BoxG w g m) : w.cell? ⟨g, 0, none⟩ = some (.int .i64 m.k) ∧ w.cell? ⟨g, 1, none⟩ = some (.int .u64 m.fr) ∧ w.cell? ⟨g, 2, none⟩ = some (.int .u64 m.tt) ∧ w.cell? ⟨g, 3, none⟩ = some (.int .u64 m.tm) ∧ w.cell? ⟨g, 4, none⟩ = some (.int .u64 m.ix) ∧ w.cell? ⟨g, 5, none⟩ = some (.int .u64 m.lt) ∧ w.cell? ⟨g, 6, none⟩ = some (.int .u64 m.cm) ∧ w.cell? ⟨g, 7, none⟩ = some (.int .u64 m.hn) ∧ w.cell? ⟨g, 8, none⟩ = some (.bool m.rj) ∧ w.cell? ⟨g, 9, none⟩ = some (.slice m.ea m.en m.ec) ∧ w.cell? ⟨g, 10, none⟩ = some (.int .u64 m.si) ∧ w.cell? ⟨g, 11, none⟩ = some (.int .u64 m.st) ∧ w.cell? ⟨g, 12, none⟩ = some (.slice m.ma m.mn m.mc) ∧ w.cell? ⟨g, 13, none⟩ = some (.slice m.sa m.sn m.sc) := by
  have := h.c.x
  simpa using this

/-- one cell of the box set -/
theorem BoxG.set {w : World} {g : Nat} {m m' : MMsg} (h : BoxG w g m) (i : Nat) (v : Value) (hi : i < 14) (hs : m'.vals = m.vals.set i v) : BoxG (w.setCell ⟨g, i, none⟩ v) g m' := by
  refine ⟨fun j u hj => ?_, fun j => by simp; exact h.fz j, by simp [World.setCell]; exact h.lt⟩
  rw [hs, List.getElem?_set] at hj
  rw [Nat.zero_add]
  by_cases e : i = j
  · subst e
    rw [if_pos rfl, if_pos (by rw [vals_len]; exact hi)] at hj
    cases hj
    have : ∃ x, m.vals[i]? = some x := ⟨_, List.getElem?_eq_getElem (by rw [vals_len]; exact hi)⟩
    obtain ⟨x, hx⟩ := this
    have hc := h.c i x hx
    rw [Nat.zero_add] at hc
    exact World.cell?_setCell_same _ _ _ hc
  · rw [if_neg e] at hj
    rw [cell_off e]
    have hc := h.c j u hj
    rw [Nat.zero_add] at hc
    exact hc

theorem info14 : (Try.prog.info? 39).map (·.size) = some 14 := by kernel_rfl

theorem infoMsg : (Try.prog.info? 39).map (fun i => (i.zero, i.size, i.bytes)) = some (some (.agg #[.int .i64 msg0.k, .int .u64 msg0.fr, .int .u64 msg0.tt, .int .u64 msg0.tm, .int .u64 msg0.ix, .int .u64 msg0.lt, .int .u64 msg0.cm, .int .u64 msg0.hn, .bool msg0.rj, .slice msg0.ea msg0.en msg0.ec, .int .u64 msg0.si, .int .u64 msg0.st, .slice msg0.ma msg0.mn msg0.mc, .slice msg0.sa msg0.sn msg0.sc]), 14, 160) := by kernel_rfl

theorem size_msg (W : World) : (sizeOf (Try.prog.elem 46)).run Try.prog W = .ok 14 W := by
  obtain ⟨i0, hi, _, hz1, _⟩ := info_parts infoMsg
  have he : Try.prog.elem 46 = 39 := by kernel_rfl
  rw [he]
  simp [sizeOf, typeInfo, hi, hz1]

theorem run_loadG (w : World) (g f : Nat) (m : MMsg) (h : CellG w g f m) : (Instr.loadAt 39 (.pointer (some ⟨g, f, none⟩))).run Try.prog w = .ok (.agg #[.int .i64 m.k, .int .u64 m.fr, .int .u64 m.tt, .int .u64 m.tm, .int .u64 m.ix, .int .u64 m.lt, .int .u64 m.cm, .int .u64 m.hn, .bool m.rj, .slice m.ea m.en m.ec, .int .u64 m.si, .int .u64 m.st, .slice m.ma m.mn m.mc, .slice m.sa m.sn m.sc]) w :=
  run_loadAt_mid w g f 39 m.vals _ h Try.underlying39 rfl info14

/-- a message read whole -/
theorem wp_loadG {ops : Array Oper} {rest : List Oper} {o : Oper} {a : Act} {Q : Exit → Act → World → Prop} (w : World) (hgd : o.guard = none) (x : Operand) (ho : o.op = .load 39 x) (g f : Nat) (m : MMsg) (hx : a.eval x = .pointer (some ⟨g, f, none⟩)) (hc : CellG w g f m)
    (h : wpList Try.prog ops Q rest (a.put o.dst (.agg #[.int .i64 m.k, .int .u64 m.fr, .int .u64 m.tt, .int .u64 m.tm, .int .u64 m.ix, .int .u64 m.lt, .int .u64 m.cm, .int .u64 m.hn, .bool m.rj, .slice m.ea m.en m.ec, .int .u64 m.si, .int .u64 m.st, .slice m.ma m.mn m.mc, .slice m.sa m.sn m.sc])) w) : wpList Try.prog ops Q (o :: rest) a w := by
  refine wpList_plain hgd fun K hK => ?_
  unfold Oper.wp execOp
  simp only [ho, hx, Sem.run_bind, run_loadG w g f m hc, Sem.run_pure, Result.andThen_ok]
  exact hK _ _ h

theorem setCells_size (g : Nat) : ∀ (l : List Value) (o : Nat) (w : World), (w.setCells g o l).heap.size = w.heap.size := by
  intro l
  induction l with
  | nil => intro o w; rfl
  | cons x r ih => intro o w; rw [World.setCells, ih]; simp [World.setCell]

theorem setCells_tape (g : Nat) : ∀ (l : List Value) (o : Nat) (w : World), (w.setCells g o l).tape = w.tape := by
  intro l
  induction l with
  | nil => intro o w; rfl
  | cons x r ih => intro o w; rw [World.setCells, ih]; simp [World.setCell]

theorem keeps_cells (w : World) (g o : Nat) (l : List Value) : Keeps (fun k => k = g) w (w.setCells g o l) :=
  ⟨World.os_setCells _ _ _ _, setCells_tape _ _ _ _, World.output_setCells _ _ _ _, Nat.le_of_eq (setCells_size _ _ _ _).symm, fun k hk hn => World.heap_setCells_other w g o l hk hn⟩

/-- what a store of a message leaves -/
structure StoredG (w : World) (g f : Nat) (m : MMsg) (w' : World) : Prop where
  c : CellG w' g f m
  fz : ∀ x, w'.frozen? x = w.frozen? x
  sz : w'.heap.size = w.heap.size
  kp : Keeps (fun k => k = g) w w'
  out : ∀ j, j < f ∨ f + 14 ≤ j → w'.cell? ⟨g, j, none⟩ = w.cell? ⟨g, j, none⟩
  is : ∀ x, (w.cell? x).isSome = true → (w'.cell? x).isSome = true

theorem run_storeG (w : World) (g f : Nat) (m : MMsg) (ht : w.there g f 14) : ∃ w', (Instr.storeAt 39 (.pointer (some ⟨g, f, none⟩)) (.agg #[.int .i64 m.k, .int .u64 m.fr, .int .u64 m.tt, .int .u64 m.tm, .int .u64 m.ix, .int .u64 m.lt, .int .u64 m.cm, .int .u64 m.hn, .bool m.rj, .slice m.ea m.en m.ec, .int .u64 m.si, .int .u64 m.st, .slice m.ma m.mn m.mc, .slice m.sa m.sn m.sc])).run Try.prog w = .ok () w' ∧ StoredG w g f m w' := by
  refine ⟨w.setCells g f m.vals, run_storeAt_mid w g f 39 m.vals.toArray (by simpa [vals_len] using ht) (by simpa [vals_len] using info14) (all_oneCell_toArray (vals_one m)), ?_⟩
  refine ⟨World.rangeAt_setCells_same w g f m.vals (by rw [vals_len]; exact ht), fun x => World.frozen?_setCells g m.vals f w x, setCells_size _ _ _ _, keeps_cells _ _ _ _, fun j hj => World.cell?_setCells_out g m.vals f w ⟨g, j, none⟩ (fun _ _ => by rw [vals_len]; exact hj), fun x hx => World.isSome_setCells g m.vals f w x hx⟩

/-- a message stored -/
theorem wp_storeG {ops : Array Oper} {rest : List Oper} {o : Oper} {a : Act} {Q : Exit → Act → World → Prop} (w : World) (hgd : o.guard = none) (x y : Operand) (ho : o.op = .store 39 x y) (g f : Nat) (m : MMsg) (hx : a.eval x = .pointer (some ⟨g, f, none⟩)) (hy : a.eval y = .agg #[.int .i64 m.k, .int .u64 m.fr, .int .u64 m.tt, .int .u64 m.tm, .int .u64 m.ix, .int .u64 m.lt, .int .u64 m.cm, .int .u64 m.hn, .bool m.rj, .slice m.ea m.en m.ec, .int .u64 m.si, .int .u64 m.st, .slice m.ma m.mn m.mc, .slice m.sa m.sn m.sc]) (ht : w.there g f 14)
    (h : ∀ w', StoredG w g f m w' → wpList Try.prog ops Q rest (a.put o.dst undef) w') : wpList Try.prog ops Q (o :: rest) a w := by
  refine wpList_plain hgd fun K hK => ?_
  obtain ⟨w', hr, hs⟩ := run_storeG w g f m ht
  unfold Oper.wp execOp
  simp only [ho, hx, hy, Sem.run_bind, hr, Sem.run_pure, Result.andThen_ok]
  exact hK _ _ (h w' hs)

theorem BoxG.there {w : World} {g : Nat} {m : MMsg} (h : BoxG w g m) : w.there g 0 14 := by
  intro j hj
  refine ⟨?_, h.fz _⟩
  have : ∃ x, m.vals[j]? = some x := ⟨_, List.getElem?_eq_getElem (by rw [vals_len]; exact hj)⟩
  obtain ⟨x, hx⟩ := this
  rw [h.c j x hx]
  rfl

theorem BoxG.stored {w w' : World} {g : Nat} {m m' : MMsg} (h : BoxG w g m) (hs : StoredG w g 0 m' w') : BoxG w' g m' := ⟨hs.c, fun j => (hs.fz _).trans (h.fz j), by rw [hs.sz]; exact h.lt⟩

/-- .. laid into a new block -/
theorem wp_storeN {ops : Array Oper} {rest : List Oper} {o : Oper} {a : Act} {Q : Exit → Act → World → Prop} (w : World) (hgd : o.guard = none) (x y : Operand) (ho : o.op = .store 39 x y) (g : Nat) (hg : w.heap.size = g) (m : MMsg) (hx : a.eval x = .pointer (some ⟨g, 0, none⟩)) (hy : a.eval y = .agg #[.int .i64 m.k, .int .u64 m.fr, .int .u64 m.tt, .int .u64 m.tm, .int .u64 m.ix, .int .u64 m.lt, .int .u64 m.cm, .int .u64 m.hn, .bool m.rj, .slice m.ea m.en m.ec, .int .u64 m.si, .int .u64 m.st, .slice m.ma m.mn m.mc, .slice m.sa m.sn m.sc])
    (h : wpList Try.prog ops Q rest (a.put o.dst undef) (w.alloc (.cells #[.int .i64 m.k, .int .u64 m.fr, .int .u64 m.tt, .int .u64 m.tm, .int .u64 m.ix, .int .u64 m.lt, .int .u64 m.cm, .int .u64 m.hn, .bool m.rj, .slice m.ea m.en m.ec, .int .u64 m.si, .int .u64 m.st, .slice m.ma m.mn m.mc, .slice m.sa m.sn m.sc] 39))) : wpList Try.prog ops Q (o :: rest) a (w.alloc (.cells #[.int .i64 0, .int .u64 0, .int .u64 0, .int .u64 0, .int .u64 0, .int .u64 0, .int .u64 0, .int .u64 0, .bool false, .slice none 0 0, .int .u64 0, .int .u64 0, .slice none 0 0, .slice none 0 0] 39)) := by
  subst hg
  refine wpList_plain hgd fun K hK => ?_
  have hr := run_storeAt_new (P := Try.prog) w 39 #[.int .i64 0, .int .u64 0, .int .u64 0, .int .u64 0, .int .u64 0, .int .u64 0, .int .u64 0, .int .u64 0, .bool false, .slice none 0 0, .int .u64 0, .int .u64 0, .slice none 0 0, .slice none 0 0] m.vals.toArray info14 rfl (all_oneCell_toArray (vals_one m))
  unfold Oper.wp execOp
  simp only [ho, hx, hy, Sem.run_bind]
  have hr' : (Instr.storeAt 39 (.pointer (some ⟨w.heap.size, 0, none⟩)) (.agg #[.int .i64 m.k, .int .u64 m.fr, .int .u64 m.tt, .int .u64 m.tm, .int .u64 m.ix, .int .u64 m.lt, .int .u64 m.cm, .int .u64 m.hn, .bool m.rj, .slice m.ea m.en m.ec, .int .u64 m.si, .int .u64 m.st, .slice m.ma m.mn m.mc, .slice m.sa m.sn m.sc])).run Try.prog (w.alloc (.cells #[.int .i64 0, .int .u64 0, .int .u64 0, .int .u64 0, .int .u64 0, .int .u64 0, .int .u64 0, .int .u64 0, .bool false, .slice none 0 0, .int .u64 0, .int .u64 0, .slice none 0 0, .slice none 0 0] 39)) = .ok () (w.alloc (.cells #[.int .i64 m.k, .int .u64 m.fr, .int .u64 m.tt, .int .u64 m.tm, .int .u64 m.ix, .int .u64 m.lt, .int .u64 m.cm, .int .u64 m.hn, .bool m.rj, .slice m.ea m.en m.ec, .int .u64 m.si, .int .u64 m.st, .slice m.ma m.mn m.mc, .slice m.sa m.sn m.sc] 39)) := hr
  simp only [hr', Sem.run_pure, Result.andThen_ok]
  exact hK _ _ h

/-! ### made, pair -/

theorem madeM_any (w : World) (base p z : Nat) (cs : Nat → Value) (F : List (Int × Int)) (C : Int → Int → Bool) (Q : Nat → List MMsg) (h : IsMesh w base p z cs F C Q) :
    Calls Try.prog 21 #[.pointer (some ⟨p, 0, none⟩)] w fun e w' => e = .returned (.bool true) ∧ w' = w := by
  obtain ⟨mb, h1, _⟩ := h.map
  have c1 := h.cell 1 (by decide)
  rw [h1] at c1
  clear h h1
  have hmn : ∀ W, (binOp .neq 57 (.map (some mb)) (.map none)).run Try.prog W = .ok (.bool true) W := fun W => (run_neq_map_nil W 57 _ _ (some mb) Try.underlying57).trans rfl
  go_enter Try.func21, Try.ntmps21
  go_wp2
  go_ret
  exact ⟨rfl, rfl⟩

theorem madeM_nil (w : World) :
    Calls Try.prog 21 #[.pointer none] w fun e w' => e = .returned (.bool false) ∧ w' = w := by
  go_enter Try.func21, Try.ntmps21
  go_wp2
  go_ret
  exact ⟨rfl, rfl⟩

theorem pair_any (a b : Int) (w : World) :
    Calls Try.prog 23 #[.int .u64 a, .int .u64 b] w fun e w' => e = .returned (.agg #[.int .u64 (min a b), .int .u64 (max a b)]) ∧ w' = w.alloc (.cells #[.int .u64 (min a b), .int .u64 (max a b)] 66) := by
  by_cases h : b < a
  · have e1 : min a b = b := by omega
    have e2 : max a b = a := by omega
    rw [e1, e2]
    clear e1 e2
    have h2 : ¬ a < b := by omega
    go_enter Try.func23, Try.ntmps23
    go_wp2
    refine bodyPost_ret (v := .agg #[.int .u64 b, .int .u64 a]) (by simp [results, Try.results23, go_sem]) rfl ?_
    exact ⟨rfl, rfl⟩
  · have e1 : min a b = a := by omega
    have e2 : max a b = b := by omega
    rw [e1, e2]
    clear e1 e2
    by_cases h2 : a < b
    · go_enter Try.func23, Try.ntmps23
      go_wp2
      refine bodyPost_ret (v := .agg #[.int .u64 a, .int .u64 b]) (by simp [results, Try.results23, go_sem]) rfl ?_
      exact ⟨rfl, rfl⟩
    · obtain rfl : a = b := by omega
      go_enter Try.func23, Try.ntmps23
      go_wp2
      refine bodyPost_ret (v := .agg #[.int .u64 a, .int .u64 a]) (by simp [results, Try.results23, go_sem]) rfl ?_
      exact ⟨rfl, rfl⟩

end Go.Proofs.Ytodmieehdleohaa
