/- Rows of things of any one kind, their cells spelt out: copy, clear, a front of one, a thing laid in the place of another. -/
import Derived.Test.YtcgiicmmfleinaaGreatDoorGnA
import Derived.Laws.CopyRow
import Derived.Lib.Overlaps
import Derived.Lib.AppendZerosOnto
namespace Go.Proofs.YtcgiicmmfleinaaGreatDoor
open Go.RowKit NumMath Go.ChangeShapes Go.WideShapes Go.Deep
set_option linter.unusedVariables false
set_option maxRecDepth 100000

variable {α : Type}

theorem keeps_setRow {w : World} {g : Nat} (cs : Array Value) : Keeps (fun k => k = g) w (w.setRow g cs) :=
  ⟨rfl, rfl, rfl, by simp, fun k hk hn => setRow_other w g k cs hn⟩

/-- a list's row, its cells spelt out -/
theorem OwnY.open {L : Lay α} {w : World} {base g n cap : Nat} {xs : List α} (h : OwnY L w base (.slice (some ⟨g, 0, none⟩) n cap) xs) : ∃ (cur : Array Value) (rest : List Value), w.heap[g]? = some (.cells cur L.e (0, 0)) ∧ base ≤ g ∧ n ≤ cap ∧ cap ≤ maxLen ∧ cur.toList = flatY L xs ++ rest ∧ (flatY L xs).length + rest.length = cap * L.k ∧ xs.length = n := by
  have hl := h.len.1
  rcases h.2 with ⟨e, _⟩ | ⟨g', cap', cur, e, hg, hh, hn, hm, hs, ht⟩
  · cases e
  · simp only [Value.slice.injEq, Option.some.injEq, Addr.mk.injEq, and_true] at e
    obtain ⟨rfl, rfl, rfl⟩ := e
    refine ⟨cur, cur.toList.drop (xs.length * L.k), hh, hg, hn, hm, ?_, ?_, rfl⟩
    · conv => lhs; rw [← List.take_append_drop (xs.length * L.k) cur.toList]
      rw [ht]
    · have hs' : cur.toList.length = cap * L.k := by rw [Array.length_toList]; exact hs
      rw [List.length_drop, flatY_length, hs']
      have : xs.length * L.k ≤ cap * L.k := Nat.mul_le_mul_right _ hn
      omega

/-- .. and shut again -/
theorem OwnY.shut {L : Lay α} {w : World} {base g cap : Nat} {xs : List α} {cur : Array Value} {rest : List Value} (hh : w.heap[g]? = some (.cells cur L.e (0, 0))) (hb : base ≤ g) (hn : xs.length ≤ cap) (hm : cap ≤ maxLen) (e : cur.toList = flatY L xs ++ rest) (hs : (flatY L xs).length + rest.length = cap * L.k) : OwnY L w base (.slice (some ⟨g, 0, none⟩) xs.length cap) xs := by
  refine ⟨flatY_length xs, .inr ⟨g, cap, cur, rfl, hb, hh, hn, hm, ?_, ?_⟩⟩
  · rw [← Array.length_toList, e, List.length_append, hs]
  · rw [e, ← flatY_length (L := L) xs]
    exact List.take_left

theorem flatY_cut {α : Type} (L : Lay α) (xs : List α) (i : Nat) : flatY L xs = flatY L (xs.take i) ++ flatY L (xs.drop i) := by rw [← flatY_append, List.take_append_drop]

theorem run_clearR {α : Type} (L : Lay α) (w : World) (ty : TypeId) (g o n c : Nat) (hn : 0 < n) (cur : Array Value) (t : TypeId) (hg : w.heap[g]? = some (.cells cur t (0, 0))) (hfit : o + n * L.k ≤ cur.size) (hzo : ∀ u ∈ L.z.cells, u.oneCell' = true) :
    ∃ Z : List Value, Z.length = n * L.k ∧ (Builtin.clear_ #[L.t] ty #[.slice (some ⟨g, o, none⟩) n c]).run Tryz.prog w = .ok (.tuple #[]) (w.setRow g (cur.toList.take o ++ Z ++ cur.toList.drop (o + Z.length)).toArray) := by
  obtain ⟨i0, hi, hz0, hz1, _⟩ := info_parts L.info
  have hl : (Builtin.zeroCells L.z.cells n).toList.length = n * L.k := by rw [Array.length_toList, size_zeroCells, L.zs]
  refine ⟨_, hl, ?_⟩
  have hone : ∀ v ∈ (Builtin.zeroCells L.z.cells n).toList, v.oneCell' = true := by
    intro v hv
    have hp := L.pos
    rw [← L.zs] at hp
    simp only [Builtin.zeroCells, Array.toList_map, List.mem_map] at hv
    obtain ⟨j, _, rfl⟩ := hv
    have hj : j % L.z.cells.size < L.z.cells.size := Nat.mod_lt _ hp
    rw [getElem!_pos L.z.cells _ hj]
    exact hzo _ (Array.getElem_mem hj)
  have hst := run_storeCells_at Tryz.prog g o t (Builtin.zeroCells L.z.cells n).toList 0 cur w hg (by rw [hl]; simpa using hfit) hone
  cases n with
  | zero => omega
  | succ n => simp [Builtin.clear_, run_underlying L.und, zeroValue, typeInfo, hi, hz0, hst]

/-- the places from i on laid empty -/
theorem OwnY.cleared {L : Lay α} {w : World} {base g n cap : Nat} {xs : List α} (h : OwnY L w base (.slice (some ⟨g, 0, none⟩) n cap) xs) (i : Nat) (hi : i < n) (hzo : ∀ u ∈ L.z.cells, u.oneCell' = true) :
    ∃ C : Array Value, (∀ ty, (Builtin.clear_ #[L.t] ty #[.slice (some ⟨g, i * L.k, none⟩) (n - i) (cap - i)]).run Tryz.prog w = .ok (.tuple #[]) (w.setRow g C)) ∧ OwnY L (w.setRow g C) base (.slice (some ⟨g, 0, none⟩) i cap) (xs.take i) := by
  obtain ⟨cur, rest, hg, hbg, hnc, hcm, hcur, hlen, hl⟩ := h.open
  have hcs : cur.size = cap * L.k := by rw [← Array.length_toList, hcur, List.length_append]; exact hlen
  have hle : i * L.k + (n - i) * L.k ≤ cap * L.k := by rw [← Nat.add_mul]; exact Nat.mul_le_mul_right _ (by omega)
  have hcl := fun ty => run_clearR L w ty g (i * L.k) (n - i) (cap - i) (by omega) cur L.e hg (by rw [hcs]; exact hle) hzo
  obtain ⟨Z, hZl, hcl0⟩ := hcl 0
  refine ⟨(cur.toList.take (i * L.k) ++ Z ++ cur.toList.drop (i * L.k + Z.length)).toArray, fun ty => hcl0, ?_⟩
  have hln : (xs.take i).length = i := by rw [List.length_take]; omega
  have hfl : (flatY L (xs.take i)).length = i * L.k := by rw [flatY_length, hln]
  have hA : cur.toList.take (i * L.k) = flatY L (xs.take i) := by
    rw [hcur, flatY_cut L xs i, List.append_assoc, ← hfl]
    exact List.take_left
  have hcs' : cur.toList.length = cap * L.k := by rw [Array.length_toList]; exact hcs
  have := OwnY.shut (L := L) (w := w.setRow g (cur.toList.take (i * L.k) ++ Z ++ cur.toList.drop (i * L.k + Z.length)).toArray) (base := base) (xs := xs.take i) (cap := cap) (rest := Z ++ cur.toList.drop (i * L.k + Z.length)) (setRow_heap _ _ _ _ _ _ hg) hbg (by omega) hcm (by rw [← hA, ← List.append_assoc]) (by rw [hfl, List.length_append, List.length_drop, hcs', hZl]; omega)
  rw [hln] at this
  exact this

theorem rowSets {base : Nat} {e : TypeId} {k g n cap : Nat} : ∀ (l : List Value) (o : Nat) (w : World) (cells : List Value), w.ownsRow base e k (.slice (some ⟨g, 0, none⟩) n cap) n cells → o + l.length ≤ cells.length → (w.setCells g o l).ownsRow base e k (.slice (some ⟨g, 0, none⟩) n cap) n (cells.take o ++ l ++ cells.drop (o + l.length)) := by
  intro l
  induction l with
  | nil => intro o w cells h ho; simpa [World.setCells] using h
  | cons a l ih =>
    intro o w cells h ho
    have h1 := (World.ownsRow.stored h o a).1
    have ho2 : o < cells.length := by simp only [List.length_cons] at ho; omega
    have h2 := ih (o + 1) _ _ h1 (by rw [List.length_set]; simp only [List.length_cons] at ho; omega)
    have e1 : (cells.set o a).take (o + 1) = cells.take o ++ [a] := by
      rw [List.take_add_one, List.getElem?_set_self ho2, List.take_set_of_le (Nat.le_refl _)]
      rfl
    have e2 : (cells.set o a).drop (o + 1 + l.length) = cells.drop (o + (a :: l).length) := by
      rw [List.drop_set_of_lt (by omega)]
      congr 1
      simp only [List.length_cons]; omega
    rw [e1, e2] at h2
    simpa [World.setCells] using h2

theorem flatY_lay {L : Lay α} (xs : List α) (i : Nat) (hi : i < xs.length) (x : α) : flatY L (xs.set i x) = (flatY L xs).take (i * L.k) ++ L.cells x ++ (flatY L xs).drop (i * L.k + L.k) := by
  have e0 : xs.set i x = xs.take i ++ [x] ++ xs.drop (i + 1) := by
    apply List.ext_getElem?
    intro j
    by_cases e : j = i
    · subst e
      rw [List.getElem?_set_self hi, List.append_assoc, List.getElem?_append_right (by rw [List.length_take]; omega)]
      simp [List.length_take, Nat.min_eq_left (Nat.le_of_lt hi)]
    · rw [List.getElem?_set_ne (fun e2 => e e2.symm), List.append_assoc]
      by_cases hlt : j < i
      · rw [List.getElem?_append_left (by rw [List.length_take]; omega), List.getElem?_take, if_pos hlt]
      · rw [List.getElem?_append_right (by rw [List.length_take]; omega), List.length_take, Nat.min_eq_left (Nat.le_of_lt hi), List.getElem?_append_right (by simp; omega), List.getElem?_drop]
        congr 1
        simp; omega
  have f1 : (flatY L (xs.take i)).length = i * L.k := by rw [flatY_length, List.length_take]; congr 1; omega
  have f2 : (flatY L (xs.take (i + 1))).length = i * L.k + L.k := by rw [flatY_length, List.length_take, Nat.min_eq_left (show i + 1 ≤ xs.length from hi), Nat.add_mul, Nat.one_mul]
  have g1 : (flatY L xs).take (i * L.k) = flatY L (xs.take i) := by rw [flatY_cut L xs i, ← f1]; exact List.take_left
  have g2 : (flatY L xs).drop (i * L.k + L.k) = flatY L (xs.drop (i + 1)) := by rw [flatY_cut L xs (i + 1), ← f2]; exact List.drop_left
  rw [e0, flatY_append, flatY_append, g1, g2]
  simp [flatY]

/-- a whole thing laid in the place of another one -/
theorem OwnY.lay {L : Lay α} {w : World} {base g n cap : Nat} {xs : List α} (h : OwnY L w base (.slice (some ⟨g, 0, none⟩) n cap) xs) (i : Nat) (hi : i < n) (x : α) :
    OwnY L (w.setCells g (i * L.k) (L.cells x)) base (.slice (some ⟨g, 0, none⟩) n cap) (xs.set i x) := by
  have hn := h.len.1
  subst hn
  have hle : i * L.k + L.k ≤ xs.length * L.k := by
    have : (i + 1) * L.k ≤ xs.length * L.k := Nat.mul_le_mul_right _ (by omega)
    rw [Nat.add_mul, Nat.one_mul] at this
    exact this
  have h1 := rowSets (L.cells x) (i * L.k) w _ h (by rw [L.len, flatY_length]; exact hle)
  rw [L.len, ← flatY_lay xs i (by omega) x] at h1
  unfold OwnY
  rw [List.length_set]
  exact h1

end Go.Proofs.YtcgiicmmfleinaaGreatDoor
