/- Lists of elements that may begin anywhere in their array, and what append and x[1:] do to them. -/
import Derived.Test.YtcgiicmmfleinaaGreatDoorGnA
import Derived.Maps.AppendAt
import Derived.Deep.Upon
namespace Go.Proofs.YtcgiicmmfleinaaGreatDoor
open Go.RowKit NumMath Go.ChangeShapes Go.WideShapes Go.Deep
set_option linter.unusedVariables false
set_option maxRecDepth 100000

/-! ### A list of elements of sz cells each, wherever it begins in its array -/

/-- the slice v has n elements of sz cells each, the cells xs; it may be written, as far as its array goes -/
def Seg (w : World) (sz : Nat) (v : Value) (n : Nat) (xs : List Value) : Prop :=
  xs.length = n * sz ∧ ((v = .slice none 0 0 ∧ n = 0) ∨ ∃ g off cap, v = .slice (some ⟨g, off, none⟩) n cap ∧ g < w.heap.size ∧ n ≤ cap ∧ cap ≤ maxLen ∧ (∀ j u, xs[j]? = some u → w.cell? ⟨g, off + j, none⟩ = some u) ∧ ∀ j, j < cap * sz → (w.cell? ⟨g, off + j, none⟩).isSome = true ∧ w.frozen? ⟨g, off + j, none⟩ = false)

theorem Seg.form {w : World} {sz : Nat} {v : Value} {n : Nat} {xs : List Value} (h : Seg w sz v n xs) : ∃ a c, v = .slice a n c ∧ n ≤ c ∧ c ≤ maxLen := by
  rcases h.2 with ⟨rfl, rfl⟩ | ⟨g, off, cap, rfl, _, h1, h2, _⟩
  · exact ⟨none, 0, rfl, Nat.le_refl _, Nat.zero_le _⟩
  · exact ⟨_, cap, rfl, h1, h2⟩

theorem Seg.lt {w : World} {sz : Nat} {v : Value} {n : Nat} {xs : List Value} (h : Seg w sz v n xs) : ∀ g, v.ownBlock = some g → g < w.heap.size := by
  intro g hg
  rcases h.2 with ⟨rfl, rfl⟩ | ⟨g', off, cap, rfl, h0, _⟩
  · cases hg
  · cases hg; exact h0

theorem Seg.same {w w' : World} {sz : Nat} {v : Value} {n : Nat} {xs : List Value} (h : Seg w sz v n xs) (e : ∀ g, v.ownBlock = some g → w'.heap[g]? = w.heap[g]?) : Seg w' sz v n xs := by
  refine ⟨h.1, ?_⟩
  rcases h.2 with h0 | ⟨g, off, cap, rfl, hg, h1, h2, h3, h4⟩
  · exact .inl h0
  · have e := e g rfl
    have hs : g < w'.heap.size := by
      have h5 : (w.heap[g]?).isSome = true := by rw [Array.getElem?_eq_getElem hg]; rfl
      rw [← e] at h5
      obtain ⟨x, hx⟩ := Option.isSome_iff_exists.1 h5
      exact (Array.getElem?_eq_some_iff.1 hx).1
    exact .inr ⟨g, off, cap, rfl, hs, h1, h2, fun j u hj => (World.cell?_of_block (a := ⟨g, off + j, none⟩) e).trans (h3 j u hj), fun j hj => ⟨by rw [World.cell?_of_block (a := ⟨g, off + j, none⟩) e]; exact (h4 j hj).1, (World.frozen?_of_block (a := ⟨g, off + j, none⟩) e).trans (h4 j hj).2⟩⟩

theorem Seg.keep {w w' : World} {sz : Nat} {v : Value} {n : Nat} {xs : List Value} (h : Seg w sz v n xs) (hb : Below w.heap.size w w') : Seg w' sz v n xs := h.same (fun g hg => hb.block g (h.lt g hg))

theorem Seg.at {w : World} {sz : Nat} {a : Option Addr} {n c : Nat} {xs : List Value} (h : Seg w sz (.slice a n c) n xs) (h0 : 0 < n) : ∃ g off, a = some ⟨g, off, none⟩ ∧ g < w.heap.size ∧ (∀ j u, xs[j]? = some u → w.cell? ⟨g, off + j, none⟩ = some u) ∧ ∀ j, j < c * sz → (w.cell? ⟨g, off + j, none⟩).isSome = true ∧ w.frozen? ⟨g, off + j, none⟩ = false := by
  rcases h.2 with ⟨_, rfl⟩ | ⟨g, off, cap, e, hg, h1, h2, h3, h4⟩
  · omega
  · cases e; exact ⟨g, off, rfl, hg, h3, h4⟩

theorem seg_of_row {w : World} {base : Nat} {e : TypeId} {sz : Nat} {v : Value} {n : Nat} {xs : List Value} (h : w.ownsRow base e sz v n xs) : Seg w sz v n xs := by
  refine ⟨h.1, ?_⟩
  have hlt := World.ownsRow.lt h
  have hcl := fun g hg => World.ownsRow.cells h (g := g) hg
  rcases h.2 with h0 | ⟨g, cap, cur, rfl, hg, hh, hn, hm, hs, ht⟩
  · exact .inl h0
  · refine .inr ⟨g, 0, cap, rfl, (hlt g rfl).2, hn, hm, fun j u hj => ?_, fun j hj => ⟨?_, ?_⟩⟩
    · have := hcl g rfl j u hj
      rw [add_plain] at this
      exact this
    · rw [Nat.zero_add]
      unfold World.cell?
      rw [hh]
      show (cur[j]?).isSome = true
      rw [Array.getElem?_eq_getElem (by omega)]
      rfl
    · rw [Nat.zero_add]
      exact World.ownsRow.frozenAt h j

/-- append, as it runs -/
theorem run_seg (w : World) (t ty e : TypeId) (i : TypeInfo) (z : Value) (sz bytes : Nat) (ht : Tryz.prog.underlying t = some (.slice e)) (hi : Tryz.prog.info? e = some i) (hz : i.zero = some z)
    (hsize : i.size = sz) (hby : i.bytes = bytes) (hzs : z.cells.size = sz) (hsz : 0 < sz) (v : Value) (n : Nat) (xs : List Value) (h : Seg w sz v n xs) (a : Option Addr) (m c : Nat) (ys : List Value) (hl : ys.length = m * sz)
    (hys : m = 0 ∨ ∃ ad, a = some ad ∧ ∀ j u, ys[j]? = some u → w.cell? (ad.add j) = some u) (h1 : ∀ u ∈ ys, u.oneCell' = true) (h63 : n + m ≤ maxLen) (hbytes : (n + m) * bytes ≤ 140737488355328) :
    ∃ v' w', (Builtin.append_ #[t, t] ty #[v, .slice a m c]).run Tryz.prog w = .ok v' w' ∧ Seg w' sz v' (n + m) (xs ++ ys) ∧ Keeps (fun k => v.ownBlock = some k) w w' ∧ AtB w v v' := by
  have hk0 : Keeps (fun k => v.ownBlock = some k) w w := ⟨rfl, rfl, rfl, Nat.le_refl _, fun _ _ _ => rfl⟩
  by_cases h0 : m = 0
  · subst h0
    have hy : ys = [] := List.length_eq_zero_iff.1 (by omega)
    subst hy
    refine ⟨v, w, ?_, by simpa using h, hk0, .inl rfl⟩
    rcases h.2 with ⟨rfl, rfl⟩ | ⟨g, off, cap, rfl, _, hnc, _⟩
    · cases a with
      | none => simp [Builtin.append_, run_underlying ht, sizeOf, typeInfo, hi, Builtin.lenOf, Builtin.firstCells]
      | some x =>
        have hf : ∀ k, (Builtin.firstCells k 0 (.slice (some x) 0 c)).run Tryz.prog w = .ok #[] w := fun k => run_firstCells_some w k 0 x 0 c [] (by simp) (by simp)
        simp [Builtin.append_, run_underlying ht, sizeOf, typeInfo, hi, Builtin.lenOf, hf]
    · cases a with
      | none => simp [Builtin.append_, run_underlying ht, sizeOf, typeInfo, hi, Builtin.lenOf, Builtin.firstCells, hnc, storeCells]
      | some x =>
        have hf : ∀ k, (Builtin.firstCells k 0 (.slice (some x) 0 c)).run Tryz.prog w = .ok #[] w := fun k => run_firstCells_some w k 0 x 0 c [] (by simp) (by simp)
        simp [Builtin.append_, run_underlying ht, sizeOf, typeInfo, hi, Builtin.lenOf, hf, hnc, storeCells]
  · rcases hys with hys | ⟨ad, rfl, hcell⟩
    · exact absurd hys h0
    · rcases h.2 with ⟨rfl, rfl⟩ | ⟨g, off, cap, rfl, hg, hnc, hcm, hc, hr⟩
      · have hx : xs = [] := List.length_eq_zero_iff.1 (by have := h.1; omega)
        subst hx
        obtain ⟨v', w', r1, r2, r3, _, r5⟩ := run_append_own_at (P := Tryz.prog) w w.heap.size t ty e i z sz bytes ht hi hz hsize hby hzs hsz (.slice none 0 0) 0 [] (World.ownsRow_nil _ _ _ _) ad m c ys hl hcell h1 h63 hbytes (Nat.le_refl _)
        refine ⟨v', w', r1, seg_of_row r2, ⟨r3.os, r3.tape, r3.output, r3.size, fun k hk _ => r3.block k hk (by simp [Value.ownBlock])⟩, ?_⟩
        rcases r5 with r5 | r5
        · exact .inl r5
        · exact .inr ⟨_, r5, Nat.le_refl _⟩
      · by_cases hroom : n + m ≤ cap
        · subst hsize
          have hmul : n * i.size + m * i.size ≤ cap * i.size := by rw [← Nat.add_mul]; exact Nat.mul_le_mul_right _ hroom
          have hin : ∀ j, j < ys.length → (w.cell? ⟨g, off + n * i.size + j, none⟩).isSome = true ∧ w.frozen? ⟨g, off + n * i.size + j, none⟩ = false := by
            intro j hj
            have := hr (n * i.size + j) (by omega)
            rw [← Nat.add_assoc] at this
            exact this
          have hrun := run_append_room_cells (P := Tryz.prog) w t ty e i ht hi g off n cap ad m c ys hl hcell h1 hroom (fun j hj => (hin j hj).1) (fun j hj => (hin j hj).2)
          have hkk := World.keptBut_setCells g (may := fun _ => True) ys (off + n * i.size) w (fun _ _ => trivial)
          have hsz' : (w.setCells g (off + n * i.size) ys).heap.size = w.heap.size := by
            have : ∀ (l : List Value) (o : Nat) (w : World), (w.setCells g o l).heap.size = w.heap.size := by
              intro l
              induction l with
              | nil => intro o w; rfl
              | cons x r ih => intro o w; rw [World.setCells, ih]; simp [World.setCell]
            exact this _ _ _
          refine ⟨_, _, hrun, ⟨by rw [List.length_append, h.1, hl, Nat.add_mul], .inr ⟨g, off, cap, rfl, by rw [hsz']; exact hg, hroom, hcm, ?_, ?_⟩⟩, ⟨World.os_setCells _ _ _ _, ?_, World.output_setCells _ _ _ _, Nat.le_of_eq hsz'.symm, fun k hk hn => World.heap_setCells_other w g _ _ hk (fun e => hn (by rw [e]; rfl))⟩, .inl rfl⟩
          · intro j u hj
            by_cases hj1 : j < xs.length
            · rw [List.getElem?_append_left hj1] at hj
              rw [World.cell?_setCells_out g ys _ w ⟨g, off + j, none⟩ (fun _ _ => .inl (by have := h.1; dsimp only; omega))]
              exact hc j u hj
            · rw [List.getElem?_append_right (by omega)] at hj
              have hlt : j - xs.length < ys.length := (List.getElem?_eq_some_iff.1 hj).1
              have e : off + j = off + n * i.size + (j - xs.length) := by have := h.1; omega
              rw [e, World.cell?_setCells_in g ys _ w (fun j hj => (hin j hj).1) _ hlt]
              rw [List.getElem?_eq_getElem hlt] at hj
              exact hj
          · intro j hj
            exact ⟨World.isSome_setCells g ys _ w _ (hr j hj).1, (World.frozen?_setCells g ys _ w _).trans (hr j hj).2⟩
          · have : ∀ (l : List Value) (o : Nat) (w : World), (w.setCells g o l).tape = w.tape := by
              intro l
              induction l with
              | nil => intro o w; rfl
              | cons x r ih => intro o w; rw [World.setCells, ih]; simp [World.setCell]
            exact this _ _ _
        · obtain ⟨v', w', r1, r2, r3⟩ := run_append_arg_grows (P := Tryz.prog) w t ty e i z sz bytes ht hi hz hsize hby hzs hsz ⟨g, off, none⟩ n cap xs h.1 (fun j u hj => by rw [add_plain]; exact hc j u hj) ad m c ys hl hcell (by omega) h63 hbytes
          refine ⟨v', w', r1, seg_of_row r2, ⟨r3.os, r3.tape, r3.output, r3.size, fun k hk _ => r3.block k hk (by simp)⟩, ?_⟩
          cases hb : v'.ownBlock with
          | none =>
            exfalso
            rcases r2.2 with ⟨rfl, h2⟩ | ⟨g2, cap2, cur2, rfl, _⟩
            · omega
            · cases hb
          | some g2 => exact .inr ⟨g2, hb, (World.ownsRow.lt r2 g2 hb).1⟩

/-- x[1:] -/
theorem Seg.tail {w : World} {sz : Nat} (t : TypeId) (ht : Tryz.prog.underlying t = some (.slice (Tryz.prog.elem t))) (hsz : ∀ W, (sizeOf (Tryz.prog.elem t)).run Tryz.prog W = .ok sz W) {a : Option Addr} {n c : Nat} {xs : List Value} (h : Seg w sz (.slice a (n + 1) c) (n + 1) xs) :
    ∃ b c', (∀ W, (Instr.sliceAt t (.slice a (n + 1) c) (some (.int .i64 1)) none none).run Tryz.prog W = .ok (.slice b n c') W) ∧ (Value.slice b n c').ownBlock = (Value.slice a (n + 1) c).ownBlock ∧ Seg w sz (.slice b n c') n (xs.drop sz) := by
  have hn := h.1
  rcases h.2 with ⟨_, h0⟩ | ⟨g, off, cap, e', hg, hnc, hcm, hc, hr⟩
  · omega
  · cases e'
    have hn2 : (xs.drop sz).length = n * sz := by rw [List.length_drop, hn, Nat.add_mul]; omega
    have hrun : ∀ W, (Instr.sliceAt t (.slice (some ⟨g, off, none⟩) (n + 1) c) (some (.int .i64 1)) none none).run Tryz.prog W = .ok (.slice (if c = 1 then some ⟨g, off, none⟩ else some ⟨g, off + sz, none⟩) n (c - 1)) W := by
      intro W
      rw [run_sliceAt_slice W t _ _ _ _ ht, run_slice_l W t _ _ _ ht _ _ (by omega) (by omega), hsz]
      simp only [Result.andThen_ok, sliced]
      congr 2
      by_cases h1 : c = 1
      · simp [h1]
      · rw [if_neg h1, if_neg (by omega)]
        simp [Addr.add]
    by_cases h1 : c = 1
    · subst h1
      obtain rfl : n = 0 := by omega
      refine ⟨_, _, hrun, by simp [Value.ownBlock], hn2, .inr ⟨g, off, 0, by simp, hg, Nat.le_refl _, Nat.zero_le _, fun j u hj => ?_, fun j hj => by omega⟩⟩
      have : (xs.drop sz)[j]? = none := List.getElem?_eq_none (by omega)
      rw [this] at hj
      cases hj
    · refine ⟨_, _, hrun, by simp [Value.ownBlock, h1], hn2, .inr ⟨g, off + sz, c - 1, by simp [h1], hg, by omega, by omega, fun j u hj => ?_, fun j hj => ?_⟩⟩
      · rw [List.getElem?_drop] at hj
        rw [Nat.add_assoc]
        exact hc _ u hj
      · rw [Nat.add_assoc]
        refine hr (sz + j) ?_
        have : c * sz = (c - 1) * sz + sz := by rw [← Nat.succ_mul]; congr 1; omega
        omega

/-- append of things, onto a list that may begin anywhere -/
theorem run_segY {α : Type} (L : Lay α) (w : World) (ty : TypeId) (v : Value) (xs : List α) (h : Seg w L.k v xs.length (flatY L xs)) (sa : Option Addr) (m c : Nat) (ys : List α) (hB : SrcY L w sa m ys) (hbig : xs.length + ys.length ≤ 1000000000) :
    ∃ v' w', (Builtin.append_ #[L.t, L.t] ty #[v, .slice sa m c]).run Tryz.prog w = .ok v' w' ∧ Seg w' L.k v' (xs ++ ys).length (flatY L (xs ++ ys)) ∧ Keeps (fun k => v.ownBlock = some k) w w' ∧ AtB w v v' := by
  obtain ⟨i0, hi, hz0, hz1, hz2⟩ := info_parts L.info
  have hl := hB.1
  have hmul : (xs.length + m) * L.bys ≤ 1000000000 * 1000 := Nat.mul_le_mul (by omega) L.few
  obtain ⟨v', w', h1, h2, h3, h4⟩ := run_seg w L.t ty L.e i0 _ L.k L.bys L.und hi hz0 hz1 hz2 L.zs L.pos v xs.length _ h sa m c (flatY L ys) (by rw [flatY_length, hl]) (by
    rcases hB.2 with h0 | ⟨g, off, rfl, hg, hb⟩
    · exact .inl h0
    · exact .inr ⟨_, rfl, cellsY_add hb⟩) (flatY_one ys) (by unfold maxLen; omega) (by omega)
  exact ⟨v', w', h1, by rw [flatY_append, List.length_append, hl]; exact h2, h3, h4⟩

/-- .. x[1:] -/
theorem Seg.tailY {α : Type} (L : Lay α) {w : World} {a : Option Addr} {n c : Nat} {x : α} {xs : List α} (h : Seg w L.k (.slice a (n + 1) c) (n + 1) (flatY L (x :: xs))) :
    ∃ b c', (∀ W, (Instr.sliceAt L.t (.slice a (n + 1) c) (some (.int .i64 1)) none none).run Tryz.prog W = .ok (.slice b n c') W) ∧ (Value.slice b n c').ownBlock = (Value.slice a (n + 1) c).ownBlock ∧ Seg w L.k (.slice b n c') n (flatY L xs) := by
  have he : Tryz.prog.elem L.t = L.e := by unfold Program.elem; rw [L.und]
  obtain ⟨b, c', h1, h2, h3⟩ := h.tail L.t (by rw [he]; exact L.und) (fun W => sizeY L W)
  refine ⟨b, c', h1, h2, ?_⟩
  have : (flatY L (x :: xs)).drop L.k = flatY L xs := by
    show (L.cells x ++ flatY L xs).drop L.k = _
    rw [List.drop_append_of_le_length (by rw [L.len]; omega), List.drop_of_length_le (by rw [L.len]; omega), List.nil_append]
  rw [← this]
  exact h3

/-- .. and what it holds -/
theorem isY_cut {α : Type} (L : Lay α) {w : World} {a : Option Addr} {n c : Nat} {xs : List α} (h : IsY L w a n c xs) (k : Nat) (hk : k ≤ n) : ∃ b, (∀ W, (Instr.sliceAt L.t (.slice a n c) none (some (.int .i64 (k : Int))) none).run Tryz.prog W = .ok (.slice b k c) W) ∧ IsY L w b k c (xs.take k) := by
  have he : Tryz.prog.elem L.t = L.e := by unfold Program.elem; rw [L.und]
  refine ⟨if c = 0 then a else a.map (·.add (0 * L.k)), fun W => ?_, ?_⟩
  · have hlc := h.2.1
    rw [run_sliceAt_slice W L.t _ _ _ _ (by rw [he]; exact L.und), run_slice_h W L.t a n c (by rw [he]; exact L.und) _ _ (by omega) (by omega), sizeY L W]
    simp only [Result.andThen_ok, sliced, Int.toNat_natCast]
    congr 2
  · by_cases h0 : k = 0
    · subst h0
      exact ⟨by simp, Nat.zero_le _, h.2.2.1, .inl rfl⟩
    · obtain ⟨g, off, rfl, hg, hC⟩ := h.at (j := 0) (by omega)
      have hlc := h.2.1
      rw [if_neg (by omega)]
      have : (some (⟨g, off, none⟩ : Addr)).map (·.add (0 * L.k)) = some ⟨g, off, none⟩ := by
        simp only [Option.map_some, addY, Nat.zero_mul, Nat.add_zero]
      rw [this]
      exact h.take k c hk (by omega) h.2.2.1

end Go.Proofs.YtcgiicmmfleinaaGreatDoor
