/- slices.Insert of one version. slices.Insert of one version, all roads; what put makes of versions; the cell's put. The program's cell: put. -/
import Derived.Test.YtfldiapdfpkdaaaQsB
namespace Go.Proofs.Ytfldiapdfpkdaaa
open Go.RowKit NumMath Go.ChangeShapes Go.WideShapes Go.Deep
set_option linter.unusedVariables false
set_option maxRecDepth 100000

theorem flatY_ins {α : Type} (L : Lay α) (xs : List α) (i : Nat) (m : α) : flatY L (xs.take i ++ m :: xs.drop i) = flatY L (xs.take i) ++ L.cells m ++ flatY L (xs.drop i) := by
  rw [flatY_append]
  show _ ++ (L.cells m ++ flatY L (xs.drop i)) = _
  rw [List.append_assoc]

theorem wp_appR {ops : Array Oper} {rest : List Oper} {o : Oper} {a : Act} {Q : Exit → Act → World → Prop} (w : World) (hgd : o.guard = none) (d x : Operand) (t t' : TypeId)
    (ho : o.op = .call { callee := .builtin .append, args := #[d, x], argTypes := #[t, t'] }) (v u : Value) (hd : a.eval d = v) (hx : a.eval x = u) {v' : Value} {w' : World} (hr : (Builtin.append_ #[t, t'] o.type #[v, u]).run Try.prog w = .ok v' w')
    (h : wpList Try.prog ops Q rest (a.put o.dst v') w') : wpList Try.prog ops Q (o :: rest) a w := by
  refine wpList_plain hgd fun K hK => ?_
  unfold Oper.wp execOp
  simp only [ho, resolve, invoke, builtin, Sem.run_bind, Sem.run_pure, Result.andThen_ok, List.map_toArray, List.map_cons, List.map_nil, hd, hx, hr]
  exact hK _ _ h

/-- what Insert leaves -/
def InsPost (base : Nat) (w : World) (v : Value) (xs : List MV) (e : Ending) (w' : World) : Prop :=
  ∃ v', e = .returned v' ∧ OwnY layV w' base v' xs ∧ w.grownBy w' v.ownBlock ∧ AtB w v v'

set_option maxHeartbeats 1000000 in
/-- at the end -/
theorem insert_end (base : Nat) (w : World) (a : Option Addr) (n c : Nat) (xs : List MV) (h : OwnY layV w base (.slice a n c) xs) (hn : n ≤ 1000000) (hb : base ≤ w.heap.size) (vb : Nat) (m : MV) (hv : w.rangeAt vb 0 (layV.cells m)) (hvl : vb < w.heap.size) :
    Calls Try.prog 62 #[.slice a n c, .int .i64 n, .slice (some ⟨vb, 0, none⟩) 1 1] w fun e w' => InsPost base w (.slice a n c) (xs ++ [m]) e w' := by
  obtain ⟨hl, hnc, hcm⟩ := h.len
  obtain ⟨b, hrun, -, -⟩ := cutFromY layV h.is n 0 (c - n) (by omega) (by omega) .i64 (n : Int) rfl
  have hrun' : ∀ W, (Instr.sliceAt 50 (.slice a n c) (some (.int .i64 (n : Int))) none none).run Try.prog W = .ok (.slice b 0 (c - n)) W := hrun
  have H := hide h
  have HV := hide (srcY_one (L := layV) w m vb hvl hv)
  have HS : Hid (xs.length + [m].length ≤ 1000000000) := by show _ ≤ _; rw [hl]; simp; omega
  clear h hrun hv
  go_enter Try.func62, Try.ntmps62
  go_wp2_with (first
    | (at_builtin; go_must (refine wp_joinY layV _ rfl (.tmp 23) (.tmp 24) rfl base _ xs rfl H.out (some ⟨vb, 0, none⟩) 1 1 [m] rfl HV.out HS.out hb ?_); intro v1 w1 hown1 hg1 hat1))
  go_ret
  exact ⟨v1, rfl, hown1, hg1, hat1⟩

set_option maxHeartbeats 4000000 in
/-- in the middle, with room -/
theorem insert_room (base : Nat) (w : World) (g n cap : Nat) (xs : List MV) (h : OwnY layV w base (.slice (some ⟨g, 0, none⟩) n cap) xs) (hn : n ≤ 1000000) (i : Nat) (hi : i < n) (hroom : n + 1 ≤ cap) (vb : Nat) (m : MV) (hvb : w.heap[vb]? = some (.cells #[.int .u64 m.v.ts, .int .u64 m.v.tx, .bool m.v.dd, .slice m.va m.vn m.vc, .slice m.ka m.kn m.kc] 36 (0, 0))) (hne : vb ≠ g) :
    Calls Try.prog 62 #[.slice (some ⟨g, 0, none⟩) n cap, .int .i64 i, .slice (some ⟨vb, 0, none⟩) 1 1] w fun e w' => InsPost base w (.slice (some ⟨g, 0, none⟩) n cap) (xs.take i ++ m :: xs.drop i) e w' := by
  obtain ⟨cur, rest, hg, hbg, hnc, hcm, hcur, hlen, hl⟩ := h.open
  have hcapI : (cap : Int) ≤ 9223372036854775807 := by unfold maxLen at hcm; omega
  obtain ⟨A, hA⟩ : ∃ A, A = flatY layV (xs.take i) := ⟨_, rfl⟩
  obtain ⟨B, hB⟩ : ∃ B, B = flatY layV (xs.drop i) := ⟨_, rfl⟩
  have hAl : A.length = i * 5 := by rw [hA, flatY_length, List.length_take]; show min i xs.length * 5 = _; omega
  have hBl : B.length = (n - i) * 5 := by rw [hB, flatY_length, List.length_drop, hl]; rfl
  rw [flatY_cut layV xs i, ← hA, ← hB] at hcur hlen
  rw [List.length_append, hAl, hBl] at hlen
  have hlen' : i * 5 + (n - i) * 5 + rest.length = cap * 5 := hlen
  obtain ⟨S, T, hST, hSl⟩ : ∃ S T, rest = S ++ T ∧ S.length = 5 := ⟨rest.take 5, rest.drop 5, (List.take_append_drop _ _).symm, by rw [List.length_take]; omega⟩
  rw [hST, ← List.append_assoc] at hcur
  have hTl : S.length + T.length = rest.length := by rw [hST, List.length_append]
  have hone : ∀ u ∈ B, u.oneCell' = true := by rw [hB]; exact flatY_one _
  have hM5 : (layV.cells m).length = 5 := rfl
  have hcl : cur.size = cap * 5 := by rw [← Array.length_toList, hcur]; simp only [List.length_append]; omega
  -- the first copy
  obtain ⟨C1, hC1⟩ : ∃ C1 : Array Value, C1 = (cur.toList.take (i * 5 + 5) ++ B ++ cur.toList.drop (i * 5 + 5 + B.length)).toArray := ⟨_, rfl⟩
  have hcp1 : ∀ (W : World) ty dc sc, W.heap[g]? = some (.cells cur 36 (0, 0)) → (Builtin.copy_ #[50, 50] ty #[.slice (some ⟨g, (i + 1) * 5, none⟩) (n - i) dc, .slice (some ⟨g, i * 5, none⟩) (n + 1 - i) sc]).run Try.prog W = .ok (goInt ((n - i : Nat) : Int)) (W.setRow g C1) := fun W ty dc sc hW => by
    have hmin : Nat.min (n + 1 - i) (n - i) = n - i := by simp only [Nat.min_def]; split <;> omega
    have := run_copyR layV W ty g ((i + 1) * 5) (n - i) dc ⟨g, i * 5, none⟩ (n + 1 - i) sc cur 36 B hW (by rw [hBl, hmin]; rfl) (fun j v hj => by
      rw [addY, cells_row hW, ← Array.getElem?_toList, hcur]
      have hj2 := (List.getElem?_eq_some_iff.1 hj).1
      have e : A ++ B ++ S ++ T = A ++ (B ++ (S ++ T)) := by simp
      rw [e, List.getElem?_append_right (by omega), List.getElem?_append_left (by omega)]
      rw [show i * 5 + j - A.length = j by omega]
      exact hj) (by rw [hcl, hBl]; omega) hone
    rw [hmin] at this
    rw [show (i + 1) * 5 = i * 5 + 5 by omega] at this ⊢
    rw [hC1]; exact this
  obtain ⟨C2, hC2⟩ : ∃ C2 : Array Value, C2 = (C1.toList.take (i * 5) ++ layV.cells m ++ C1.toList.drop (i * 5 + 5)).toArray := ⟨_, rfl⟩
  have hC1l : C1.size = cap * 5 := by rw [hC1]; simp only [List.size_toArray, List.length_append, List.length_take, List.length_drop, Array.length_toList]; omega
  have hcp2 : ∀ (W : World) ty dc, W.heap[g]? = some (.cells C1 36 (0, 0)) → W.heap[vb]? = w.heap[vb]? → (Builtin.copy_ #[50, 50] ty #[.slice (some ⟨g, i * 5, none⟩) (n + 1 - i) dc, .slice (some ⟨vb, 0, none⟩) 1 1]).run Try.prog W = .ok (goInt 1) (W.setRow g C2) := fun W ty dc hW hWv => by
    have hmin : Nat.min 1 (n + 1 - i) = 1 := by simp only [Nat.min_def]; split <;> omega
    have := run_copyR layV W ty g (i * 5) (n + 1 - i) dc ⟨vb, 0, none⟩ 1 1 C1 36 (layV.cells m) hW (by rw [hmin]; rfl) (fun j v hj => by
      rw [addY, cells_row (hWv.trans hvb), Nat.zero_add]
      rw [← List.getElem?_toArray] at hj
      exact hj) (by rw [hC1l, hM5]; omega) (layV.one m)
    rw [hmin, hM5] at this
    rw [hC2]; exact this
  have hfin : C2.toList = A ++ layV.cells m ++ B ++ T := by
    have := row_moved A B S T (layV.cells m) (by rw [hSl]; rfl)
    rw [hAl, hM5, ← hcur] at this
    rw [hC2, hC1]
    exact this
  have hov : ∀ lb cb, (callFunc 71 #[.slice (some ⟨vb, 0, none⟩) 1 1, .slice (some ⟨g, (i + 1) * 5, none⟩) lb cb]).run Try.prog w = .ok (.value (.bool false)) w := fun lb cb => by
    obtain ⟨i0, hi0, _, hz1, _⟩ := info_parts layV.info
    have hz : ∀ w, (Go.sizeOf 36).run Try.prog w = .ok 5 w := fun w => by simp [sizeOf, typeInfo, show Try.prog.info? 36 = some i0 from hi0, show i0.size = 5 from hz1]
    rw [run_callFunc_extern Try.func71 (by kernel_rfl) (by kernel_rfl) (by kernel_rfl) (e := Extern.SlicesOverlaps.overlaps #[50, 50] #[4]) (by kernel_rfl),
      Lib.run_overlaps_apart w 50 4 36 Try.underlying50 5 hz ⟨vb, 0, none⟩ ⟨g, (i + 1) * 5, none⟩ 1 1 lb cb hne 36 36 5 (cap * 5) (by simp [World.shape?, hvb]) (by simp [World.shape?, hg, hcl]; rfl) (by omega) (by simp [World.frozen?, hvb]) (by simp [World.frozen?, hvb])]
    rfl
  have HC1 := hide hcp1
  have HC2 := hide hcp2
  have HF := hide hfin
  have HG := hide hg
  have HVb := hide hvb
  have HSh : Hid (∀ W : World, W.heap[g]? = some (.cells C2 36 (0, 0)) → OwnY layV W base (.slice (some ⟨g, 0, none⟩) (n + 1) cap) (xs.take i ++ m :: xs.drop i)) := fun W hW => by
    have hln : (xs.take i ++ m :: xs.drop i).length = n + 1 := by simp only [List.length_append, List.length_cons, List.length_take, List.length_drop]; omega
    have e1 : C2.toList = flatY layV (xs.take i ++ m :: xs.drop i) ++ T := by rw [hfin, flatY_ins, ← hA, ← hB]
    have := OwnY.shut (L := layV) (xs := xs.take i ++ m :: xs.drop i) (cap := cap) (rest := T) hW hbg (by omega) hcm e1 (by rw [flatY_length, hln]; show (n + 1) * 5 + T.length = cap * 5; omega)
    rw [hln] at this
    exact this
  clear h hcp1 hcp2 hfin hg hvb hC1 hC2 hA hB hcur hone hAl hBl hlen hlen' hST hTl hSl hM5 hcl hC1l
  have hz2 : ((i : Int) == (n : Int)) = false := by simp; omega
  have hz2' : ¬ ((i : Int) = (n : Int)) := by omega
  have hz3 : ¬ ((cap : Int) < (n : Int) + 1) := by omega
  have hb1 : (i : Int) + 1 ≤ (n : Int) + 1 := by omega
  have hb3 : (i : Int) ≤ (n : Int) + 1 := by omega
  have hb4 : ¬ (cap = i) := by omega
  have hb5 : ¬ (cap = i + 1) := by omega
  have hb6 : (i : Int) ≤ (n : Int) := by omega
  have hw1 : IntKind.i64.wrap ((i : Int) + 1) = (i : Int) + 1 := by rw [IntKind.wrap_i64]; omega
  have hb7 : (0 : Int) ≤ (i : Int) + 1 := by omega
  have htn : ((i : Int) + 1).toNat = i + 1 := by omega
  go_enter Try.func62, Try.ntmps62
  go_wp2_with (simp only [hov])
  have hr1 := HC1.out w.drew 3 (cap - (i + 1)) (cap - i) HG.out
  go_region_with fail
  have hr2 := HC2.out (w.drew.setRow g C1) 3 (cap - i) (setRow_heap _ _ _ _ _ _ HG.out) (setRow_other _ _ _ _ hne)
  all_goals
    go_wp2
    go_ret
    refine ⟨_, rfl, HSh.out _ (by exact setRow_heap _ _ _ _ _ _ (setRow_heap _ _ _ _ _ _ HG.out)), ?_, .inl rfl⟩
    exact grown_then (grown_then grown_drew (grown_setRow C1)) (grown_setRow C2)

set_option maxHeartbeats 4000000 in
/-- in the middle, without room -/
theorem insert_grow (base : Nat) (w : World) (g n : Nat) (xs : List MV) (h : OwnY layV w base (.slice (some ⟨g, 0, none⟩) n n) xs) (hb : base ≤ w.heap.size) (hn : n ≤ 1000000) (i : Nat) (hi : i < n) (vb : Nat) (m : MV) (hvb : w.heap[vb]? = some (.cells #[.int .u64 m.v.ts, .int .u64 m.v.tx, .bool m.v.dd, .slice m.va m.vn m.vc, .slice m.ka m.kn m.kc] 36 (0, 0))) :
    Calls Try.prog 62 #[.slice (some ⟨g, 0, none⟩) n n, .int .i64 i, .slice (some ⟨vb, 0, none⟩) 1 1] w fun e w' => InsPost base w (.slice (some ⟨g, 0, none⟩) n n) (xs.take i ++ m :: xs.drop i) e w' := by
  obtain ⟨cur, rest, hg, hbg, -, hcm, hcur, hlen, hl⟩ := h.open
  obtain ⟨A, hA⟩ : ∃ A, A = flatY layV (xs.take i) := ⟨_, rfl⟩
  obtain ⟨B, hB⟩ : ∃ B, B = flatY layV (xs.drop i) := ⟨_, rfl⟩
  have hAl : A.length = i * 5 := by rw [hA, flatY_length, List.length_take]; show min i xs.length * 5 = _; omega
  have hBl : B.length = (n - i) * 5 := by rw [hB, flatY_length, List.length_drop, hl]; rfl
  rw [flatY_cut layV xs i, ← hA, ← hB] at hcur hlen
  have hone : ∀ u ∈ B, u.oneCell' = true := by rw [hB]; exact flatY_one _
  have hM5 : (layV.cells m).length = 5 := rfl
  have hgl : g < w.heap.size := (Array.getElem?_eq_some_iff.1 hg).1
  have hvl : vb < w.heap.size := (Array.getElem?_eq_some_iff.1 hvb).1
  obtain ⟨i0, hi0, hz0, hz1, hz2⟩ := info_parts layV.info
  have hsz : i0.size = 5 := hz1
  have hby : i0.bytes = 72 := hz2
  have hcA : ∀ (W : World), W.heap[g]? = w.heap[g]? → ∀ j v, A[j]? = some v → W.cell? ⟨g, j, none⟩ = some v := fun W hW j v hj => by
    rw [cells_row (hW.trans hg), ← Array.getElem?_toList, hcur]
    have hj2 := (List.getElem?_eq_some_iff.1 hj).1
    rw [List.append_assoc, List.getElem?_append_left hj2]
    exact hj
  have hcB : ∀ (W : World), W.heap[g]? = w.heap[g]? → ∀ j v, B[j]? = some v → W.cell? ⟨g, i * 5 + j, none⟩ = some v := fun W hW j v hj => by
    rw [cells_row (hW.trans hg), ← Array.getElem?_toList, hcur]
    have hj2 := (List.getElem?_eq_some_iff.1 hj).1
    rw [List.append_assoc, List.getElem?_append_right (by omega), List.getElem?_append_left (by omega), show i * 5 + j - A.length = j by omega]
    exact hj
  have hold : (Builtin.firstCells i0.size i (.slice (some ⟨g, 0, none⟩) i n)).run Try.prog w.drew = .ok A.toArray w.drew := by
    rw [hsz]
    exact run_firstCells_some w.drew 5 i ⟨g, 0, none⟩ i n A hAl (fun j v hj => by rw [addY, Nat.zero_add]; exact hcA w.drew rfl j v hj)
  obtain ⟨G, hG⟩ : ∃ G, G = grownCap w (n + 1) n layV.e := ⟨_, rfl⟩
  have hGge : n + 1 ≤ G := by rw [hG]; exact grownCap_ge w (n + 1) n _
  have hGle : G ≤ maxLen := by rw [hG]; exact grownCap_le_maxLen w (n + 1) n _ (by unfold maxLen; omega)
  obtain ⟨Z, hZ⟩ : ∃ Z, Z = (Builtin.zeroCells layV.z.cells (n + 1 - i)).toList := ⟨_, rfl⟩
  obtain ⟨T, hT⟩ : ∃ T, T = (Builtin.zeroCells layV.z.cells (G - (n + 1))).toList := ⟨_, rfl⟩
  have hZl : Z.length = (n + 1 - i) * 5 := by rw [hZ, Array.length_toList, size_zeroCells, layV.zs]; rfl
  have hTl : T.length = (G - (n + 1)) * 5 := by rw [hT, Array.length_toList, size_zeroCells, layV.zs]; rfl
  obtain ⟨R, hR⟩ : ∃ R : Array Value, R = A.toArray ++ Builtin.zeroCells layV.z.cells (n + 1 - i) ++ Builtin.zeroCells layV.z.cells (G - (n + 1)) := ⟨_, rfl⟩
  have hRl : R.toList = A ++ Z ++ T := by rw [hR, hZ, hT]; simp
  have hrz : ∀ ty, (Builtin.append_ #[50, 3] ty #[.slice (some ⟨g, 0, none⟩) i n, .int .i64 ((n : Int) + 1 - (i : Int))]).run Try.prog w = .ok (.slice (some ⟨w.heap.size, 0, none⟩) (n + 1) G) (w.drew.alloc (.cells R 36)) := fun ty => by
    have hik : i + (n + 1 - i) = n + 1 := by omega
    have h := Lib.run_append_grow_zeros (P := Try.prog) w layV.t 3 ty layV.e i0 _ .i64 .i64 layV.und Try.underlying3 hi0 hz0 (some ⟨g, 0, none⟩) i n A hold (n + 1 - i) (by omega) (by omega) (by omega) (by omega) (by rw [hby]; omega) (by rw [hby, hik]; exact growslice_fits (by omega) (by omega))
    rw [hik, ← hG, ← hR] at h
    rw [show (n : Int) + 1 - (i : Int) = ((n + 1 - i : Nat) : Int) by omega]
    exact h
  have hgN : ¬ g = w.heap.size := by omega
  -- the first copy: the new one
  obtain ⟨C1, hC1⟩ : ∃ C1 : Array Value, C1 = (R.toList.take (i * 5) ++ layV.cells m ++ R.toList.drop (i * 5 + 5)).toArray := ⟨_, rfl⟩
  have hRs : R.size = G * 5 := by rw [← Array.length_toList, hRl]; simp only [List.length_append]; omega
  have hcp1 : ∀ (W : World) ty dc, W.heap[w.heap.size]? = some (.cells R 36 (0, 0)) → W.heap[vb]? = w.heap[vb]? → (Builtin.copy_ #[50, 50] ty #[.slice (some ⟨w.heap.size, i * 5, none⟩) (n + 1 - i) dc, .slice (some ⟨vb, 0, none⟩) 1 1]).run Try.prog W = .ok (goInt 1) (W.setRow w.heap.size C1) := fun W ty dc hW hWv => by
    have hmin : Nat.min 1 (n + 1 - i) = 1 := by simp only [Nat.min_def]; split <;> omega
    have := run_copyR layV W ty w.heap.size (i * 5) (n + 1 - i) dc ⟨vb, 0, none⟩ 1 1 R 36 (layV.cells m) hW (by rw [hmin]; rfl) (fun j v hj => by
      rw [addY, cells_row (hWv.trans hvb), Nat.zero_add]
      rw [← List.getElem?_toArray] at hj
      exact hj) (by rw [hRs, hM5]; omega) (layV.one m)
    rw [hmin, hM5] at this
    rw [hC1]; exact this
  obtain ⟨C2, hC2⟩ : ∃ C2 : Array Value, C2 = (C1.toList.take (i * 5 + 5) ++ B ++ C1.toList.drop (i * 5 + 5 + B.length)).toArray := ⟨_, rfl⟩
  have hC1s : C1.size = G * 5 := by rw [hC1]; simp only [List.size_toArray, List.length_append, List.length_take, List.length_drop, Array.length_toList]; omega
  have hcp2 : ∀ (W : World) ty dc sc, W.heap[w.heap.size]? = some (.cells C1 36 (0, 0)) → W.heap[g]? = w.heap[g]? → (Builtin.copy_ #[50, 50] ty #[.slice (some ⟨w.heap.size, (i + 1) * 5, none⟩) (n - i) dc, .slice (some ⟨g, i * 5, none⟩) (n - i) sc]).run Try.prog W = .ok (goInt ((n - i : Nat) : Int)) (W.setRow w.heap.size C2) := fun W ty dc sc hW hWg => by
    have hmin : Nat.min (n - i) (n - i) = n - i := Nat.min_self _
    have := run_copyR layV W ty w.heap.size ((i + 1) * 5) (n - i) dc ⟨g, i * 5, none⟩ (n - i) sc C1 36 B hW (by rw [hBl, hmin]; rfl) (fun j v hj => by rw [addY]; exact hcB W hWg j v hj) (by rw [hC1s, hBl]; omega) hone
    rw [hmin] at this
    rw [show (i + 1) * 5 = i * 5 + 5 by omega] at this ⊢
    rw [hC2]; exact this
  have hfin : C2.toList = A ++ layV.cells m ++ B ++ T := by
    have e1 : C1.toList = A ++ layV.cells m ++ (Z.drop 5 ++ T) := by
      rw [hC1, hRl]
      show ((A ++ Z ++ T).take (i * 5) ++ layV.cells m ++ (A ++ Z ++ T).drop (i * 5 + 5)) = _
      rw [List.append_assoc A Z T, List.take_append_of_le_length (by omega), List.take_of_length_le (by omega), ← hAl, ← List.drop_drop, List.drop_left, List.drop_append_of_le_length (by omega)]
    have hl5 : (A ++ layV.cells m).length = i * 5 + 5 := by rw [List.length_append, hAl, hM5]
    rw [hC2, e1]
    show (A ++ layV.cells m ++ (Z.drop 5 ++ T)).take (i * 5 + 5) ++ B ++ (A ++ layV.cells m ++ (Z.drop 5 ++ T)).drop (i * 5 + 5 + B.length) = _
    rw [← hl5, List.take_left, ← List.drop_drop, List.drop_left, List.drop_append_of_le_length (by rw [List.length_drop]; omega), List.drop_of_length_le (by rw [List.length_drop]; omega)]
    rfl
  have HSh : Hid (∀ W : World, W.heap[w.heap.size]? = some (.cells C2 36 (0, 0)) → OwnY layV W base (.slice (some ⟨w.heap.size, 0, none⟩) (n + 1) G) (xs.take i ++ m :: xs.drop i)) := fun W hW => by
    have hln : (xs.take i ++ m :: xs.drop i).length = n + 1 := by simp only [List.length_append, List.length_cons, List.length_take, List.length_drop]; omega
    have e1 : C2.toList = flatY layV (xs.take i ++ m :: xs.drop i) ++ T := by rw [hfin, flatY_ins, ← hA, ← hB]
    have := OwnY.shut (L := layV) (xs := xs.take i ++ m :: xs.drop i) (cap := G) (rest := T) hW hb (by omega) hGle e1 (by rw [flatY_length, hln]; show (n + 1) * 5 + T.length = G * 5; omega)
    rw [hln] at this
    exact this
  have hGI : (G : Int) ≤ 9223372036854775807 := by unfold maxLen at hGle; omega
  obtain ⟨W1, hW1⟩ : ∃ W1, W1 = w.drew.alloc (.cells R 36) := ⟨_, rfl⟩
  rw [← hW1] at hrz
  have n1 : W1.heap[w.heap.size]? = some (.cells R 36 (0, 0)) := by rw [hW1]; exact heap_alloc_new w.drew _
  have o1 : ∀ k, k < w.heap.size → W1.heap[k]? = w.heap[k]? := fun k hk => by rw [hW1]; exact (new_below w.drew _).block k hk
  have hr1 := hcp1 W1 3 (G - i) n1 (o1 vb hvl)
  have n2 : (W1.setRow w.heap.size C1).heap[w.heap.size]? = some (.cells C1 36 (0, 0)) := setRow_heap _ _ _ _ _ _ n1
  have o2 : ∀ k, k < w.heap.size → (W1.setRow w.heap.size C1).heap[k]? = w.heap[k]? := fun k hk => (setRow_other _ _ _ _ (by omega)).trans (o1 k hk)
  have hg1 : w.grownBy W1 none := ⟨by rw [hW1]; rfl, by rw [hW1]; rfl, by rw [hW1]; rfl, by rw [hW1]; simp, fun k hk _ => o1 k hk⟩
  obtain ⟨W2, hW2⟩ : ∃ W2, W2 = W1.setRow w.heap.size C1 := ⟨_, rfl⟩
  rw [← hW2] at hr1 n2 o2
  have hg2 : w.grownBy W2 none := by rw [hW2]; exact ⟨hg1.os, hg1.tape, hg1.output, by simpa using hg1.size, fun k hk _ => by rw [← hW2]; exact o2 k hk⟩
  have hr2 := hcp2 W2.drew 3 (G - (i + 1)) (n - i) n2 (o2 g hgl)
  have HG2 := hide hg2
  have HO2 := hide o2
  have HN2 := hide n2
  have HGl := hide hGge
  clear h hcp1 hcp2 hfin hg hvb hC1 hC2 hA hB hcur hone hAl hBl hlen hM5 hRl hRs hC1s hZ hT hZl hTl hR hG hW1 hW2 n1 o1 n2 o2 hg1 hg2 hcA hcB hold hi0 hz0 hz1 hz2 hsz hby hGle hGge
  have hz2 : ((i : Int) == (n : Int)) = false := by simp; omega
  have hz2' : ¬ ((i : Int) = (n : Int)) := by omega
  have hz3 : ((n : Int) < (n : Int) + 1) := by omega
  have hb1 : (i : Int) + 1 ≤ (n : Int) + 1 := by omega
  have hb3 : (i : Int) ≤ (n : Int) + 1 := by omega
  have hGl := HGl.out
  have hb4 : ¬ (G = i) := by omega
  have hb5 : ¬ (G = i + 1) := by omega
  have hb8 : ¬ (n = i) := by omega
  have hb6 : (i : Int) ≤ (n : Int) := by omega
  have hw1 : IntKind.i64.wrap ((i : Int) + 1) = (i : Int) + 1 := by rw [IntKind.wrap_i64]; omega
  have hb7 : (0 : Int) ≤ (i : Int) + 1 := by omega
  have htn : ((i : Int) + 1).toNat = i + 1 := by omega
  clear hGl
  go_enter Try.func62, Try.ntmps62
  go_wp2_with (at_builtin; refine wp_appR _ rfl (.tmp 34) (.tmp 39) 50 3 rfl _ _ rfl rfl (hrz _) ?_)
  go_region_with fail
  all_goals
    go_wp2
    go_ret
    refine ⟨_, rfl, HSh.out _ (by exact setRow_heap _ _ _ _ _ _ HN2.out), ?_, .inr ⟨_, rfl, Nat.le_refl _⟩⟩
    exact ⟨HG2.out.os, HG2.out.tape, HG2.out.output, by simpa using HG2.out.size, fun k hk _ => (setRow_other _ _ _ _ (by omega)).trans (HO2.out k hk)⟩

end Go.Proofs.Ytfldiapdfpkdaaa

namespace Go.Proofs.Ytfldiapdfpkdaaa
open Go.RowKit NumMath Go.ChangeShapes Go.WideShapes Go.Deep
set_option linter.unusedVariables false
set_option maxRecDepth 100000

theorem insert_any (base : Nat) (w : World) (v : Value) (xs : List MV) (h : OwnY layV w base v xs) (hn : xs.length ≤ 1000000) (hb : base ≤ w.heap.size) (i : Nat) (hi : i ≤ xs.length) (vb : Nat) (m : MV) (hvb : w.heap[vb]? = some (.cells #[.int .u64 m.v.ts, .int .u64 m.v.tx, .bool m.v.dd, .slice m.va m.vn m.vc, .slice m.ka m.kn m.kc] 36 (0, 0))) (hne : v.ownBlock ≠ some vb) :
    Calls Try.prog 62 #[v, .int .i64 i, .slice (some ⟨vb, 0, none⟩) 1 1] w fun e w' => InsPost base w v (xs.take i ++ m :: xs.drop i) e w' := by
  have hvl : vb < w.heap.size := (Array.getElem?_eq_some_iff.1 hvb).1
  have hr : w.rangeAt vb 0 (layV.cells m) := fun j u hu => by
    rw [Nat.zero_add, cells_row hvb]
    rw [← List.getElem?_toArray] at hu
    exact hu
  obtain ⟨a, n, c, rfl, hl, hnc, hcm⟩ := h.any4
  by_cases he : i = n
  · subst he
    have e1 : xs.take i ++ m :: xs.drop i = xs ++ [m] := by rw [List.take_of_length_le (by omega), List.drop_of_length_le (by omega)]
    rw [e1]
    exact insert_end base w a i c xs h (by omega) hb vb m hr hvl
  · rcases h.form with ⟨e, e0⟩ | ⟨g, cap, e, hg1, hg2, hc, hm, _⟩
    · rw [e0] at hi hl; simp at hi hl; omega
    · simp only [Value.slice.injEq] at e
      obtain ⟨rfl, h2, rfl⟩ := e
      by_cases hroom : n + 1 ≤ c
      · exact insert_room base w g n c xs h (by omega) i (by omega) hroom vb m hvb (fun e => hne (by rw [e]; rfl))
      · obtain rfl : c = n := by omega
        exact insert_grow base w g c xs h hb (by omega) i (by omega) vb m hvb

theorem take_pos {α : Type} (tv : α → Int) (ts : Int) (vs : List α) : vs.take (posV tv ts vs) = vs.takeWhile (fun x => decide (ts < tv x)) := by
  unfold posV
  conv => lhs; rw [← List.takeWhile_append_dropWhile (p := fun x => decide (ts < tv x)) (l := vs)]
  rw [List.takeWhile_append_dropWhile]
  conv => lhs; arg 2; rw [← List.takeWhile_append_dropWhile (p := fun x => decide (ts < tv x)) (l := vs)]
  exact List.take_left

theorem drop_pos {α : Type} (tv : α → Int) (ts : Int) (vs : List α) : vs.drop (posV tv ts vs) = vs.dropWhile (fun x => decide (ts < tv x)) := by
  unfold posV
  conv => lhs; arg 2; rw [← List.takeWhile_append_dropWhile (p := fun x => decide (ts < tv x)) (l := vs)]
  exact List.drop_left

/-- in the place of one of the same time -/
theorem put_same {α : Type} (tv : α → Int) (m : α) (vs : List α) (hd : Desc tv vs) (x : α) (hx : vs[posV tv (tv m) vs]? = some x) (e : tv x = tv m) : vs.set (posV tv (tv m) vs) m = putP tv m vs := by
  rw [putP_eq, ← take_pos, ← drop_pos]
  have hP := (List.getElem?_eq_some_iff.1 hx).1
  have hdr : vs.drop (posV tv (tv m) vs) = x :: vs.drop (posV tv (tv m) vs + 1) := by
    rw [List.drop_eq_getElem_cons hP]
    congr 1
    exact (List.getElem?_eq_some_iff.1 hx).2
  have hd2 : Desc tv (x :: vs.drop (posV tv (tv m) vs + 1)) := by rw [← hdr]; exact hd.sublist (List.drop_sublist _ _)
  unfold Desc at hd2
  rw [List.pairwise_cons] at hd2
  rw [hdr, List.filter_cons, if_neg (by simp [e]), List.filter_eq_self.2 (fun y hy => by have := hd2.1 y hy; simp; omega)]
  rw [List.set_eq_take_append_cons_drop, if_pos hP]

/-- between others -/
theorem put_between {α : Type} (tv : α → Int) (m : α) (vs : List α) (hd : Desc tv vs) (h : ∀ x, vs[posV tv (tv m) vs]? = some x → tv x ≠ tv m) : vs.take (posV tv (tv m) vs) ++ m :: vs.drop (posV tv (tv m) vs) = putP tv m vs := by
  rw [putP_eq, ← take_pos, ← drop_pos]
  congr 2
  symm
  rw [List.filter_eq_self]
  intro y hy
  obtain ⟨j, hj, rfl⟩ := List.getElem_of_mem hy
  rw [List.getElem_drop]
  have hlt : posV tv (tv m) vs + j < vs.length := by rw [List.length_drop] at hj; omega
  have h1 := posV_ge tv (tv m) vs hd (posV tv (tv m) vs + j) _ (List.getElem?_eq_getElem hlt) (by omega)
  by_cases hj0 : j = 0
  · subst hj0
    have := h _ (List.getElem?_eq_getElem (by omega))
    simpa using this
  · have hP : posV tv (tv m) vs < vs.length := by omega
    have h2 := posV_ge tv (tv m) vs hd (posV tv (tv m) vs) _ (List.getElem?_eq_getElem hP) (Nat.le_refl _)
    have h3 := List.pairwise_iff_getElem.1 hd (posV tv (tv m) vs) (posV tv (tv m) vs + j) hP hlt (by omega)
    simp
    omega

def PC.blk (m : PC) (k : Nat) : Prop := k = m.b ∨ m.vv.ownBlock = some k

/-- the cell is turned into another one of the same key at the same place; its own blocks alone were changed -/
structure CPost (base : Nat) (w : World) (m m' : PC) (w' : World) : Prop where
  is : m'.is base w'
  kp : Keeps m.blk w w'
  nw : ∀ k, m'.blk k → m.blk k ∨ w.heap.size ≤ k

theorem wp_load5 {w : World} {g o : Nat} {m : MV} (h : w.rangeAt g o (layV.cells m)) : (Instr.loadAt 36 (.pointer (some ⟨g, o, none⟩))).run Try.prog w = .ok (.agg #[.int .u64 m.v.ts, .int .u64 m.v.tx, .bool m.v.dd, .slice m.va m.vn m.vc, .slice m.ka m.kn m.kc]) w :=
  run_loadY layV w g o m _ Try.underlying36 rfl h

end Go.Proofs.Ytfldiapdfpkdaaa

namespace Go.Proofs.Ytfldiapdfpkdaaa
open Go.RowKit NumMath Go.ChangeShapes Go.WideShapes Go.Deep
set_option linter.unusedVariables false
set_option maxRecDepth 100000

theorem PC.is.lies {base : Nat} {w w' : World} {m : PC} {M : Nat → Prop} (h : m.is base w) (hk : Keeps M w w') (hn : ∀ k, m.blk k → ¬ M k) : m.is base w' :=
  ⟨rangeY_same h.r (hk.block m.b h.lt (hn _ (.inl rfl))), fun j => (World.frozen?_of_block (a := ⟨m.b, j, none⟩) (hk.block m.b h.lt (hn _ (.inl rfl)))).trans (h.fz j), h.lo, Nat.lt_of_lt_of_le h.lt hk.size, h.own.lies (fun g hg => hk.block g (h.own.lt g hg).2 (hn _ (.inr hg))), h.ne⟩

/-- another list of versions -/
theorem PC.is.setVs {base : Nat} {w w' : World} {m : PC} (h : m.is base w) (vv : Value) (vs : List MV) (hk : Keeps (fun k => k = m.b) w w') (hw : w' = w.setCell ⟨m.b, 0, none⟩ vv) (ho : OwnY layV w base vv vs) (hne : vv.ownBlock ≠ some m.b) : PC.is base w' { m with vv := vv, vs := vs } := by
  subst hw
  refine ⟨?_, fun j => by rw [World.frozen?_setCell]; exact h.fz j, h.lo, Nat.lt_of_lt_of_le h.lt hk.size, ho.lies (fun g hg => hk.block g (ho.lt g hg).2 (fun e => hne (by rw [hg, e]))), hne⟩
  exact range_set h.r (by simp)

/-- one version in the place of another -/
theorem PC.is.setOne {base : Nat} {w : World} {m : PC} (h : m.is base w) {g n c i : Nat} (hv : m.vv = .slice (some ⟨g, 0, none⟩) n c) {x : MV} (hx : m.vs[i]? = some x) (mv : MV) : PC.is base (w.setCells g (i * 5) (layV.cells mv)) { m with vs := m.vs.set i mv } ∧ Keeps m.blk w (w.setCells g (i * 5) (layV.cells mv)) := by
  have hk := keepsYs w g (i * 5) (layV.cells mv)
  have hgb : m.vv.ownBlock = some g := by rw [hv]; rfl
  have hne : ¬ m.b = g := fun e => h.ne (by rw [hgb, e])
  have ho := h.own
  rw [hv] at ho
  have ho2 := ho.setV hx mv
  rw [← hv] at ho2
  exact ⟨⟨rangeY_same h.r (hk.block m.b h.lt hne), fun j => (World.frozen?_of_block (a := ⟨m.b, j, none⟩) (hk.block m.b h.lt hne)).trans (h.fz j), h.lo, Nat.lt_of_lt_of_le h.lt hk.size, ho2, h.ne⟩, Keeps.wider hk (fun k e => .inr (by rw [e]; exact hgb))⟩

/-- behind Insert and the store of its answer -/
theorem ins_post {base : Nat} {w w2 W w3 : World} {m : PC} {xs : List MV} (h : m.is base w) (hb : base ≤ w.heap.size) (h2 : Below w.heap.size w w2) (hW : Below w2.heap.size w2 W) {a : Option Addr} {n c : Nat} (ho : OwnY layV w3 base (.slice a n c) xs) (hg : W.grownBy w3 m.vv.ownBlock) (hat : AtB W m.vv (.slice a n c)) :
    CPost base w m { m with vv := .slice a n c, vs := xs } (w3.setCell ⟨m.b, 0, none⟩ (.slice a n c)) := by
  have hwW : Below w.heap.size w W := h2.trans (hW.mono h2.size)
  have hk3 : Keeps m.blk w w3 := by
    refine ⟨hg.os.trans hwW.os, hg.tape.trans hwW.tape, hg.output.trans hwW.output, Nat.le_trans hwW.size hg.size, fun k hk hn => ?_⟩
    exact (hg.block k (Nat.lt_of_lt_of_le hk hwW.size) (fun e => hn (.inr e.symm))).trans (hwW.block k hk)
  have hmb : w3.heap[m.b]? = w.heap[m.b]? := by
    refine (hg.block m.b (Nat.lt_of_lt_of_le h.lt hwW.size) (fun e => h.ne e.symm)).trans (hwW.block m.b h.lt)
  have hne : (Value.slice a n c).ownBlock ≠ some m.b := by
    rcases hat with e | ⟨k, e, hk⟩
    · rw [e]; exact h.ne
    · rw [e]; intro e2; have := Option.some.inj e2; have := h.lt; have := hwW.size; omega
  have hks := keepsY_cell (w := w3) (g := m.b) (i := 0) (.slice a n c)
  have h3 : m.b < w3.heap.size := Nat.lt_of_lt_of_le h.lt hk3.size
  refine ⟨⟨?_, fun j => ?_, h.lo, by simpa [World.setCell] using h3, ho.lies (fun g hg2 => hks.block g (ho.lt g hg2).2 (fun e => hne (by rw [hg2, e]))), hne⟩, kpThen hk3 (fun k e => .inl (.inl e)) hks, fun k hk => ?_⟩
  · exact range_set (rangeY_same h.r hmb) (by simp)
  · rw [World.frozen?_setCell]
    exact (World.frozen?_of_block (a := ⟨m.b, j, none⟩) hmb).trans (h.fz j)
  · rcases hk with e | e
    · exact .inl (.inl e)
    · rcases hat with e2 | ⟨k2, e2, hk2⟩
      · exact .inl (.inr (by rw [← e2]; exact e))
      · right
        have : some k = some k2 := by rw [← e2]; exact e.symm
        have := Option.some.inj this
        have := hwW.size
        omega

set_option maxHeartbeats 4000000 in
theorem pput_any (base : Nat) (w : World) (m : PC) (h : m.is base w) (hb : base ≤ w.heap.size) (hd : Desc tsM m.vs) (hn : m.vs.length ≤ 100000) (mv : MV) :
    Calls Try.prog 48 #[.pointer (some ⟨m.b, 0, none⟩), .agg #[.int .u64 mv.v.ts, .int .u64 mv.v.tx, .bool mv.v.dd, .slice mv.va mv.vn mv.vc, .slice mv.ka mv.kn mv.kc]] w fun e w' => e = .returned (.tuple #[]) ∧ ∃ vv', CPost base w m { m with vv := vv', vs := putP tsM mv m.vs } w' := by
  obtain ⟨W0, hW0⟩ : ∃ W0, W0 = w.alloc (.cells #[.int .u64 mv.v.ts, .int .u64 mv.v.tx, .bool mv.v.dd, .slice mv.va mv.vn mv.vc, .slice mv.ka mv.kn mv.kc] 36) := ⟨_, rfl⟩
  have hb0 : Below w.heap.size w W0 := by rw [hW0]; exact new_below _ _
  have hs0 : W0.heap.size = w.heap.size + 1 := by rw [hW0]; simp
  have HX0 : Hid (BxV W0 w.heap.size mv) := by show BxV _ _ _; rw [hW0]; exact bxV_new w mv _ rfl
  have HP := hide (pplace_any base W0 m (h.keep hb0) hd (by omega) mv.v.ts)
  have HSm := hide (put_same tsM mv m.vs hd)
  have HBt := hide (put_between tsM mv m.vs hd)
  have hP := posV_le tsM mv.v.ts m.vs
  have eT : tsM mv = mv.v.ts := rfl
  rw [eT] at HSm HBt
  generalize posV tsM mv.v.ts m.vs = P at *
  obtain ⟨a, n, c, hv, hl, hnc, hcm⟩ := h.own.any4
  have H := hide h
  have HB0 := hide hb0
  have hlt := h.lt
  have HW0 := hide hW0
  rw [hW0] at HP
  have HS0 := hide hs0
  have hbox : W0.cell? ⟨w.heap.size, 0, none⟩ = some (.int .u64 mv.v.ts) := HX0.out.x.1
  rw [hW0] at hbox
  have HV := hide hv
  have HL := hide hl
  have hcI : (c : Int) ≤ 9223372036854775807 := by unfold maxLen at hcm; omega
  have hPI : P ≤ n := by omega
  clear h hb0 hs0 hW0 hd hv hcm
  go_enter Try.func48, Try.ntmps48
  go_upto_region 2 with (first
    | (go_at_call 53; go_must (refine HP.out.mono ?_); rintro e w1 ⟨rfl, hb1⟩; rw [← HW0.out] at hb1; have HB1 := hide hb1; clear hb1))
  have hsz1 : w.heap.size + 1 ≤ w1.heap.size := by have := HB1.out.size; rw [HS0.out] at this; exact this
  have HBw : Hid (Below w.heap.size w w1) := HB0.out.trans (HB1.out.mono (by rw [HS0.out]; omega))
  have HX1 := hide (HX0.out.keep HB1.out)
  have HM1 := hide (H.out.keep HBw.out)
  have c0 := HM1.out.x.1
  rw [HV.out] at c0
  have b0 := HX1.out.x.1
  have hne0 : ¬ m.b = w.heap.size := by omega
  have hne0' : ¬ w.heap.size = m.b := by omega
  clear HP HX0 HB0 HB1 HW0 HS0 hbox
  by_cases hin : P < n
  · obtain ⟨x, hx⟩ : ∃ x, m.vs[P]? = some x := ⟨_, List.getElem?_eq_getElem (by omega)⟩
    obtain ⟨g, cap, e, hg1, hg2, -, -, hC, hfr⟩ : ∃ g cap, m.vv = .slice (some ⟨g, 0, none⟩) m.vs.length cap ∧ base ≤ g ∧ g < w1.heap.size ∧ m.vs.length ≤ cap ∧ cap ≤ maxLen ∧ CellsY layV w1 g 0 m.vs ∧ ∀ i, w1.frozen? ⟨g, i, none⟩ = false := by
      rcases HM1.out.own.form with ⟨e, e0⟩ | h
      · rw [e0] at hx; simp at hx
      · exact h
    have hga : a = some ⟨g, 0, none⟩ := by rw [HV.out] at e; simp only [Value.slice.injEq] at e; exact e.1
    subst hga
    have hcells : w1.rangeAt g (P * 5) (layV.cells x) := by have := hC P _ hx; rw [Nat.zero_add] at this; exact this
    obtain ⟨x0, x1, x2, x3, x4⟩ := rangeV hcells
    have hPd : decide ((P : Int) < (n : Int)) = true := by simp; omega
    have hPi : (P : Int) < (n : Int) := by omega
    have HX := hide hx
    have HF := hide hfr
    have HCl := hide hcells
    clear hx hC e hcells hfr
    by_cases hxe : x.v.ts = mv.v.ts
    · have hqe : (x.v.ts == mv.v.ts) = true := by simp [hxe]
      have HXe := hide hxe
      clear hxe
      go_quiet (fail)
      obtain ⟨w2, hw2⟩ : ∃ W, W = w1.drewN nq := ⟨_, rfl⟩
      rw [← hw2]
      have hb2 : Below w1.heap.size w1 w2 := by rw [hw2]; exact below_drewN (Below.refl _ w1) nq
      have HB2 := hide hb2
      have HX2 := hide (HX1.out.keep hb2)
      have hcells2 := rangeY_same HCl.out (hb2.block g hg2)
      have c0 := (HM1.out.keep hb2).x.1
      rw [HV.out] at c0
      obtain ⟨x0, x1, x2, x3, x4⟩ := rangeV hcells2
      obtain ⟨y0, y1, y2, y3, y4⟩ := HX2.out.x
      have hfr : ∀ j, w2.frozen? ⟨g, j, none⟩ = false := fun j => (hb2.frozen (p := ⟨g, j, none⟩) hg2).trans (HF.out j)
      have hgN : ¬ g = w.heap.size := by
        intro e
        have := (H.out.own.lt g (by rw [HV.out]; rfl)).2
        omega
      clear hw2 hb2 hcells2
      go_wp2_with fail
      go_region_with fail
      all_goals
        go_wp2
        refine bodyPost_ret (results_none rfl _ _ _) rfl ?_
        obtain ⟨r1, r2⟩ := (HM1.out.keep HB2.out).setOne HV.out HX.out mv
        refine ⟨rfl, m.vv, ?_⟩
        rw [← HSm.out x HX.out HXe.out]
        refine ⟨r1.keep (Below.refl _ _).drew, ?_, fun k hk => .inl hk⟩
        exact kpBelow (kpThen (Below.keeps (HBw.out.trans (HB2.out.mono HBw.out.size)) m.blk) (fun k hk => .inl hk) r2) (Below.refl _ _).drew
    · have hqe : (x.v.ts == mv.v.ts) = false := by simp [hxe]
      have HPut : Hid (m.vs.take P ++ mv :: m.vs.drop P = putP tsM mv m.vs) := HBt.out (fun y hy => by rw [HX.out] at hy; cases hy; exact hxe)
      clear hxe
      go_quiet (fail)
      obtain ⟨w2, hw2⟩ : ∃ W, W = w1.drewN nq := ⟨_, rfl⟩
      rw [← hw2]
      have hb2 : Below w1.heap.size w1 w2 := by rw [hw2]; exact below_drewN (Below.refl _ w1) nq
      have HB2 := hide (HBw.out.trans (hb2.mono HBw.out.size))
      have HX2 := hide (HX1.out.keep hb2)
      have HM2 := hide (HM1.out.keep hb2)
      have c0 := HM2.out.x.1
      rw [HV.out] at c0
      obtain ⟨y0, y1, y2, y3, y4⟩ := HX2.out.x
      have hsz2 := hb2.size
      have hml2 := HM2.out.lt
      have hml2' : ¬ m.b = w2.heap.size := by omega
      have hml2'' : ¬ w2.heap.size = m.b := by omega
      have HIn : Hid (∀ W, Below w2.heap.size w2 W → W.heap[w2.heap.size]? = some (.cells #[.int .u64 mv.v.ts, .int .u64 mv.v.tx, .bool mv.v.dd, .slice mv.va mv.vn mv.vc, .slice mv.ka mv.kn mv.kc] 36 (0, 0)) → Calls Try.prog 62 #[.slice (some ⟨g, 0, none⟩) n c, .int .i64 P, .slice (some ⟨w2.heap.size, 0, none⟩) 1 1] W fun e w' => InsPost base W (.slice (some ⟨g, 0, none⟩) n c) (putP tsM mv m.vs) e w') := by
        intro W hW hc
        have ho := (HM2.out.keep hW).own
        rw [HV.out] at ho
        have := insert_any base W (.slice (some ⟨g, 0, none⟩) n c) m.vs ho (by omega) (by have := hW.size; omega) P (by omega) w2.heap.size mv hc (fun e => by have h5 := HM2.out.own; rw [HV.out] at h5; have := (h5.lt _ e).2; omega)
        rw [HPut.out] at this
        exact this
      have HCm : Hid (∀ W w3, Below w2.heap.size w2 W → W.grownBy w3 (Value.slice (some ⟨g, 0, none⟩) n c).ownBlock → w3.cell? ⟨m.b, 0, none⟩ = some (.slice (some ⟨g, 0, none⟩) n c) ∧ w3.frozen? ⟨m.b, 0, none⟩ = false) := by
        intro W w3 hW hg
        have h5 := HM2.out.keep hW
        have hmb := hg.block m.b h5.lt (fun e => h5.ne (by rw [HV.out]; exact e.symm))
        exact ⟨(World.cell?_of_block (a := ⟨m.b, 0, none⟩) hmb).trans (by have := h5.x.1; rw [HV.out] at this; exact this), (World.frozen?_of_block (a := ⟨m.b, 0, none⟩) hmb).trans (h5.fz 0)⟩
      clear hw2 hb2
      go_wp2_with fail
      go_region_with (first
        | (go_at_call 62; go_must (refine (HIn.out _ (by exact (Below.refl _ w2).drew.alloc (Nat.le_refl _) _) (by exact heap_alloc_new _ _)).mono ?_); rintro e w3 ⟨v3, rfl, ho3, hg3, hat3⟩; obtain ⟨a3, n3, c3, rfl⟩ := ho3.any3; obtain ⟨d0, d1⟩ := HCm.out _ w3 (by exact (Below.refl _ w2).drew.alloc (Nat.le_refl _) _) hg3; have HO3 := hide ho3; have HG3 := hide hg3; have HA3 := hide hat3; clear ho3 hg3 hat3))
      all_goals
        go_wp2
        go_end0
        refine ⟨rfl, .slice a3 n3 c3, ?_⟩
        have hg := HG3.out
        have ha := HA3.out
        rw [← HV.out] at hg ha
        exact ins_post H.out hb HB2.out ((Below.refl _ w2).drew.alloc (Nat.le_refl _) (.cells #[.int .u64 mv.v.ts, .int .u64 mv.v.tx, .bool mv.v.dd, .slice mv.va mv.vn mv.vc, .slice mv.ka mv.kn mv.kc] 36)) HO3.out hg ha
  · obtain rfl : P = n := by omega
    have hPd : decide ((P : Int) < (P : Int)) = false := by simp
    have HPut : Hid (m.vs.take P ++ mv :: m.vs.drop P = putP tsM mv m.vs) := HBt.out (fun y hy => by have := (List.getElem?_eq_some_iff.1 hy).1; omega)
    go_quiet (fail)
    obtain ⟨w2, hw2⟩ : ∃ W, W = w1.drewN nq := ⟨_, rfl⟩
    rw [← hw2]
    have hb2 : Below w1.heap.size w1 w2 := by rw [hw2]; exact below_drewN (Below.refl _ w1) nq
    have HB2 := hide (HBw.out.trans (hb2.mono HBw.out.size))
    have HX2 := hide (HX1.out.keep hb2)
    have HM2 := hide (HM1.out.keep hb2)
    have c0 := HM2.out.x.1
    rw [HV.out] at c0
    obtain ⟨y0, y1, y2, y3, y4⟩ := HX2.out.x
    have hsz2 := hb2.size
    have hml2 := HM2.out.lt
    have hml2' : ¬ m.b = w2.heap.size := by omega
    have hml2'' : ¬ w2.heap.size = m.b := by omega
    have HIn : Hid (∀ W, Below w2.heap.size w2 W → W.heap[w2.heap.size]? = some (.cells #[.int .u64 mv.v.ts, .int .u64 mv.v.tx, .bool mv.v.dd, .slice mv.va mv.vn mv.vc, .slice mv.ka mv.kn mv.kc] 36 (0, 0)) → Calls Try.prog 62 #[.slice a P c, .int .i64 P, .slice (some ⟨w2.heap.size, 0, none⟩) 1 1] W fun e w' => InsPost base W (.slice a P c) (putP tsM mv m.vs) e w') := by
      intro W hW hc
      have ho := (HM2.out.keep hW).own
      rw [HV.out] at ho
      have := insert_any base W (.slice a P c) m.vs ho (by omega) (by have := hW.size; omega) P (by omega) w2.heap.size mv hc (fun e => by have h5 := HM2.out.own; rw [HV.out] at h5; have := (h5.lt _ e).2; omega)
      rw [HPut.out] at this
      exact this
    have HCm : Hid (∀ W w3, Below w2.heap.size w2 W → W.grownBy w3 (Value.slice a P c).ownBlock → w3.cell? ⟨m.b, 0, none⟩ = some (.slice a P c) ∧ w3.frozen? ⟨m.b, 0, none⟩ = false) := by
      intro W w3 hW hg
      have h5 := HM2.out.keep hW
      have hmb := hg.block m.b h5.lt (fun e => h5.ne (by rw [HV.out]; exact e.symm))
      exact ⟨(World.cell?_of_block (a := ⟨m.b, 0, none⟩) hmb).trans (by have := h5.x.1; rw [HV.out] at this; exact this), (World.frozen?_of_block (a := ⟨m.b, 0, none⟩) hmb).trans (h5.fz 0)⟩
    clear hw2 hb2
    go_wp2_with fail
    go_region_with (first
      | (go_at_call 62; go_must (refine (HIn.out _ (by exact (Below.refl _ w2).drew.alloc (Nat.le_refl _) _) (by exact heap_alloc_new _ _)).mono ?_); rintro e w3 ⟨v3, rfl, ho3, hg3, hat3⟩; obtain ⟨a3, n3, c3, rfl⟩ := ho3.any3; obtain ⟨d0, d1⟩ := HCm.out _ w3 (by exact (Below.refl _ w2).drew.alloc (Nat.le_refl _) _) hg3; have HO3 := hide ho3; have HG3 := hide hg3; have HA3 := hide hat3; clear ho3 hg3 hat3))
    all_goals
      go_wp2
      go_end0
      refine ⟨rfl, .slice a3 n3 c3, ?_⟩
      have hg := HG3.out
      have ha := HA3.out
      rw [← HV.out] at hg ha
      exact ins_post H.out hb HB2.out ((Below.refl _ w2).drew.alloc (Nat.le_refl _) (.cells #[.int .u64 mv.v.ts, .int .u64 mv.v.tx, .bool mv.v.dd, .slice mv.va mv.vn mv.vc, .slice mv.ka mv.kn mv.kc] 36)) HO3.out hg ha

end Go.Proofs.Ytfldiapdfpkdaaa
