/- What a store is behind each of the keys that a call goes through, as plain lists. -/
import Derived.Test.YtfldiapdfpkdaaaTxR
import Derived.Test.YtfldiapdfpkdaaaPsK
namespace Go.Proofs.Ytfldiapdfpkdaaa
open Go.RowKit NumMath Go.ChangeShapes Go.WideShapes Go.Deep
set_option linter.unusedVariables false
set_option maxRecDepth 100000

/-- the first j keys were gone through -/
def stepL (g : Cel → Cel) (ks : List (List Int)) (j : Nat) (st : List Cel) : List Cel := st.map (fun c => if c.key ∈ ks.take j then g c else c)

theorem stepL_keys (g : Cel → Cel) (hg : ∀ c, (g c).key = c.key) (ks : List (List Int)) (j : Nat) (st : List Cel) : keysC (stepL g ks j st) = keysC st := by
  unfold keysC stepL
  rw [List.map_map]
  apply List.map_congr_left
  intro c _
  simp only [Function.comp]
  split
  · exact hg c
  · rfl

theorem stepL_sort (g : Cel → Cel) (hg : ∀ c, (g c).key = c.key) (ks : List (List Int)) (j : Nat) {st : List Cel} (hs : SortC st) : SortC (stepL g ks j st) := sort_keys (stepL_keys g hg ks j st) hs

theorem stepL_zero (g : Cel → Cel) (ks : List (List Int)) (st : List Cel) : stepL g ks 0 st = st := by
  unfold stepL
  simp

theorem take_new {ks : List (List Int)} (hn : ks.Nodup) {j : Nat} {k : List Int} (hk : ks[j]? = some k) : k ∉ ks.take j := by
  have e : ks.take (j + 1) = ks.take j ++ [k] := by rw [List.take_add_one, hk]; rfl
  have h2 : (ks.take (j + 1)).Nodup := hn.sublist (List.take_sublist _ _)
  rw [e, List.nodup_append] at h2
  intro h
  exact h2.2.2 k h k (by simp) rfl

theorem stepL_succ (g : Cel → Cel) (hg : ∀ c, (g c).key = c.key) {ks : List (List Int)} (hn : ks.Nodup) {j : Nat} {k : List Int} (hk : ks[j]? = some k) (st : List Cel) : modK g k (stepL g ks j st) = stepL g ks (j + 1) st := by
  have e : ks.take (j + 1) = ks.take j ++ [k] := by rw [List.take_add_one, hk]; rfl
  have hnk := take_new hn hk
  unfold modK stepL
  rw [List.map_map, e]
  apply List.map_congr_left
  intro c _
  simp only [Function.comp, List.mem_append, List.mem_singleton]
  by_cases h1 : c.key ∈ ks.take j
  · have h2 : ¬ c.key = k := fun e => hnk (e ▸ h1)
    rw [if_pos h1, hg, if_neg h2, if_pos (.inl h1)]
  · rw [if_neg h1]
    by_cases h2 : c.key = k
    · rw [if_pos h2, if_pos (.inr h2)]
    · rw [if_neg h2, if_neg (by rintro (h | h); exact h1 h; exact h2 h)]

/-- .. with what nothing is left of struck -/
theorem filt_step (g : Cel → Cel) (hg : ∀ c, (g c).key = c.key) {ks : List (List Int)} (hn : ks.Nodup) {j : Nat} {k : List Int} (hk : ks[j]? = some k) (st : List Cel) (hl : ∀ c ∈ st, liveC c = true) : (modK g k ((stepL g ks j st).filter liveC)).filter liveC = (stepL g ks (j + 1) st).filter liveC := by
  rw [← stepL_succ g hg hn hk]
  have hnk := take_new hn hk
  have : ∀ l : List Cel, (∀ c ∈ l, liveC c = true) → (modK g k ((stepL g ks j l).filter liveC)).filter liveC = (modK g k (stepL g ks j l)).filter liveC := by
    intro l
    induction l with
    | nil => intro _; rfl
    | cons c r ih =>
      intro hl
      have ih' := ih (fun x hx => hl x (by simp [hx]))
      have e0 : stepL g ks j (c :: r) = (if c.key ∈ ks.take j then g c else c) :: stepL g ks j r := rfl
      rw [e0]
      have em : ∀ (x : Cel) (y : List Cel), modK g k (x :: y) = (if x.key = k then g x else x) :: modK g k y := fun _ _ => rfl
      by_cases h1 : c.key ∈ ks.take j
      · have h2 : ¬ c.key = k := fun e => hnk (e ▸ h1)
        rw [if_pos h1, em, hg, if_neg h2, List.filter_cons, List.filter_cons]
        split
        · rename_i hv
          rw [em, hg, if_neg h2, List.filter_cons, if_pos hv, ih']
        · exact ih'
      · rw [if_neg h1, List.filter_cons, if_pos (hl c (by simp)), em, em, List.filter_cons, List.filter_cons, ih']
  exact this st hl

/-- one key tidied -/
theorem tidy_eq {X : List Cel} (hs : SortC X) {i : Nat} {c : Cel} (hc : X[i]? = some c) (hl : ∀ y ∈ X, y.key ≠ c.key → liveC y = true) : (if liveC c = true then X else X.filter (fun y => decide (y.key ≠ c.key))) = X.filter liveC := by
  have hu : ∀ y ∈ X, y.key = c.key → y = c := fun y hy e => by
    obtain ⟨j, hj, rfl⟩ := List.getElem_of_mem hy
    have h1 : X[j]? = some X[j] := List.getElem?_eq_getElem hj
    have := sort_inj hs h1 hc e
    subst this
    rw [h1] at hc
    exact Option.some.inj hc
  by_cases h : liveC c = true
  · rw [if_pos h]
    symm
    rw [List.filter_eq_self]
    intro y hy
    by_cases e : y.key = c.key
    · rw [hu y hy e]; exact h
    · exact hl y hy e
  · rw [if_neg h]
    apply List.filter_congr
    intro y hy
    by_cases e : y.key = c.key
    · rw [hu y hy e]
      simp [h]
    · rw [hl y hy e]
      simp [e]

theorem modK_mem {g : Cel → Cel} {k : List Int} {X : List Cel} {y : Cel} (hg : ∀ c, (g c).key = c.key) (h : y ∈ modK g k X) (hk : y.key ≠ k) : y ∈ X := by
  unfold modK at h
  obtain ⟨x, hx, rfl⟩ := List.mem_map.1 h
  by_cases e : x.key = k
  · rw [if_pos e] at hk; exact absurd ((hg x).trans e) hk
  · rw [if_neg e]; exact hx

theorem isIt_bool (txn tx : Int) : (tx != 0 && tx == txn) = decide (txn ≠ 0 ∧ tx = txn) := by
  by_cases h1 : tx = txn
  · subst h1
    by_cases h2 : tx = 0 <;> simp [h2]
  · have : (tx == txn) = false := by simp [h1]
    rw [this, Bool.and_false, decide_eq_false (fun h => h1 h.2)]

theorem keys_it (cs : List PC) (txn : Int) : keysP (fun m => m.it.v.tx != 0 && m.it.v.tx == txn) cs = (intentsC (cs.map PC.c) txn).map kb := by
  unfold keysP intentsC
  rw [List.filter_map, List.map_map, List.map_map]
  have : (fun m : PC => m.it.v.tx != 0 && m.it.v.tx == txn) = (isItC txn ∘ PC.c) := by
    funext m
    exact isIt_bool txn m.it.v.tx
  rw [this]
  rfl

theorem keys_all (cs : List PC) : keysP (fun _ => true) cs = (keysC (cs.map PC.c)).map kb := by
  unfold keysP keysC
  rw [List.filter_eq_self.2 (fun _ _ => rfl), List.map_map, List.map_map]
  rfl

/-- what a loop over keys holds between two rounds -/
structure LpI (G' : Nat → Prop) (base : Nat) (w2 : World) (p mb z : Nat) (cs : List PC) (N0 N1 : Nat) (st : List Cel) (cnt : Int) (W : World) : Prop where
  st : ∃ cs', IsS G' base W p mb z cs' ∧ cs'.map PC.c = st ∧ ∀ k, Mut mb cs' k → Mut mb cs k ∨ w2.heap.size ≤ k
  kp : Keeps (fun k => Mut mb cs k ∨ k = N1) w2 W
  c1 : W.cell? ⟨N1, 0, none⟩ = some (.int .i64 cnt)
  f1 : W.frozen? ⟨N1, 0, none⟩ = false

/-- blocks that the call has made ahead of its loop, and the loop's own -/
def Gl (G : Nat → Prop) (lo hi : Nat) (k : Nat) : Prop := G k ∨ (lo ≤ k ∧ k < hi)

theorem lp_start {G : Nat → Prop} {base : Nat} {w2 : World} {p mb z lo N0 N1 : Nat} {cs : List PC} (h : IsS (Gl G lo w2.heap.size) base w2 p mb z cs) (hlo : lo ≤ w2.heap.size) (h1 : N1 < w2.heap.size) (c1 : w2.cell? ⟨N1, 0, none⟩ = some (.int .i64 0)) (f1 : w2.frozen? ⟨N1, 0, none⟩ = false) (o o' : Obj) :
    LpI (Gl G lo (w2.heap.size + 2)) base w2 p mb z cs N0 N1 (cs.map PC.c) 0 ((w2.alloc o).alloc o') := by
  have hb : Below w2.heap.size w2 ((w2.alloc o).alloc o') := belY (belY (Below.refl _ _) _) _
  refine ⟨⟨cs, ?_, rfl, fun k hk => .inl hk⟩, Below.keeps hb _, (hb.cell (p := ⟨N1, 0, none⟩) h1).trans c1, (hb.frozen (p := ⟨N1, 0, none⟩) h1).trans f1⟩
  refine h.next (Below.keeps hb _) (fun k hk => ?_) (fun k hk => ?_)
  · rcases hk with hk | ⟨hk1, hk2⟩
    · exact .inl (.inl hk)
    · by_cases e : k < w2.heap.size
      · exact .inl (.inr ⟨hk1, e⟩)
      · exact .inr (by omega)
  · have hs : ((w2.alloc o).alloc o').heap.size = w2.heap.size + 2 := by simp
    rcases hk with hk | ⟨_, hk2⟩
    · have := h.gl k (.inl hk); omega
    · omega

theorem lp_put {G : Nat → Prop} {base : Nat} {w2 W : World} {p mb z lo N0 N1 : Nat} {cs : List PC} {st : List Cel} {cnt : Int} (h : LpI (Gl G lo (w2.heap.size + 2)) base w2 p mb z cs N0 N1 st cnt W) (hlo : lo ≤ w2.heap.size) (h1 : N1 < w2.heap.size) (l : Nat) (hl1 : w2.heap.size ≤ l) (hl2 : l < w2.heap.size + 2) (o : Obj) :
    LpI (Gl G lo (w2.heap.size + 2)) base w2 p mb z cs N0 N1 st cnt (W.putObj l o) := by
  obtain ⟨⟨cs', hS, e, hM⟩, hk, c1, f1⟩ := h
  have hp : Keeps (fun k => k = l) W (W.putObj l o) := ⟨rfl, rfl, rfl, by simp [World.putObj], fun k _ hn => World.putObj_heap_other hn⟩
  refine ⟨⟨cs', hS.next (Keeps.wider hp (fun k e => .inr ⟨by omega, by omega⟩)) (fun k hk => .inl hk) (fun k hk => by have := hS.gl k hk; simpa [World.putObj] using this), e, hM⟩, kpThen hk (fun k (e : k = l) => .inr (by omega)) hp, ?_, ?_⟩
  · exact (World.cell?_of_block (a := ⟨N1, 0, none⟩) (World.putObj_heap_other (by show N1 ≠ l; omega))).trans c1
  · exact (World.frozen?_of_block (a := ⟨N1, 0, none⟩) (World.putObj_heap_other (by show N1 ≠ l; omega))).trans f1

/-- one round is over -/
theorem lp_next {G : Nat → Prop} {base : Nat} {w2 W W2 : World} {p mb z lo N0 N1 : Nat} {cs cs' cs2 : List PC} {st2 : List Cel} {cnt cnt' : Int} (hkp : Keeps (fun k => Mut mb cs k ∨ k = N1) w2 W) (c1 : W.cell? ⟨N1, 0, none⟩ = some (.int .i64 cnt)) (f1 : W.frozen? ⟨N1, 0, none⟩ = false) (hS : IsS (Gl G lo (w2.heap.size + 2)) base W p mb z cs') (hM : ∀ k, Mut mb cs' k → Mut mb cs k ∨ w2.heap.size ≤ k)
    (hlo : lo ≤ N1) (h1 : N1 < w2.heap.size) (hk2 : Keeps (Mut mb cs') W W2) (hS2 : IsS (Gl G lo (w2.heap.size + 2)) base W2 p mb z cs2) (e2 : cs2.map PC.c = st2) (hM2 : ∀ k, Mut mb cs2 k → Mut mb cs' k ∨ W.heap.size ≤ k) :
    LpI (Gl G lo (w2.heap.size + 2)) base w2 p mb z cs N0 N1 st2 cnt' (W2.setCell ⟨N1, 0, none⟩ (.int .i64 cnt')) ∧ (∀ k, w2.heap.size ≤ k → k < w2.heap.size + 2 → k < W.heap.size → (W2.setCell ⟨N1, 0, none⟩ (.int .i64 cnt')).heap[k]? = W.heap[k]?) ∧ W2.cell? ⟨N1, 0, none⟩ = some (.int .i64 cnt) ∧ W2.frozen? ⟨N1, 0, none⟩ = false := by
  have hNG : ∀ hi, N1 < hi → Gl G lo hi N1 := fun hi h => .inr ⟨hlo, h⟩
  have hNm : ¬ Mut mb cs' N1 := fun e => hS.gm N1 e (hNG _ (by omega))
  have hNl : N1 < W.heap.size := Nat.lt_of_lt_of_le h1 hkp.size
  have hb := hk2.block N1 hNl hNm
  have c2 := (World.cell?_of_block (a := ⟨N1, 0, none⟩) hb).trans c1
  have f2 := (World.frozen?_of_block (a := ⟨N1, 0, none⟩) hb).trans f1
  have hset := keepsY_cell (w := W2) (g := N1) (i := 0) (.int .i64 cnt')
  refine ⟨⟨⟨cs2, ?_, e2, fun k hk => ?_⟩, ?_, ?_, ?_⟩, ?_, c2, f2⟩
  · exact hS2.next (Keeps.wider hset (fun k e => by rw [e]; exact hNG _ (by omega))) (fun k hk => .inl hk) (fun k hk => by have := hS2.gl k hk; simpa [World.setCell] using this)
  · rcases hM2 k hk with h3 | h3
    · exact hM k h3
    · right; have := hkp.size; omega
  · exact kpThen (kpThen hkp (fun k hk => by
      rcases hM k hk with h3 | h3
      · exact .inl (.inl h3)
      · exact .inr h3) hk2) (fun k (e : k = N1) => .inl (.inr e)) hset
  · exact World.cell?_setCell_same' _ _ _ (by rw [c2]; rfl)
  · rw [World.frozen?_setCell]; exact f2
  · intro k hk1 hk3 hk4
    have hb3 := hset.block k (Nat.lt_of_lt_of_le hk4 hk2.size) (by omega)
    refine hb3.trans (hk2.block k hk4 (fun e => hS.gm k e (.inr ⟨?_, hk3⟩)))
    have : lo ≤ w2.heap.size := by omega
    omega

/-- the cell at a key that is not gone through yet -/
theorem lp_cell {cs' : List PC} {st : List Cel} {g : Cel → Cel} {ks : List (List Int)} (hn : ks.Nodup) {j : Nat} {k : List Int} (hk : ks[j]? = some k) {c : Cel} (hc : c ∈ st) (hck : c.key = k) (hl : liveC c = true) (e : cs'.map PC.c = (stepL g ks j st).filter liveC) : ∃ (i : Nat) (m : PC), cs'[i]? = some m ∧ m.c = c := by
  have hm : c ∈ cs'.map PC.c := by
    rw [e, List.mem_filter]
    refine ⟨?_, hl⟩
    unfold stepL
    refine List.mem_map.2 ⟨c, hc, ?_⟩
    rw [if_neg (by rw [hck]; exact take_new hn hk)]
  obtain ⟨m, hm1, hm2⟩ := List.mem_map.1 hm
  obtain ⟨i, hi, rfl⟩ := List.getElem_of_mem hm1
  exact ⟨i, _, List.getElem?_eq_getElem hi, hm2⟩

theorem intents_get {st : List Cel} {txn : Int} {j : Nat} {k : List Int} (h : (intentsC st txn)[j]? = some k) : ∃ c ∈ st, c.key = k ∧ isItC txn c = true := by
  have hm := List.mem_of_getElem? h
  unfold intentsC at hm
  obtain ⟨c, hc, e⟩ := List.mem_map.1 hm
  exact ⟨c, (List.mem_filter.1 hc).1, e, (List.mem_filter.1 hc).2⟩

theorem it_live {txn : Int} {c : Cel} (h : isItC txn c = true) : liveC c = true := by
  unfold isItC at h
  have := of_decide_eq_true h
  unfold liveC
  have : (c.it.tx != 0) = true := by rw [this.2]; simpa using this.1
  rw [this]; simp

theorem map_get {ks : List (List Int)} {j : Nat} {x : List UInt8} (h : (ks.map kb)[j]? = some x) : ∃ k, ks[j]? = some k ∧ x = kb k := by
  rw [List.getElem?_map] at h
  cases e : ks[j]? with
  | none => rw [e] at h; cases h
  | some k => rw [e] at h; cases h; exact ⟨k, rfl, rfl⟩

/-- a part of a round is over that leaves the count -/
theorem lp_keep {G : Nat → Prop} {base : Nat} {w2 W W2 : World} {p mb z z' lo N0 N1 : Nat} {cs cs' cs2 : List PC} {st2 : List Cel} {cnt : Int} (hkp : Keeps (fun k => Mut mb cs k ∨ k = N1) w2 W) (c1 : W.cell? ⟨N1, 0, none⟩ = some (.int .i64 cnt)) (f1 : W.frozen? ⟨N1, 0, none⟩ = false) (hS : IsS (Gl G lo (w2.heap.size + 2)) base W p mb z' cs') (hM : ∀ k, Mut mb cs' k → Mut mb cs k ∨ w2.heap.size ≤ k)
    (hlo : lo ≤ N1) (h1 : N1 < w2.heap.size) (hk2 : Keeps (Mut mb cs') W W2) (hS2 : IsS (Gl G lo (w2.heap.size + 2)) base W2 p mb z cs2) (e2 : cs2.map PC.c = st2) (hM2 : ∀ k, Mut mb cs2 k → Mut mb cs' k ∨ W.heap.size ≤ k) :
    LpI (Gl G lo (w2.heap.size + 2)) base w2 p mb z cs N0 N1 st2 cnt W2 ∧ (∀ k, w2.heap.size ≤ k → k < w2.heap.size + 2 → k < W.heap.size → W2.heap[k]? = W.heap[k]?) := by
  have hNG : ∀ hi, N1 < hi → Gl G lo hi N1 := fun hi h => .inr ⟨hlo, h⟩
  have hNm : ¬ Mut mb cs' N1 := fun e => hS.gm N1 e (hNG _ (by omega))
  have hNl : N1 < W.heap.size := Nat.lt_of_lt_of_le h1 hkp.size
  have hb := hk2.block N1 hNl hNm
  refine ⟨⟨⟨cs2, hS2, e2, fun k hk => ?_⟩, ?_, (World.cell?_of_block (a := ⟨N1, 0, none⟩) hb).trans c1, (World.frozen?_of_block (a := ⟨N1, 0, none⟩) hb).trans f1⟩, ?_⟩
  · rcases hM2 k hk with h3 | h3
    · exact hM k h3
    · right; have := hkp.size; omega
  · exact kpThen hkp (fun k hk => by
      rcases hM k hk with h3 | h3
      · exact .inl (.inl h3)
      · exact .inr h3) hk2
  · intro k hk1 hk3 hk4
    refine hk2.block k hk4 (fun e => hS.gm k e (.inr ⟨?_, hk3⟩))
    have : lo ≤ w2.heap.size := by omega
    omega

/-- what is left of the call behind its loop -/
theorem lp_done {G : Nat → Prop} {base : Nat} {w w2 W : World} {p mb z lo N0 N1 : Nat} {cs : List PC} {st : List Cel} {cnt : Int} (h : LpI (Gl G lo (w2.heap.size + 2)) base w2 p mb z cs N0 N1 st cnt W) (hb : Below w.heap.size w w2) (hlo : lo = w.heap.size) (hN : w.heap.size ≤ N1) :
    StPost G base w p mb z cs st (W.putObj w2.heap.size (.deferred none)) := by
  obtain ⟨⟨cs', hS, he, hM⟩, hkp, c1, f1⟩ := h
  have hs := hb.size
  have hp : Keeps (fun k => k = w2.heap.size) W (W.putObj w2.heap.size (.deferred none)) := ⟨rfl, rfl, rfl, by simp [World.putObj], fun k _ hn => World.putObj_heap_other hn⟩
  refine ⟨cs', ?_, he, ?_, fun k hk => ?_⟩
  · exact ((hS.next (Keeps.wider hp (fun k e => .inr ⟨by omega, by omega⟩)) (fun k hk => .inl hk) (fun k hk => by have := hS.gl k hk; simpa [World.putObj] using this)).less (fun k hk => .inl hk))
  · exact kpThen (kpThen (Below.keeps hb _) (fun k hk => by
      rcases hk with hk | hk
      · exact .inl hk
      · exact .inr (by omega)) hkp) (fun k (e : k = w2.heap.size) => .inr (by omega)) hp
  · rcases hM k hk with h3 | h3
    · exact .inl h3
    · exact .inr (by omega)

theorem keys_get {st : List Cel} {j : Nat} {k : List Int} (h : (keysC st)[j]? = some k) : ∃ c, st[j]? = some c ∧ c.key = k := by
  unfold keysC at h
  rw [List.getElem?_map] at h
  cases e : st[j]? with
  | none => rw [e] at h; cases h
  | some c => rw [e] at h; cases h; exact ⟨c, rfl, rfl⟩

/-- a cell that was cleared -/
theorem IsS.gc {G : Nat → Prop} {base : Nat} {w w' : World} {p mb z : Nat} {cs : List PC} (h : IsS G base w p mb z cs) {i : Nat} {m : PC} (hi : cs[i]? = some m) (ts : Int) {vv : Value} (hc : CPost base w m { m with vv := vv, vs := m.vs.take (gcK ts m.vs) } w') :
    ∃ cs', IsS G base w' p mb z cs' ∧ cs' = cs.set i { m with vv := vv, vs := m.vs.take (gcK ts m.vs) } ∧ cs'.map PC.c = (cs.map PC.c).modify i (Go.Proofs.Ytfldiapdfpkdaaa.setVs (gcV ts)) ∧ Keeps (Mut mb cs) w w' ∧ ∀ k, Mut mb cs' k → Mut mb cs k ∨ w.heap.size ≤ k := by
  have hm := List.mem_of_getElem? hi
  have hg := h.go m hm
  obtain ⟨r1, r2, r3⟩ := h.turn hi (m' := { m with vv := vv, vs := m.vs.take (gcK ts m.vs) }) rfl rfl hc ⟨fun v hv => (h.dat m hm).1 v (List.mem_of_mem_take hv), (h.dat m hm).2⟩ (Nat.le_refl z) ⟨hg.key, hg.kl, hg.desc.sublist (List.take_sublist _ _), fun v hv => hg.fit v (List.mem_of_mem_take hv), hg.fiti, (by show (m.vs.take (gcK ts m.vs)).length ≤ z; rw [List.length_take]; have := hg.few; omega)⟩
  refine ⟨_, r1, rfl, set_map_c hi rfl ?_, r2, r3⟩
  unfold Go.Proofs.Ytfldiapdfpkdaaa.setVs PC.c
  dsimp only
  rw [gcK_eq ts m.vs (desc_map hg.desc)]

theorem gcN_le (ts : Int) (vs : List Ver) : gcN ts vs ≤ vs.length := by
  have h := gc_len Ver.ts Ver.dd ts vs ([], false, 0)
  unfold gcN gcFold
  simp only [List.length_nil, Nat.zero_add] at h
  omega

theorem gcCn_le (ts : Int) (z : Nat) (st : List Cel) (h : ∀ c ∈ st, c.vs.length ≤ z) : ∀ j, gcCn ts (st.take j) ≤ j * z := by
  intro j
  induction j with
  | zero => simp [gcCn]
  | succ j ih =>
    cases e : st[j]? with
    | none =>
      have hl : st.length ≤ j := List.getElem?_eq_none_iff.1 e
      have e1 : st.take (j + 1) = st.take j := by rw [List.take_of_length_le (by omega), List.take_of_length_le hl]
      rw [e1, Nat.add_mul]
      omega
    | some c =>
      rw [gcCn_succ ts j st c e, Nat.add_mul]
      have := gcN_le ts c.vs
      have := h c (List.mem_of_getElem? e)
      omega

end Go.Proofs.Ytfldiapdfpkdaaa
