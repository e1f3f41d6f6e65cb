/- Lists of numbers ([]uint64) in memory: where they lie, one that the call owns, append, Clone, SameNumbers. Entries ([]api.Entry) in memory: where they lie, and their data; a list of them that the call owns; append, cut, Clone. Entries: copyEntries, cut, SameEntries, Small; what a law is handed of them. -/
import Derived.Test.YtodmieehdleohaaGreatBtA
import Derived.ArgAppend
import Derived.Deep.RegionHeld
import Derived.Deep.RegionHeld3
namespace Go.Proofs.YtodmieehdleohaaGreat
open Go.RowKit NumMath Go.ChangeShapes Go.WideShapes Go.Deep
set_option linter.unusedVariables false
set_option maxRecDepth 100000

/-- block g holds, from off on, the numbers xs -/
def NumsAt (w : World) (g off : Nat) (xs : List Int) : Prop := ∀ i, i < xs.length → w.cell? ⟨g, off + i, none⟩ = some (.int .u64 (xs.getD i 0))

/-- the slice's elements are the numbers xs, wherever they lie -/
def IsNums (w : World) (a : Option Addr) (len cap : Nat) (xs : List Int) : Prop :=
  xs.length = len ∧ len ≤ cap ∧ cap ≤ maxLen ∧ (∀ c ∈ xs, 0 ≤ c ∧ c ≤ 18446744073709551615) ∧ (len = 0 ∨ ∃ g off, a = some ⟨g, off, none⟩ ∧ g < w.heap.size ∧ NumsAt w g off xs)

theorem IsNums.lies {w w' : World} {a : Option Addr} {len cap : Nat} {xs : List Int} {M : Nat → Prop} (h : IsNums w a len cap xs) (hk : Keeps M w w') (ho : len = 0 ∨ ∀ y, a = some y → ¬ M y.block) : IsNums w' a len cap xs := by
  obtain ⟨h1, h2, h3, h4, h5⟩ := h
  refine ⟨h1, h2, h3, h4, ?_⟩
  rcases h5 with h5 | ⟨g, off, rfl, hg, hB⟩
  · exact .inl h5
  · rcases ho with ho | ho
    · exact .inl ho
    · exact .inr ⟨g, off, rfl, Nat.lt_of_lt_of_le hg hk.size, fun i hi => (hk.cell hg (ho _ rfl)).trans (hB i hi)⟩

theorem IsNums.keep {w w' : World} {a : Option Addr} {len cap : Nat} {xs : List Int} (h : IsNums w a len cap xs) (hb : Below w.heap.size w w') : IsNums w' a len cap xs :=
  h.lies (Below.keeps hb (fun _ => False)) (.inr (fun _ _ h => h))

theorem IsNums.at {w : World} {a : Option Addr} {len cap : Nat} {xs : List Int} (h : IsNums w a len cap xs) {k : Nat} (hk : k < len) : ∃ g off, a = some ⟨g, off, none⟩ ∧ g < w.heap.size ∧ NumsAt w g off xs := by
  obtain ⟨h1, h2, h3, h4, h5⟩ := h
  rcases h5 with h5 | h5
  · omega
  · exact h5

theorem isNums_nil (w : World) : IsNums w none 0 0 [] := ⟨rfl, Nat.le_refl _, Nat.zero_le _, by simp, .inl rfl⟩

theorem wf_u64n {n : Int} (h : (Lit.int .u64 n).wf = true) : 0 ≤ n ∧ n ≤ 18446744073709551615 := by
  simp [Lit.wf, IntKind.min, IntKind.max, IntKind.signed, IntKind.bits] at h
  omega

theorem open_nums {H : Type} {enc : TypeId × Value → H} {w : World} {base : Nat} {spare : Nat → Bool} {held : Bool} {fuel : Nat} {a : Option Addr} {len cap : Nat} {x : DataW H × List MemPlace}
    (h : DataW.trod enc Tryz.prog w base spare held fuel 25 [.slice a len cap] = some x) : ∃ xs, IsNums w a len cap xs := by
  rcases open_slice1 Tryz.underlying25 (by kernel_rfl) h with ⟨hcs, _⟩ | ⟨ad, l, c, m, n, V, D, Pl, hcs, hb, hl, hm, hmm, _, hx⟩
  · simp at hcs
    obtain ⟨rfl, rfl, rfl⟩ := hcs
    exact ⟨[], rfl, Nat.le_refl _, Nat.zero_le _, by simp, .inl rfl⟩
  · simp only [List.cons.injEq, Value.slice.injEq, and_true] at hcs
    obtain ⟨rfl, rfl, rfl⟩ := hcs
    have hlm : len ≤ m := by rw [hmm]; split <;> omega
    have each : ∀ i, i < len → ∃ c : Int, (0 ≤ c ∧ c ≤ 18446744073709551615) ∧ w.cell? (ad.add i) = some (.int .u64 c) := by
      intro i hi
      obtain ⟨h1, h2⟩ := hx i (by omega)
      obtain ⟨n0, e0, _, f0⟩ := DataW.trod_int Tryz.underlying22 h2
      simp at e0
      exact ⟨n0, wf_u64n f0, by rw [h1, e0]⟩
    obtain ⟨V, hV⟩ := choose_lt each
    have hg : ∀ i, i < len → ((List.range len).map V).getD i 0 = V i := by
      intro i hi
      simp [List.getD, hi]
    refine ⟨(List.range len).map V, by simp, hl, hm, ?_, ?_⟩
    · intro v hv
      simp only [List.mem_map, List.mem_range] at hv
      obtain ⟨i, hi, rfl⟩ := hv
      exact (hV i hi).1
    · by_cases h0 : len = 0
      · exact .inl h0
      · right
        obtain ⟨b, off, spot⟩ := ad
        have hspot : spot = none := by
          have := World.cell?_spot (hV 0 (by omega)).2
          simpa [Addr.add] using this
        subst hspot
        refine ⟨b, off, rfl, ?_, ?_⟩
        · have := World.block_lt_of_cell? _ _ (hV 0 (by omega)).2
          rw [add_plain] at this
          exact this
        · intro i hi
          have hi' : i < len := by simpa using hi
          rw [hg i hi']
          have c0 := (hV i hi').2
          rw [add_plain] at c0
          exact c0

/-- a slice of numbers, whatever it is -/
theorem open_nums' {H : Type} {enc : TypeId × Value → H} {w : World} {base : Nat} {spare : Nat → Bool} {held : Bool} {fuel : Nat} {v : Value} {x : DataW H × List MemPlace}
    (h : DataW.trod enc Tryz.prog w base spare held fuel 25 [v] = some x) : ∃ a len cap xs, v = .slice a len cap ∧ IsNums w a len cap xs := by
  have hv : ∃ a len cap, v = .slice a len cap := by
    rcases open_slice1 Tryz.underlying25 (by kernel_rfl) h with ⟨hcs, _⟩ | ⟨ad, l, c, m, n, V, D, Pl, hcs, _⟩
    · simp at hcs; exact ⟨_, _, _, hcs⟩
    · simp at hcs; exact ⟨_, _, _, hcs⟩
  obtain ⟨a, len, cap, rfl⟩ := hv
  obtain ⟨xs, hx⟩ := open_nums h
  exact ⟨a, len, cap, xs, rfl, hx⟩

/-- the slice v holds the numbers xs, in a block of the call's own (from base on), or is nil -/
def OwnU (w : World) (base : Nat) (v : Value) (xs : List Int) : Prop := w.ownsRow base 22 1 v xs.length (xs.map (Value.int .u64))

theorem ownU_nil (w : World) (base : Nat) : OwnU w base (.slice none 0 0) [] := World.ownsRow_nil _ _ _ _

theorem ownU_empty (w : World) (base : Nat) (hb : base ≤ w.heap.size) : OwnU (w.alloc (.cells #[] 22)) base (.slice (some ⟨w.heap.size, 0, none⟩) 0 0) [] := by
  exact ⟨by simp, .inr ⟨w.heap.size, 0, #[], rfl, hb, heap_alloc_new w _, Nat.le_refl _, by unfold maxLen; omega, rfl, rfl⟩⟩

theorem OwnU.lies {w w' : World} {base : Nat} {v : Value} {xs : List Int} (h : OwnU w base v xs) (hb : ∀ g, v.ownBlock = some g → w'.heap[g]? = w.heap[g]?) : OwnU w' base v xs := by
  refine ⟨h.1, ?_⟩
  rcases h.2 with h0 | ⟨g, cap, cur, hv, hg, hh, hr⟩
  · exact .inl h0
  · refine .inr ⟨g, cap, cur, hv, hg, ?_, hr⟩
    rw [hb g (by rw [hv]; rfl)]
    exact hh

theorem OwnU.lt {w : World} {base : Nat} {v : Value} {xs : List Int} (h : OwnU w base v xs) : ∀ g, v.ownBlock = some g → base ≤ g ∧ g < w.heap.size := World.ownsRow.lt h

theorem OwnU.keep {w w' : World} {base : Nat} {v : Value} {xs : List Int} (h : OwnU w base v xs) (hb : Below w.heap.size w w') : OwnU w' base v xs := h.lies (fun g hg => hb.block g (h.lt g hg).2)

theorem OwnU.mono {w : World} {base base' : Nat} {v : Value} {xs : List Int} (h : OwnU w base v xs) (hb : base' ≤ base) : OwnU w base' v xs := by
  refine ⟨h.1, ?_⟩
  rcases h.2 with h0 | ⟨g, cap, cur, hv, hg, hr⟩
  · exact .inl h0
  · exact .inr ⟨g, cap, cur, hv, Nat.le_trans hb hg, hr⟩

theorem OwnU.form {w : World} {base : Nat} {v : Value} {xs : List Int} (h : OwnU w base v xs) : (v = .slice none 0 0 ∧ xs = []) ∨ ∃ g cap, v = .slice (some ⟨g, 0, none⟩) xs.length cap ∧ base ≤ g ∧ g < w.heap.size ∧ xs.length ≤ cap ∧ cap ≤ maxLen ∧ NumsAt w g 0 xs := by
  have hlt := World.ownsRow.lt h
  rcases h.2 with ⟨rfl, h0⟩ | ⟨g, cap, cur, rfl, hg, hh, hn, hm, _, _⟩
  · exact .inl ⟨rfl, List.length_eq_zero_iff.1 h0⟩
  · refine .inr ⟨g, cap, rfl, hg, (hlt g rfl).2, hn, hm, fun i hi => ?_⟩
    have h1 := World.ownsRow.cells h (g := g) rfl i (.int .u64 (xs.getD i 0)) (by simp [List.getD, List.getElem?_eq_getElem hi])
    have h2 : (⟨g, 0, none⟩ : Addr).add i = ⟨g, 0 + i, none⟩ := by unfold Addr.add; split <;> simp_all
    rw [h2] at h1
    exact h1

theorem OwnU.is {w : World} {base : Nat} {v : Value} {xs : List Int} (h : OwnU w base v xs) (hr : ∀ c ∈ xs, 0 ≤ c ∧ c ≤ 18446744073709551615) : ∃ a n cap, v = .slice a n cap ∧ IsNums w a n cap xs ∧ ∀ y, a = some y → base ≤ y.block ∧ v.ownBlock = some y.block := by
  rcases h.form with ⟨rfl, rfl⟩ | ⟨g, cap, rfl, hg1, hg2, hc, hm, hB⟩
  · exact ⟨none, 0, 0, rfl, isNums_nil w, by intro y hy; cases hy⟩
  · exact ⟨_, _, cap, rfl, ⟨rfl, hc, hm, hr, .inr ⟨g, 0, rfl, hg2, hB⟩⟩, by intro y hy; cases hy; exact ⟨hg1, rfl⟩⟩

theorem OwnU.any3 {w : World} {base : Nat} {v : Value} {xs : List Int} (h : OwnU w base v xs) : ∃ a n c, v = .slice a n c := by
  rcases h.form with ⟨rfl, rfl⟩ | ⟨g, cap, rfl, _⟩
  · exact ⟨_, _, _, rfl⟩
  · exact ⟨_, _, _, rfl⟩

theorem infoU64 : (Tryz.prog.info? 22).map (fun i => (i.zero, i.size, i.bytes)) = some (some (.int .u64 0), 1, 8) := by kernel_rfl

theorem numsAt_add {w : World} {g off : Nat} {ys : List Int} (hB : NumsAt w g off ys) : ∀ j u, (ys.map (Value.int .u64))[j]? = some u → w.cell? ((⟨g, off, none⟩ : Addr).add j) = some u := by
  intro j u hu
  have h2 : (⟨g, off, none⟩ : Addr).add j = ⟨g, off + j, none⟩ := by unfold Addr.add; split <;> simp_all
  rw [h2]
  rw [List.getElem?_map, Option.map_eq_some_iff] at hu
  obtain ⟨c, hc, rfl⟩ := hu
  obtain ⟨hj, rfl⟩ := List.getElem?_eq_some_iff.1 hc
  have := hB j hj
  simpa [List.getD, List.getElem?_eq_getElem hj] using this

theorem u64_one (ys : List Int) : ∀ u ∈ ys.map (Value.int .u64), u.oneCell' = true := by
  intro u hu
  obtain ⟨c, _, rfl⟩ := List.mem_map.1 hu
  rfl

/-- a slice's elements are the numbers xs, wherever they lie (no bound) -/
def SrcU (w : World) (a : Option Addr) (len : Nat) (xs : List Int) : Prop := xs.length = len ∧ (len = 0 ∨ ∃ g off, a = some ⟨g, off, none⟩ ∧ g < w.heap.size ∧ NumsAt w g off xs)

theorem IsNums.src {w : World} {a : Option Addr} {len cap : Nat} {xs : List Int} (h : IsNums w a len cap xs) : SrcU w a len xs := ⟨h.1, h.2.2.2.2⟩

theorem SrcU.keep {w w' : World} {a : Option Addr} {len : Nat} {xs : List Int} (h : SrcU w a len xs) (hb : Below w.heap.size w w') : SrcU w' a len xs := by
  refine ⟨h.1, ?_⟩
  rcases h.2 with h0 | ⟨g, off, ha, hg, hc⟩
  · exact .inl h0
  · exact .inr ⟨g, off, ha, Nat.lt_of_lt_of_le hg hb.size, fun i hi => (hb.cell (p := ⟨g, off + i, none⟩) hg).trans (hc i hi)⟩

/-- append of numbers, wherever they lie, as it runs -/
theorem run_joinU (w : World) (ty : TypeId) (base : Nat) (v : Value) (bs : List Int) (hown : OwnU w base v bs) (sa : Option Addr) (m c : Nat) (ys : List Int) (hB : SrcU w sa m ys) (hbig : bs.length + ys.length ≤ 1000000000) (hbase : base ≤ w.heap.size) :
    ∃ v' w', (Builtin.append_ #[25, 25] ty #[v, .slice sa m c]).run Tryz.prog w = .ok v' w' ∧ OwnU w' base v' (bs ++ ys) ∧ w.grownBy w' v.ownBlock ∧ AtB w v v' := by
  obtain ⟨i0, hi, hz0, hz1, hz2⟩ := info_parts infoU64
  by_cases h0 : m = 0
  · subst h0
    have hy : ys = [] := List.length_eq_zero_iff.1 hB.1
    subst hy
    exact ⟨v, w, run_append_empty w base 25 ty 22 i0 1 Tryz.underlying25 hi v bs.length _ hown sa c, by rw [List.append_nil]; exact hown, ⟨rfl, rfl, rfl, Nat.le_refl _, fun _ _ _ => rfl⟩, .inl rfl⟩
  · rcases hB.2 with h1 | ⟨g, off, rfl, hg, hb⟩
    · exact absurd h1 h0
    · have hl := hB.1
      obtain ⟨v', w', hr, h2, h3, _, h5⟩ := run_append_own_at (P := Tryz.prog) w base 25 ty 22 i0 (.int .u64 0) 1 8 Tryz.underlying25 hi hz0 hz1 hz2 rfl (by decide) v bs.length _ hown ⟨g, off, none⟩ m c (ys.map (Value.int .u64)) (by simp [hl]) (numsAt_add hb) (u64_one ys) (by unfold maxLen; omega) (by omega) hbase
      refine ⟨v', w', hr, ?_, h3, ?_⟩
      · unfold OwnU
        rw [List.length_append, List.map_append, hl]
        exact h2
      · rcases h5 with h5 | h5
        · exact .inl h5
        · exact .inr ⟨_, h5, Nat.le_refl _⟩

theorem step_joinU {ops : Array Oper} {o : Oper} {a : Act} {K : Act → World → Prop} {Q : Exit → Act → World → Prop} {E : Prop} (w : World) (hgd : Region.wanted o (yielded ops a.tmps) = true) (s x : Operand)
    (ho : o.op = .call { callee := .builtin .append, args := #[s, x], argTypes := #[25, 25] }) (base : Nat) (v : Value) (bs : List Int) (hs : a.eval s = v) (hown : OwnU w base v bs)
    (sa : Option Addr) (m c : Nat) (ys : List Int) (hx : a.eval x = .slice sa m c) (hB : SrcU w sa m ys) (hbig : bs.length + ys.length ≤ 1000000000) (hbase : base ≤ w.heap.size)
    (h : ∀ v' w', OwnU w' base v' (bs ++ ys) → w.grownBy w' v.ownBlock → AtB w v v' → K (a.put o.dst v') w') :
    if Region.wanted o (yielded ops a.tmps) = true then Oper.wp Tryz.prog o a w K Q else E := by
  rw [if_pos hgd]
  obtain ⟨v', w', hr, h1, h2, h3⟩ := run_joinU w o.type base v bs hown sa m c ys hB hbig hbase
  unfold Oper.wp execOp
  simp only [ho, resolve, invoke, builtin, Sem.run_bind, Sem.run_pure, Result.andThen_ok, List.map_toArray, List.map_cons, List.map_nil, hs, hx, hr]
  exact h v' w' h1 h2 h3

/-- append of numbers, wherever they lie -/
theorem wp_joinU {ops : Array Oper} {rest : List Oper} {o : Oper} {a : Act} {Q : Exit → Act → World → Prop} (w : World) (hgd : o.guard = none) (s x : Operand)
    (ho : o.op = .call { callee := .builtin .append, args := #[s, x], argTypes := #[25, 25] }) (base : Nat) (v : Value) (bs : List Int) (hs : a.eval s = v) (hown : OwnU w base v bs)
    (sa : Option Addr) (m c : Nat) (ys : List Int) (hx : a.eval x = .slice sa m c) (hB : SrcU w sa m ys) (hbig : bs.length + ys.length ≤ 1000000000) (hbase : base ≤ w.heap.size)
    (h : ∀ v' w', OwnU w' base v' (bs ++ ys) → w.grownBy w' v.ownBlock → AtB w v v' → wpList Tryz.prog ops Q rest (a.put o.dst v') w') : wpList Tryz.prog ops Q (o :: rest) a w :=
  wpList_step fun K hK => step_joinU w (by simp [Region.wanted, hgd]) s x ho base v bs hs hown sa m c ys hx hB hbig hbase (fun v' w' h1 h2 h3 => hK _ _ (h v' w' h1 h2 h3))

theorem OwnU.grown {w w' : World} {base : Nat} {v : Value} {xs : List Int} (h : OwnU w base v xs) (hg : w.grownBy w' v.ownBlock) (hb : base ≤ w.heap.size) : Below base w w' :=
  (Below.refl _ _).grown hg hb (fun k hk => (World.ownsRow.lt h k hk).1)

theorem srcU_one (w : World) (n : Int) (g : Nat) (hg : g < w.heap.size) (h : w.cell? ⟨g, 0, none⟩ = some (.int .u64 n)) : SrcU w (some ⟨g, 0, none⟩) 1 [n] :=
  ⟨rfl, .inr ⟨g, 0, rfl, hg, fun i hi => by
    match i, hi with
    | 0, _ => exact h⟩⟩

theorem cloneU_any (a : Option Addr) (len cap : Nat) (xs : List Int) (w : World) (hs : SrcU w a len xs) (hbig : len ≤ 100000000) :
    Calls Tryz.prog 79 #[.slice a len cap] w fun e w' => ∃ v, e = .returned v ∧ OwnU w' w.heap.size v xs ∧ Below w.heap.size w w' := by
  have HS := hide hs
  cases a with
  | none =>
    have h0 : len = 0 := by
      rcases hs.2 with h | ⟨g, off, h, _⟩
      · exact h
      · cases h
    have hx : xs = [] := List.length_eq_zero_iff.1 (hs.1.trans h0)
    subst h0 hx
    clear hs
    have hnil : ∀ w, (binOp .eql 25 (.slice none 0 cap) (.slice none 0 0)).run Tryz.prog w = .ok (.bool true) w := fun w => Lib.run_eql_slice_nil w 25 22 none 0 cap 0 0 Tryz.underlying25
    go_enter Tryz.func79, Tryz.ntmps79
    go_wp2
    go_ret
    exact ⟨_, rfl, ownU_nil _ _, Below.refl _ _⟩
  | some x =>
    clear hs
    have hnil : ∀ w, (binOp .eql 25 (.slice (some x) len cap) (.slice none 0 0)).run Tryz.prog w = .ok (.bool false) w := fun w => Lib.run_eql_slice_nil w 25 22 (some x) len cap 0 0 Tryz.underlying25
    go_enter Tryz.func79, Tryz.ntmps79
    go_wp2_with (first
      | (at_builtin; go_must (refine wp_joinU _ rfl (.tmp 5) (.tmp 6) rfl w.heap.size _ [] rfl (ownU_empty w _ (Nat.le_refl _)) (some x) len cap xs rfl (HS.out.keep (new_below _ _)) (by rw [HS.out.1]; simp; omega) (by simp) ?_); intro v1 w1 hown1 hg1 hat1))
    go_ret
    refine ⟨v1, rfl, hown1, ?_⟩
    exact (new_below _ _).trans ((ownU_empty w _ (Nat.le_refl _)).grown hg1 (by simp))

set_option maxHeartbeats 1000000 in
/-- two lists that are alike -/
theorem sameU_any (a b : Option Addr) (n c c' : Nat) (xs : List Int) (w : World) (h1 : IsNums w a n c xs) (h2 : IsNums w b n c' xs) :
    Calls Tryz.prog 101 #[.slice a n c, .slice b n c'] w fun e w' => e = .returned (.bool true) ∧ Below w.heap.size w w' := by
  have H1 := hide h1
  have H2 := hide h2
  have hl := h1.1
  have hm : (n : Int) ≤ 9223372036854775807 := by have := h1.2.1; have := h1.2.2.1; unfold maxLen at this; omega
  clear h1 h2
  go_enter Tryz.func101, Tryz.ntmps101
  go_wp2
  go_loopw [13] (fun i wr => ∃ k : Nat, k ≤ n ∧ i = .int .i64 k ∧ Below w.heap.size w wr) (fun i _ => n - (intOf i).toNat)
  case atStart => exact ⟨0, Nat.zero_le _, rfl, Below.refl _ _⟩
  case round =>
    obtain ⟨k, hk, rfl, hb⟩ := hrel
    by_cases hlt : k < n
    · obtain ⟨g, off, rfl, hg, hA⟩ := H1.out.at hlt
      obtain ⟨g', off', rfl, hg', hA'⟩ := H2.out.at hlt
      have e1 := (hb.cell (p := ⟨g, off + k, none⟩) hg).trans (hA k (by omega))
      have e2 := (hb.cell (p := ⟨g', off' + k, none⟩) hg').trans (hA' k (by omega))
      generalize xs.getD k 0 = x at e1 e2
      clear hA hA'
      go_wp2
      go_region
      all_goals
        go_wp2
        go_roundw
        case rel => exact ⟨k + 1, by omega, by go_num, hb.drew⟩
        case measure => simp [intOf]; omega
    · have hkn : k = n := by omega
      subst hkn
      go_wp2
      go_ret
      exact ⟨rfl, hb⟩

end Go.Proofs.YtodmieehdleohaaGreat

namespace Go.Proofs.YtodmieehdleohaaGreat
open Go.RowKit NumMath Go.ChangeShapes Go.WideShapes Go.Deep
set_option linter.unusedVariables false
set_option maxRecDepth 100000

/-- an entry -/
structure Ent where
  i : Int
  t : Int
  k : Int
  d : List Int

/-- an entry in memory: its data's slice beside it -/
structure MEnt where
  e : Ent
  b : Option Addr
  n : Nat
  c : Nat

def ent0 : Ent := ⟨0, 0, 0, []⟩
def ment0 : MEnt := ⟨ent0, none, 0, 0⟩

def Ent.ok (e : Ent) : Prop := (0 ≤ e.i ∧ e.i ≤ 18446744073709551615) ∧ (0 ≤ e.t ∧ e.t ≤ 18446744073709551615) ∧ (-9223372036854775808 ≤ e.k ∧ e.k ≤ 9223372036854775807)

/-- bytes that lie in none of the blocks X -/
def DatB (X : Nat → Prop) (w : World) (b : Option Addr) (n c : Nat) (d : List Int) : Prop := IsBytes w b n c d ∧ (n = 0 ∨ ∀ y, b = some y → ¬ X y.block)

def MEnt.ok (X : Nat → Prop) (w : World) (m : MEnt) : Prop := m.e.ok ∧ DatB X w m.b m.n m.c m.e.d

theorem isB_liesX {w w' : World} {a : Option Addr} {len cap : Nat} {xs : List Int} {M : Nat → Prop} (h : IsBytes w a len cap xs) (hk : Keeps M w w') (ho : len = 0 ∨ ∀ y, a = some y → ¬ M y.block) : IsBytes w' a len cap xs := by
  obtain ⟨h1, h2, h3, h4, h5⟩ := h
  refine ⟨h1, h2, h3, h4, ?_⟩
  rcases h5 with h5 | ⟨g, off, rfl, hg, hB⟩
  · exact .inl h5
  · rcases ho with ho | ho
    · exact .inl ho
    · exact .inr ⟨g, off, rfl, Nat.lt_of_lt_of_le hg hk.size, fun i hi => (hk.cell hg (ho _ rfl)).trans (hB i hi)⟩

theorem DatB.lies {X M : Nat → Prop} {w w' : World} {b : Option Addr} {n c : Nat} {d : List Int} (h : DatB X w b n c d) (hk : Keeps M w w') (hM : ∀ k, M k → X k) : DatB X w' b n c d :=
  ⟨isB_liesX h.1 hk (h.2.imp id (fun q y hy hm => q y hy (hM _ hm))), h.2⟩

theorem DatB.keep {X : Nat → Prop} {w w' : World} {b : Option Addr} {n c : Nat} {d : List Int} (h : DatB X w b n c d) (hb : Below w.heap.size w w') : DatB X w' b n c d := ⟨h.1.keep hb, h.2⟩

/-- more blocks are kept off, if they are new -/
theorem DatB.more {X Y : Nat → Prop} {w : World} {b : Option Addr} {n c : Nat} {d : List Int} (h : DatB X w b n c d) (hY : ∀ k, Y k → X k ∨ w.heap.size ≤ k) : DatB Y w b n c d := by
  refine ⟨h.1, ?_⟩
  by_cases h0 : n = 0
  · exact .inl h0
  · right
    intro y hy hk
    rcases h.2 with h2 | h2
    · exact h0 h2
    · rcases hY _ hk with hx | hx
      · exact h2 y hy hx
      · rcases h.1.2.2.2.2 with h5 | ⟨g, off, ha, hg, _⟩
        · exact h0 h5
        · rw [hy] at ha
          cases ha
          dsimp only at hx
          omega

theorem DatB.free {X : Nat → Prop} {w : World} {b : Option Addr} {n c : Nat} {d : List Int} (h : IsBytes w b n c d) (hX : ∀ k, k < w.heap.size → ¬ X k) : DatB X w b n c d := by
  refine DatB.more (X := fun _ => False) ⟨h, .inr (fun _ _ x => x)⟩ ?_
  intro k hk
  right
  apply Nat.le_of_not_lt
  intro hlt
  exact hX k hlt hk

theorem MEnt.ok.lies {X M : Nat → Prop} {w w' : World} {m : MEnt} (h : m.ok X w) (hk : Keeps M w w') (hM : ∀ k, M k → X k) : m.ok X w' := ⟨h.1, h.2.lies hk hM⟩
theorem MEnt.ok.keep {X : Nat → Prop} {w w' : World} {m : MEnt} (h : m.ok X w) (hb : Below w.heap.size w w') : m.ok X w' := ⟨h.1, h.2.keep hb⟩
theorem MEnt.ok.more {X Y : Nat → Prop} {w : World} {m : MEnt} (h : m.ok X w) (hY : ∀ k, Y k → X k ∨ w.heap.size ≤ k) : m.ok Y w := ⟨h.1, h.2.more hY⟩

/-- the four cells of an entry -/
def MEnt.cells (m : MEnt) : List Value := [.int .u64 m.e.i, .int .u64 m.e.t, .int .i64 m.e.k, .slice m.b m.n m.c]
def cellsM (ms : List MEnt) : List Value := ms.flatMap MEnt.cells

def CellM (w : World) (g o : Nat) (m : MEnt) : Prop := w.cell? ⟨g, o, none⟩ = some (.int .u64 m.e.i) ∧ w.cell? ⟨g, o + 1, none⟩ = some (.int .u64 m.e.t) ∧ w.cell? ⟨g, o + 2, none⟩ = some (.int .i64 m.e.k) ∧ w.cell? ⟨g, o + 3, none⟩ = some (.slice m.b m.n m.c)
def CellsM (w : World) (g off : Nat) (ms : List MEnt) : Prop := ∀ i, i < ms.length → CellM w g (off + i * 4) (ms.getD i ment0)

theorem CellM.same {w w' : World} {g o : Nat} {m : MEnt} (h : CellM w g o m) (e : w'.heap[g]? = w.heap[g]?) : CellM w' g o m := by
  obtain ⟨h0, h1, h2, h3⟩ := h
  exact ⟨(World.cell?_of_block (a := ⟨g, _, none⟩) e).trans h0, (World.cell?_of_block (a := ⟨g, _, none⟩) e).trans h1, (World.cell?_of_block (a := ⟨g, _, none⟩) e).trans h2, (World.cell?_of_block (a := ⟨g, _, none⟩) e).trans h3⟩

/-- the slice's elements are the entries ms, wherever they lie; their data lies in none of the blocks X -/
def IsMs (X : Nat → Prop) (w : World) (a : Option Addr) (len cap : Nat) (ms : List MEnt) : Prop :=
  ms.length = len ∧ len ≤ cap ∧ cap ≤ maxLen ∧ (∀ m ∈ ms, m.ok X w) ∧ (len = 0 ∨ ∃ g off, a = some ⟨g, off, none⟩ ∧ g < w.heap.size ∧ CellsM w g off ms)

theorem IsMs.lies {X M : Nat → Prop} {w w' : World} {a : Option Addr} {len cap : Nat} {ms : List MEnt} (h : IsMs X w a len cap ms) (hk : Keeps M w w') (hM : ∀ k, M k → X k) (ho : len = 0 ∨ ∀ y, a = some y → ¬ M y.block) : IsMs X w' a len cap ms := by
  obtain ⟨h1, h2, h3, h4, h5⟩ := h
  refine ⟨h1, h2, h3, fun m hm => (h4 m hm).lies hk hM, ?_⟩
  rcases h5 with h5 | ⟨g, off, rfl, hg, hB⟩
  · exact .inl h5
  · rcases ho with ho | ho
    · exact .inl ho
    · exact .inr ⟨g, off, rfl, Nat.lt_of_lt_of_le hg hk.size, fun i hi => (hB i hi).same (hk.block g hg (ho _ rfl))⟩

theorem IsMs.keep {X : Nat → Prop} {w w' : World} {a : Option Addr} {len cap : Nat} {ms : List MEnt} (h : IsMs X w a len cap ms) (hb : Below w.heap.size w w') : IsMs X w' a len cap ms := by
  obtain ⟨h1, h2, h3, h4, h5⟩ := h
  refine ⟨h1, h2, h3, fun m hm => (h4 m hm).keep hb, ?_⟩
  rcases h5 with h5 | ⟨g, off, rfl, hg, hB⟩
  · exact .inl h5
  · exact .inr ⟨g, off, rfl, Nat.lt_of_lt_of_le hg hb.size, fun i hi => (hB i hi).same (hb.block g hg)⟩

theorem IsMs.more {X Y : Nat → Prop} {w : World} {a : Option Addr} {len cap : Nat} {ms : List MEnt} (h : IsMs X w a len cap ms) (hY : ∀ k, Y k → X k ∨ w.heap.size ≤ k) : IsMs Y w a len cap ms :=
  ⟨h.1, h.2.1, h.2.2.1, fun m hm => (h.2.2.2.1 m hm).more hY, h.2.2.2.2⟩

theorem IsMs.at {X : Nat → Prop} {w : World} {a : Option Addr} {len cap : Nat} {ms : List MEnt} (h : IsMs X w a len cap ms) {k : Nat} (hk : k < len) : ∃ g off, a = some ⟨g, off, none⟩ ∧ g < w.heap.size ∧ CellsM w g off ms := by
  obtain ⟨h1, h2, h3, h4, h5⟩ := h
  rcases h5 with h5 | h5
  · omega
  · exact h5

theorem ment_mem (ms : List MEnt) (k : Nat) (h : k < ms.length) : ms.getD k ment0 ∈ ms := by
  have : ms.getD k ment0 = ms[k] := by simp [List.getD, List.getElem?_eq_getElem h]
  rw [this]; exact List.getElem_mem h

theorem isMs_nil (X : Nat → Prop) (w : World) : IsMs X w none 0 0 [] := ⟨rfl, Nat.le_refl _, Nat.zero_le _, by simp, .inl rfl⟩

theorem cellsM_length (ms : List MEnt) : (cellsM ms).length = ms.length * 4 := by
  unfold cellsM
  induction ms with
  | nil => rfl
  | cons v r ih => rw [List.flatMap_cons, List.length_append, ih, List.length_cons]; simp [MEnt.cells]; omega

theorem cellsM_append (xs ys : List MEnt) : cellsM (xs ++ ys) = cellsM xs ++ cellsM ys := List.flatMap_append

theorem cellsM_one (ms : List MEnt) : ∀ u ∈ cellsM ms, u.oneCell' = true := by
  intro u hu
  unfold cellsM at hu
  rw [List.mem_flatMap] at hu
  obtain ⟨v, _, hv⟩ := hu
  simp [MEnt.cells] at hv
  rcases hv with rfl | rfl | rfl | rfl <;> rfl

theorem cellsM_nth : ∀ (ms : List MEnt) (i d : Nat), i < ms.length → d < 4 → (cellsM ms)[i * 4 + d]? = (ms.getD i ment0).cells[d]? := by
  intro ms
  induction ms with
  | nil => intro i d hi; simp at hi
  | cons v r ih =>
    intro i d hi hd
    have e : cellsM (v :: r) = v.cells ++ cellsM r := rfl
    rw [e]
    cases i with
    | zero =>
      rw [List.getElem?_append_left (by simp [MEnt.cells]; omega)]
      simp
    | succ j =>
      rw [List.getElem?_append_right (by simp [MEnt.cells]; omega)]
      have : (j + 1) * 4 + d - v.cells.length = j * 4 + d := by simp [MEnt.cells]; omega
      rw [this, ih j d (by simpa using hi) hd]
      simp

/-- the slice v holds the entries' cells, in a block of the call's own (from base on), or is nil -/
def RowM (w : World) (base : Nat) (v : Value) (ms : List MEnt) : Prop := w.ownsRow base 76 4 v ms.length (cellsM ms)

theorem rowM_nil (w : World) (base : Nat) : RowM w base (.slice none 0 0) [] := World.ownsRow_nil _ _ _ _

theorem rowM_empty (w : World) (base : Nat) (hb : base ≤ w.heap.size) : RowM (w.alloc (.cells #[] 76)) base (.slice (some ⟨w.heap.size, 0, none⟩) 0 0) [] := by
  exact ⟨by simp [cellsM], .inr ⟨w.heap.size, 0, #[], rfl, hb, heap_alloc_new w _, Nat.le_refl _, by unfold maxLen; omega, rfl, rfl⟩⟩

theorem RowM.lies {w w' : World} {base : Nat} {v : Value} {ms : List MEnt} (h : RowM w base v ms) (hb : ∀ g, v.ownBlock = some g → w'.heap[g]? = w.heap[g]?) : RowM w' base v ms := by
  refine ⟨h.1, ?_⟩
  rcases h.2 with h0 | ⟨g, cap, cur, hv, hg, hh, hr⟩
  · exact .inl h0
  · refine .inr ⟨g, cap, cur, hv, hg, ?_, hr⟩
    rw [hb g (by rw [hv]; rfl)]
    exact hh

theorem RowM.lt {w : World} {base : Nat} {v : Value} {ms : List MEnt} (h : RowM w base v ms) : ∀ g, v.ownBlock = some g → base ≤ g ∧ g < w.heap.size := World.ownsRow.lt h

theorem RowM.keep {w w' : World} {base : Nat} {v : Value} {ms : List MEnt} (h : RowM w base v ms) (hb : Below w.heap.size w w') : RowM w' base v ms := h.lies (fun g hg => hb.block g (h.lt g hg).2)

theorem RowM.mono {w : World} {base base' : Nat} {v : Value} {ms : List MEnt} (h : RowM w base v ms) (hb : base' ≤ base) : RowM w base' v ms := by
  refine ⟨h.1, ?_⟩
  rcases h.2 with h0 | ⟨g, cap, cur, hv, hg, hr⟩
  · exact .inl h0
  · exact .inr ⟨g, cap, cur, hv, Nat.le_trans hb hg, hr⟩

theorem RowM.form {w : World} {base : Nat} {v : Value} {ms : List MEnt} (h : RowM w base v ms) : (v = .slice none 0 0 ∧ ms = []) ∨ ∃ g cap, v = .slice (some ⟨g, 0, none⟩) ms.length cap ∧ base ≤ g ∧ g < w.heap.size ∧ ms.length ≤ cap ∧ cap ≤ maxLen ∧ CellsM w g 0 ms ∧ ∀ i, w.frozen? ⟨g, i, none⟩ = false := by
  have hlt := World.ownsRow.lt h
  rcases h.2 with ⟨rfl, h0⟩ | ⟨g, cap, cur, rfl, hg, hh, hn, hm, _, _⟩
  · exact .inl ⟨rfl, List.length_eq_zero_iff.1 h0⟩
  · refine .inr ⟨g, cap, rfl, hg, (hlt g rfl).2, hn, hm, fun i hi => ?_, fun i => World.ownsRow.frozenAt h i⟩
    have e : ∀ j, (⟨g, 0, none⟩ : Addr).add j = ⟨g, 0 + j, none⟩ := by
      intro j
      unfold Addr.add; split <;> simp_all
    have c : ∀ d u, d < 4 → (ms.getD i ment0).cells[d]? = some u → w.cell? ⟨g, 0 + (i * 4 + d), none⟩ = some u := by
      intro d u hd hu
      have d0 := World.ownsRow.cells h (g := g) rfl (i * 4 + d) u (by rw [cellsM_nth ms i d hi hd]; exact hu)
      rw [e] at d0
      exact d0
    have c0 := c 0 _ (by omega) rfl
    have c1 := c 1 _ (by omega) rfl
    have c2 := c 2 _ (by omega) rfl
    have c3 := c 3 _ (by omega) rfl
    exact ⟨c0, c1, c2, c3⟩

theorem RowM.any3 {w : World} {base : Nat} {v : Value} {ms : List MEnt} (h : RowM w base v ms) : ∃ a n c, v = .slice a n c := by
  rcases h.form with ⟨rfl, rfl⟩ | ⟨g, cap, rfl, _⟩
  · exact ⟨_, _, _, rfl⟩
  · exact ⟨_, _, _, rfl⟩

theorem RowM.len {w : World} {base : Nat} {a : Option Addr} {n c : Nat} {ms : List MEnt} (h : RowM w base (.slice a n c) ms) : ms.length = n ∧ n ≤ c ∧ c ≤ maxLen := by
  rcases h.form with ⟨e, rfl⟩ | ⟨g, cap, e, hg1, hg2, hc, hm, hB⟩
  · cases e; exact ⟨rfl, Nat.le_refl _, Nat.zero_le _⟩
  · cases e; exact ⟨rfl, hc, hm⟩

theorem RowM.is {X : Nat → Prop} {w : World} {base : Nat} {a : Option Addr} {n c : Nat} {ms : List MEnt} (h : RowM w base (.slice a n c) ms) (ho : ∀ m ∈ ms, m.ok X w) : IsMs X w a n c ms := by
  rcases h.form with ⟨e, rfl⟩ | ⟨g, cap, e, hg1, hg2, hc, hm, hB, _⟩
  · cases e; exact isMs_nil X w
  · cases e; exact ⟨rfl, hc, hm, ho, .inr ⟨g, 0, rfl, hg2, hB⟩⟩

theorem RowM.grown {w w' : World} {base : Nat} {v : Value} {ms : List MEnt} (h : RowM w base v ms) (hg : w.grownBy w' v.ownBlock) (hb : base ≤ w.heap.size) : Below base w w' :=
  (Below.refl _ _).grown hg hb (fun k hk => (World.ownsRow.lt h k hk).1)

theorem infoEnt : (Tryz.prog.info? 76).map (fun i => (i.zero, i.size, i.bytes)) = some (some (.agg #[.int .u64 0, .int .u64 0, .int .i64 0, .slice none 0 0]), 4, 48) := by kernel_rfl

theorem cellsM_add {w : World} {g off : Nat} {ys : List MEnt} (hB : CellsM w g off ys) : ∀ j u, (cellsM ys)[j]? = some u → w.cell? ((⟨g, off, none⟩ : Addr).add j) = some u := by
  intro j u hu
  have h2 : (⟨g, off, none⟩ : Addr).add j = ⟨g, off + j, none⟩ := by unfold Addr.add; split <;> simp_all
  rw [h2]
  have hj : j < ys.length * 4 := by
    rw [← cellsM_length]
    exact (List.getElem?_eq_some_iff.1 hu).1
  have hi : j / 4 < ys.length := by omega
  have hd : j % 4 < 4 := by omega
  have ej : j = j / 4 * 4 + j % 4 := by omega
  obtain ⟨d0, d1, d2, d3⟩ := hB (j / 4) hi
  rw [ej, cellsM_nth ys (j / 4) (j % 4) hi hd] at hu
  have hm : j % 4 = 0 ∨ j % 4 = 1 ∨ j % 4 = 2 ∨ j % 4 = 3 := by omega
  rcases hm with hm | hm | hm | hm
  · have e : off + j = off + j / 4 * 4 := by omega
    rw [hm] at hu; rw [e, d0]; exact hu
  · have e : off + j = off + j / 4 * 4 + 1 := by omega
    rw [hm] at hu; rw [e, d1]; exact hu
  · have e : off + j = off + j / 4 * 4 + 2 := by omega
    rw [hm] at hu; rw [e, d2]; exact hu
  · have e : off + j = off + j / 4 * 4 + 3 := by omega
    rw [hm] at hu; rw [e, d3]; exact hu

/-- a slice's elements are the entries' cells, wherever they lie -/
def SrcM (w : World) (a : Option Addr) (len : Nat) (ms : List MEnt) : Prop := ms.length = len ∧ (len = 0 ∨ ∃ g off, a = some ⟨g, off, none⟩ ∧ g < w.heap.size ∧ CellsM w g off ms)

theorem IsMs.src {X : Nat → Prop} {w : World} {a : Option Addr} {len cap : Nat} {ms : List MEnt} (h : IsMs X w a len cap ms) : SrcM w a len ms := ⟨h.1, h.2.2.2.2⟩

theorem SrcM.keep {w w' : World} {a : Option Addr} {len : Nat} {ms : List MEnt} (h : SrcM w a len ms) (hb : Below w.heap.size w w') : SrcM w' a len ms := by
  refine ⟨h.1, ?_⟩
  rcases h.2 with h0 | ⟨g, off, ha, hg, hc⟩
  · exact .inl h0
  · exact .inr ⟨g, off, ha, Nat.lt_of_lt_of_le hg hb.size, fun i hi => (hc i hi).same (hb.block g hg)⟩

/-- append of entries, wherever they lie, as it runs -/
theorem run_joinM (w : World) (ty : TypeId) (base : Nat) (v : Value) (ms : List MEnt) (hown : RowM w base v ms) (sa : Option Addr) (m c : Nat) (ys : List MEnt) (hB : SrcM w sa m ys) (hbig : ms.length + ys.length ≤ 1000000000) (hbase : base ≤ w.heap.size) :
    ∃ v' w', (Builtin.append_ #[29, 29] ty #[v, .slice sa m c]).run Tryz.prog w = .ok v' w' ∧ RowM w' base v' (ms ++ ys) ∧ w.grownBy w' v.ownBlock ∧ AtB w v v' := by
  obtain ⟨i0, hi, hz0, hz1, hz2⟩ := info_parts infoEnt
  by_cases h0 : m = 0
  · subst h0
    have hy : ys = [] := List.length_eq_zero_iff.1 hB.1
    subst hy
    exact ⟨v, w, run_append_empty w base 29 ty 76 i0 4 Tryz.underlying29 hi v ms.length _ hown sa c, by rw [List.append_nil]; exact hown, ⟨rfl, rfl, rfl, Nat.le_refl _, fun _ _ _ => rfl⟩, .inl rfl⟩
  · rcases hB.2 with h1 | ⟨g, off, rfl, hg, hb⟩
    · exact absurd h1 h0
    · have hl := hB.1
      obtain ⟨v', w', hr, h2, h3, _, h5⟩ := run_append_own_at (P := Tryz.prog) w base 29 ty 76 i0 _ 4 48 Tryz.underlying29 hi hz0 hz1 hz2 rfl (by decide) v ms.length _ hown ⟨g, off, none⟩ m c (cellsM ys) (by rw [cellsM_length, hl]) (cellsM_add hb) (cellsM_one ys) (by unfold maxLen; omega) (by omega) hbase
      refine ⟨v', w', hr, ?_, h3, ?_⟩
      · unfold RowM
        rw [List.length_append, cellsM_append, hl]
        exact h2
      · rcases h5 with h5 | h5
        · exact .inl h5
        · exact .inr ⟨_, h5, Nat.le_refl _⟩

/-- append onto a list that has no room behind it: a new block -/
theorem run_growM (w : World) (ty : TypeId) (g off n : Nat) (ms : List MEnt) (hl0 : ms.length = n) (hC : CellsM w g off ms) (sa : Option Addr) (m c : Nat) (ys : List MEnt) (hB : SrcM w sa m ys) (hm : 0 < m) (hbig : ms.length + ys.length ≤ 1000000000) :
    ∃ v' w', (Builtin.append_ #[29, 29] ty #[.slice (some ⟨g, off, none⟩) n n, .slice sa m c]).run Tryz.prog w = .ok v' w' ∧ RowM w' w.heap.size v' (ms ++ ys) ∧ w.grownBy w' none := by
  obtain ⟨i0, hi, hz0, hz1, hz2⟩ := info_parts infoEnt
  rcases hB.2 with h1 | ⟨g', off', rfl, hg, hb⟩
  · omega
  · have hl := hB.1
    obtain ⟨v', w', hr, h2, h3⟩ := run_append_arg_grows (P := Tryz.prog) w 29 ty 76 i0 _ 4 48 Tryz.underlying29 hi hz0 hz1 hz2 rfl (by decide) ⟨g, off, none⟩ n n (cellsM ms) (by rw [cellsM_length, hl0]) (cellsM_add hC) ⟨g', off', none⟩ m c (cellsM ys) (by rw [cellsM_length, hl]) (cellsM_add hb) (by omega) (by unfold maxLen; omega) (by omega)
    refine ⟨v', w', hr, ?_, h3⟩
    unfold RowM
    rw [List.length_append, cellsM_append, hl, hl0]
    exact h2

theorem step_joinM {ops : Array Oper} {o : Oper} {a : Act} {K : Act → World → Prop} {Q : Exit → Act → World → Prop} {E : Prop} (w : World) (hgd : Region.wanted o (yielded ops a.tmps) = true) (s x : Operand)
    (ho : o.op = .call { callee := .builtin .append, args := #[s, x], argTypes := #[29, 29] }) (base : Nat) (v : Value) (ms : List MEnt) (hs : a.eval s = v) (hown : RowM w base v ms)
    (sa : Option Addr) (m c : Nat) (ys : List MEnt) (hx : a.eval x = .slice sa m c) (hB : SrcM w sa m ys) (hbig : ms.length + ys.length ≤ 1000000000) (hbase : base ≤ w.heap.size)
    (h : ∀ v' w', RowM w' base v' (ms ++ ys) → w.grownBy w' v.ownBlock → AtB w v v' → K (a.put o.dst v') w') :
    if Region.wanted o (yielded ops a.tmps) = true then Oper.wp Tryz.prog o a w K Q else E := by
  rw [if_pos hgd]
  obtain ⟨v', w', hr, h1, h2, h3⟩ := run_joinM w o.type base v ms hown sa m c ys hB hbig hbase
  unfold Oper.wp execOp
  simp only [ho, resolve, invoke, builtin, Sem.run_bind, Sem.run_pure, Result.andThen_ok, List.map_toArray, List.map_cons, List.map_nil, hs, hx, hr]
  exact h v' w' h1 h2 h3

theorem step_growM {ops : Array Oper} {o : Oper} {a : Act} {K : Act → World → Prop} {Q : Exit → Act → World → Prop} {E : Prop} (w : World) (hgd : Region.wanted o (yielded ops a.tmps) = true) (s x : Operand)
    (ho : o.op = .call { callee := .builtin .append, args := #[s, x], argTypes := #[29, 29] }) (g off n : Nat) (ms : List MEnt) (hs : a.eval s = .slice (some ⟨g, off, none⟩) n n) (hl0 : ms.length = n) (hC : CellsM w g off ms)
    (sa : Option Addr) (m c : Nat) (ys : List MEnt) (hx : a.eval x = .slice sa m c) (hB : SrcM w sa m ys) (hm : 0 < m) (hbig : ms.length + ys.length ≤ 1000000000)
    (h : ∀ v' w', RowM w' w.heap.size v' (ms ++ ys) → w.grownBy w' none → K (a.put o.dst v') w') :
    if Region.wanted o (yielded ops a.tmps) = true then Oper.wp Tryz.prog o a w K Q else E := by
  rw [if_pos hgd]
  obtain ⟨v', w', hr, h1, h2⟩ := run_growM w o.type g off n ms hl0 hC sa m c ys hB hm hbig
  unfold Oper.wp execOp
  simp only [ho, resolve, invoke, builtin, Sem.run_bind, Sem.run_pure, Result.andThen_ok, List.map_toArray, List.map_cons, List.map_nil, hs, hx, hr]
  exact h v' w' h1 h2

/-- append of entries, wherever they lie -/
theorem wp_joinM {ops : Array Oper} {rest : List Oper} {o : Oper} {a : Act} {Q : Exit → Act → World → Prop} (w : World) (hgd : o.guard = none) (s x : Operand)
    (ho : o.op = .call { callee := .builtin .append, args := #[s, x], argTypes := #[29, 29] }) (base : Nat) (v : Value) (ms : List MEnt) (hs : a.eval s = v) (hown : RowM w base v ms)
    (sa : Option Addr) (m c : Nat) (ys : List MEnt) (hx : a.eval x = .slice sa m c) (hB : SrcM w sa m ys) (hbig : ms.length + ys.length ≤ 1000000000) (hbase : base ≤ w.heap.size)
    (h : ∀ v' w', RowM w' base v' (ms ++ ys) → w.grownBy w' v.ownBlock → AtB w v v' → wpList Tryz.prog ops Q rest (a.put o.dst v') w') : wpList Tryz.prog ops Q (o :: rest) a w :=
  wpList_step fun K hK => step_joinM w (by simp [Region.wanted, hgd]) s x ho base v ms hs hown sa m c ys hx hB hbig hbase (fun v' w' h1 h2 h3 => hK _ _ (h v' w' h1 h2 h3))

/-- the size of an entry -/
theorem size_ent (W : World) : (sizeOf (Tryz.prog.elem 29)).run Tryz.prog W = .ok 4 W := by
  obtain ⟨i0, hi, _, hz1, _⟩ := info_parts infoEnt
  have he : Tryz.prog.elem 29 = 76 := by kernel_rfl
  rw [he]
  simp [sizeOf, typeInfo, hi, hz1]

theorem cellsM_part {w : World} {g off : Nat} {ms : List MEnt} (h : CellsM w g off ms) (l k : Nat) : CellsM w g (off + l * 4) ((ms.drop l).take k) := by
  intro i hi
  rw [List.length_take, List.length_drop] at hi
  have := h (l + i) (by omega)
  have e : ((ms.drop l).take k).getD i ment0 = ms.getD (l + i) ment0 := by simp [List.getD, show i < k by omega]
  rw [e]
  have e2 : off + l * 4 + i * 4 = off + (l + i) * 4 := by omega
  rw [e2]
  exact this

/-- a list that begins later in the same array -/
theorem isM_later {X : Nat → Prop} {w : World} {a : Option Addr} {len cap : Nat} {ms : List MEnt} (h : IsMs X w a len cap ms) (l k c m : Nat) (h1 : l + k ≤ len) (h2 : k ≤ c) (h3 : l + c ≤ cap) (hm : m = l + c) : IsMs X w (if m = l then a else a.map (·.add (l * 4))) k c ((ms.drop l).take k) := by
  subst hm
  have hcap := h.2.2.1
  refine ⟨by rw [List.length_take, List.length_drop, h.1]; omega, h2, by omega, fun x hx => h.2.2.2.1 x (List.mem_of_mem_drop (List.mem_of_mem_take hx)), ?_⟩
  by_cases k0 : k = 0
  · exact .inl k0
  · right
    obtain ⟨g, off, rfl, hg, hB⟩ := h.at (k := 0) (by omega)
    refine ⟨g, off + l * 4, ?_, hg, cellsM_part hB l k⟩
    rw [if_neg (by omega)]
    simp [Addr.add]

/-- x[l:l+k:l+c] -/
theorem run_cutM3 (a : Option Addr) (len cap : Nat) (hlc : len ≤ cap) (l k c : Nat) (h2 : k ≤ c) (h3 : l + c ≤ cap) (il ih im : Int) (el : il = (l : Int)) (eh : ih = ((l + k : Nat) : Int)) (em : im = ((l + c : Nat) : Int)) (W : World) :
    (Instr.sliceAt 29 (.slice a len cap) (some (.int .i64 il)) (some (.int .i64 ih)) (some (.int .i64 im))).run Tryz.prog W = .ok (.slice (if l + c = l then a else a.map (·.add (l * 4))) k c) W := by
  subst el eh em
  rw [run_sliceAt_slice W 29 _ _ _ _ Tryz.underlying29, run_slice_lhm W 29 a len cap Tryz.underlying29 _ _ _ _ _ _ (by omega) (by omega) (by omega) (by omega), size_ent]
  simp only [Result.andThen_ok, sliced, Int.toNat_natCast]
  congr 2 <;> omega

/-- x[:k] -/
theorem isM_cutTo {X : Nat → Prop} {w : World} {a : Option Addr} {len cap : Nat} {ms : List MEnt} (h : IsMs X w a len cap ms) (k : Nat) (h1 : k ≤ len) (kh : IntKind) (ih : Int) (eh : ih = (k : Int)) :
    ∃ b, (∀ W, (Instr.sliceAt 29 (.slice a len cap) none (some (.int kh ih)) none).run Tryz.prog W = .ok (.slice b k cap) W) ∧ IsMs X w b k cap (ms.take k) := by
  subst eh
  have hlc := h.2.1
  refine ⟨_, fun W => ?_, isM_later h 0 k cap cap (by omega) (by omega) (by omega) (by omega)⟩
  rw [run_sliceAt_slice W 29 _ _ _ _ Tryz.underlying29, run_slice_h W 29 a len cap Tryz.underlying29 _ _ (by omega) (by omega), size_ent]
  simp only [Result.andThen_ok, sliced, Int.toNat_natCast]
  congr 2

/-- x[l:] -/
theorem isM_cutFrom {X : Nat → Prop} {w : World} {a : Option Addr} {len cap : Nat} {ms : List MEnt} (h : IsMs X w a len cap ms) (l k c : Nat) (h1 : l + k = len) (h3 : l + c = cap) (kl : IntKind) (il : Int) (el : il = (l : Int)) :
    ∃ b, (∀ W, (Instr.sliceAt 29 (.slice a len cap) (some (.int kl il)) none none).run Tryz.prog W = .ok (.slice b k c) W) ∧ IsMs X w b k c (ms.drop l) := by
  subst el
  have hlc := h.2.1
  have hd : (ms.drop l).take k = ms.drop l := List.take_of_length_le (by rw [List.length_drop, h.1]; omega)
  refine ⟨_, fun W => ?_, by have := isM_later h l k c cap (by omega) (by omega) (by omega) h3.symm; rw [hd] at this; exact this⟩
  rw [run_sliceAt_slice W 29 _ _ _ _ Tryz.underlying29, run_slice_l W 29 a len cap Tryz.underlying29 _ _ (by omega) (by omega), size_ent]
  simp only [Result.andThen_ok, sliced, Int.toNat_natCast]
  congr 2 <;> omega

theorem cloneM_any (a : Option Addr) (len cap : Nat) (ms : List MEnt) (w : World) (hs : SrcM w a len ms) (hbig : len ≤ 100000000) :
    Calls Tryz.prog 82 #[.slice a len cap] w fun e w' => ∃ v, e = .returned v ∧ RowM w' w.heap.size v ms ∧ Below w.heap.size w w' := by
  have HS := hide hs
  cases a with
  | none =>
    have h0 : len = 0 := by
      rcases hs.2 with h | ⟨g, off, h, _⟩
      · exact h
      · cases h
    have hx : ms = [] := List.length_eq_zero_iff.1 (hs.1.trans h0)
    subst h0 hx
    clear hs
    have hnil : ∀ w, (binOp .eql 29 (.slice none 0 cap) (.slice none 0 0)).run Tryz.prog w = .ok (.bool true) w := fun w => Lib.run_eql_slice_nil w 29 76 none 0 cap 0 0 Tryz.underlying29
    go_enter Tryz.func82, Tryz.ntmps82
    go_wp2
    go_ret
    exact ⟨_, rfl, rowM_nil _ _, Below.refl _ _⟩
  | some x =>
    clear hs
    have hnil : ∀ w, (binOp .eql 29 (.slice (some x) len cap) (.slice none 0 0)).run Tryz.prog w = .ok (.bool false) w := fun w => Lib.run_eql_slice_nil w 29 76 (some x) len cap 0 0 Tryz.underlying29
    go_enter Tryz.func82, Tryz.ntmps82
    go_wp2_with (first
      | (at_builtin; go_must (refine wp_joinM _ rfl (.tmp 5) (.tmp 6) rfl w.heap.size _ [] rfl (rowM_empty w _ (Nat.le_refl _)) (some x) len cap ms rfl (HS.out.keep (new_below _ _)) (by rw [HS.out.1]; simp; omega) (by simp) ?_); intro v1 w1 hown1 hg1 hat1))
    go_ret
    refine ⟨v1, rfl, hown1, ?_⟩
    exact (new_below _ _).trans ((rowM_empty w _ (Nat.le_refl _)).grown hg1 (by simp))

end Go.Proofs.YtodmieehdleohaaGreat

namespace Go.Proofs.YtodmieehdleohaaGreat
open Go.RowKit NumMath Go.ChangeShapes Go.WideShapes Go.Deep
set_option linter.unusedVariables false
set_option maxRecDepth 100000

theorem RowM.row {w : World} {base : Nat} {a : Option Addr} {n c : Nat} {ms : List MEnt} (h : RowM w base (.slice a n c) ms) (h0 : 0 < n) : ∃ g, a = some ⟨g, 0, none⟩ ∧ base ≤ g ∧ g < w.heap.size ∧ (∀ k, k < n → CellM w g (k * 4) (ms.getD k ment0)) ∧ ∀ i, w.frozen? ⟨g, i, none⟩ = false := by
  rcases h.form with ⟨e, rfl⟩ | ⟨g, cap, e, hg1, hg2, hc, hm, hB, hf⟩
  · cases e; omega
  · cases e
    refine ⟨g, rfl, hg1, hg2, fun k hk => ?_, hf⟩
    have := hB k hk
    rw [Nat.zero_add] at this
    exact this

def MEnt.with (m : MEnt) (b : Option Addr) (n c : Nat) : MEnt := ⟨m.e, b, n, c⟩

theorem cellsM_set : ∀ (ms : List MEnt) (k : Nat) (b : Option Addr) (n c : Nat), k < ms.length → (cellsM ms).set (k * 4 + 3) (.slice b n c) = cellsM (ms.set k ((ms.getD k ment0).with b n c)) := by
  intro ms
  induction ms with
  | nil => intro k b n c hk; simp at hk
  | cons v r ih =>
    intro k b n c hk
    have e : cellsM (v :: r) = v.cells ++ cellsM r := rfl
    rw [e]
    cases k with
    | zero =>
      have e2 : cellsM ((v :: r).set 0 (((v :: r).getD 0 ment0).with b n c)) = (v.with b n c).cells ++ cellsM r := rfl
      rw [e2]
      rfl
    | succ j =>
      have e2 : cellsM ((v :: r).set (j + 1) (((v :: r).getD (j + 1) ment0).with b n c)) = v.cells ++ cellsM (r.set j ((r.getD j ment0).with b n c)) := by simp [cellsM]
      rw [e2, ← ih j b n c (by simpa using hk)]
      rw [List.set_append_right _ _ (by simp [MEnt.cells]; omega)]
      congr 2
      simp [MEnt.cells]
      omega

/-- an entry's data, stored anew -/
theorem rowM_set {w : World} {base g n c : Nat} {ms : List MEnt} (h : RowM w base (.slice (some ⟨g, 0, none⟩) n c) ms) (k : Nat) (hk : k < n) (b : Option Addr) (m d : Nat) :
    RowM (w.setCell ⟨g, k * 4 + 3, none⟩ (.slice b m d)) base (.slice (some ⟨g, 0, none⟩) n c) (ms.set k ((ms.getD k ment0).with b m d)) := by
  have hl := h.len.1
  subst hl
  unfold RowM at *
  have hs := (World.ownsRow.stored h (k * 4 + 3) (.slice b m d)).1
  rw [List.length_set, ← cellsM_set ms k b m d hk]
  exact hs

theorem map_e_set (ms : List MEnt) (k : Nat) (hk : k < ms.length) (b : Option Addr) (n c : Nat) : (ms.set k ((ms.getD k ment0).with b n c)).map MEnt.e = ms.map MEnt.e := by
  apply List.ext_getElem?
  intro j
  rw [List.getElem?_map, List.getElem?_map, List.getElem?_set]
  by_cases h : k = j
  · subst h
    simp [hk, MEnt.with, List.getD]
  · simp [h]

theorem getD_set_ne (ms : List MEnt) (k j : Nat) (x : MEnt) (h : k ≠ j) : (ms.set k x).getD j ment0 = ms.getD j ment0 := by
  simp [List.getD, h]

theorem getD_set_eq (ms : List MEnt) (k : Nat) (x : MEnt) (h : k < ms.length) : (ms.set k x).getD k ment0 = x := by
  simp [List.getD, h]

theorem all_of_getD {P : MEnt → Prop} (ms : List MEnt) (h : ∀ k, k < ms.length → P (ms.getD k ment0)) : ∀ m ∈ ms, P m := by
  intro m hm
  obtain ⟨i, hi, rfl⟩ := List.getElem_of_mem hm
  have := h i hi
  simpa [List.getD, List.getElem?_eq_getElem hi] using this

theorem slice_of_own {w : World} {base : Nat} {v : Value} {bs : List Int} (h : OwnB w base v bs) (hr : ∀ c ∈ bs, 0 ≤ c ∧ c < 256) : ∃ a n c, v = .slice a n c ∧ IsBytes w a n c bs ∧ ∀ y, a = some y → base ≤ y.block := by
  rcases h.form with ⟨rfl, rfl⟩ | ⟨g, cap, rfl, hg1, hg2, hc, hm, hB⟩
  · exact ⟨none, 0, 0, rfl, ⟨rfl, Nat.le_refl _, by unfold maxLen; omega, hr, .inl rfl⟩, by intro y hy; cases hy⟩
  · exact ⟨_, _, cap, rfl, ⟨rfl, hc, hm, hr, .inr ⟨g, 0, rfl, hg2, fun i hi => by rw [Nat.zero_add]; exact hB i hi⟩⟩, by intro y hy; cases hy; exact hg1⟩

theorem keeps_cell {g i : Nat} {w : World} (v : Value) : Keeps (fun k => k = g) w (w.setCell ⟨g, i, none⟩ v) :=
  ⟨rfl, rfl, rfl, by simp [World.setCell], fun k hk hn => Below.heap_setCell _ _ _ _ hn⟩

set_option maxHeartbeats 1000000 in
theorem copyE_any (a : Option Addr) (len cap : Nat) (ms : List MEnt) (w : World) (h : IsMs (fun _ => False) w a len cap ms) (hbig : len ≤ 1000000) (hd : ∀ m ∈ ms, m.n ≤ 1000000) :
    Calls Tryz.prog 41 #[.slice a len cap] w fun e w' => ∃ b n c ms', e = .returned (.slice b n c) ∧ ms'.map MEnt.e = ms.map MEnt.e ∧ RowM w' w.heap.size (.slice b n c) ms' ∧ (∀ m ∈ ms', m.ok (fun k => k < w.heap.size ∨ (Value.slice b n c).ownBlock = some k) w') ∧ Below w.heap.size w w' := by
  have H := hide h
  have HD := hide hd
  have HS := hide h.src
  have HL := hide h.1
  clear h hd
  go_enter Tryz.func41, Tryz.ntmps41
  go_wp2_with (first
    | (go_at_call 82; go_must (refine (cloneM_any a len cap ms _ HS.out (by omega)).mono ?_); rintro e w1 ⟨v1, rfl, hrow1, hb1⟩; obtain ⟨a1, n1, c1, rfl⟩ := hrow1.any3; have HR1 := hide hrow1; clear hrow1))
  have hn1 : n1 = len := by rw [← HR1.out.len.1]; exact HL.out
  subst hn1
  have hm1 : (n1 : Int) ≤ 9223372036854775807 := by omega
  go_loopw [8] (fun i wr => ∃ (k : Nat) (cur : List MEnt), k ≤ n1 ∧ i = .int .i64 k ∧ cur.map MEnt.e = ms.map MEnt.e ∧ RowM wr w.heap.size (.slice a1 n1 c1) cur ∧ (∀ j, j < k → (cur.getD j ment0).ok (fun k => k < w.heap.size ∨ (Value.slice a1 n1 c1).ownBlock = some k) wr) ∧ (∀ j, k ≤ j → cur.getD j ment0 = ms.getD j ment0) ∧ Below w.heap.size w wr) (fun i _ => n1 - (intOf i).toNat)
  case atStart => exact ⟨0, ms, Nat.zero_le _, rfl, rfl, HR1.out, by intro j hj; omega, fun _ _ => rfl, hb1⟩
  case round =>
    obtain ⟨k, cur, hk, rfl, hE, hrow, hdone, hrest, hb⟩ := hrel
    have HE := hide hE
    have HR := hide hrow
    have HDn := hide hdone
    have HRs := hide hrest
    clear hE hrow hdone hrest
    by_cases hlt : k < n1
    · obtain ⟨g, hga, hg1, hg2, hcell, hfr⟩ := HR.out.row (by omega)
      subst hga
      obtain ⟨-, -, -, c3⟩ := hcell k hlt
      have hf3 := hfr (k * 4 + 3)
      have hkl : k < ms.length := by rw [HL.out]; exact hlt
      have hkc : k < cur.length := by rw [HR.out.len.1]; exact hlt
      have HKC := hide hkc
      rw [HRs.out k (Nat.le_refl _)] at c3
      have hmem := ment_mem ms k hkl
      have HOk := hide (H.out.2.2.2.1 _ hmem)
      have HSz := hide (HD.out _ hmem)
      have HG := hide (HRs.out k (Nat.le_refl _))
      clear hmem hcell hfr hkc
      generalize ms.getD k ment0 = m at *
      obtain ⟨me, mb, mn, mc⟩ := m
      dsimp only at c3
      have HB := hide (HOk.out.2.1.keep hb)
      go_wp2_with (first
        | (go_at_call 80; go_must (refine (clone_src mb mn mc me.d _ HB.out.src (by have := HSz.out; dsimp only at this; omega)).mono ?_); rintro e w3 ⟨v3, rfl, hown3, hb3⟩; obtain ⟨a3, n3, d3, rfl, hI3, hy3⟩ := slice_of_own hown3 HB.out.2.2.2.1; have c33 := (hb3.cell (p := ⟨g, k * 4 + 3, none⟩) hg2).trans c3; have hf33 := (hb3.frozen (p := ⟨g, k * 4 + 3, none⟩) hg2).trans hf3; have HI3 := hide hI3; have HY3 := hide hy3; have HR3 := hide (HR.out.keep hb3); clear hown3 hI3 hy3))
      go_roundw
      case rel =>
        have hsz3 := hb3.size
        have hgF : (Value.slice (some ⟨g, 0, none⟩) n1 c1).ownBlock = some g := rfl
        have hk0 := keeps_cell (w := w3) (g := g) (i := k * 4 + 3) (.slice a3 n3 d3)
        refine ⟨k + 1, cur.set k ((cur.getD k ment0).with a3 n3 d3), by omega, by go_num, (map_e_set cur k HKC.out a3 n3 d3).trans HE.out, rowM_set HR3.out k hlt a3 n3 d3, ?_, ?_, ?_⟩
        · intro j hj
          by_cases hjk : j = k
          · subst hjk
            rw [getD_set_eq _ _ _ HKC.out, HG.out]
            refine ⟨HOk.out.1, isB_liesX HI3.out hk0 (.inr (fun y hy e => ?_)), .inr (fun y hy e => ?_)⟩
            · have := HY3.out y hy; omega
            · have h5 := HY3.out y hy
              have h6 := hb.size
              rcases e with e | e
              · omega
              · rw [hgF] at e
                have := Option.some.inj e
                omega
          · rw [getD_set_ne _ _ _ _ (fun e => hjk e.symm)]
            exact ((HDn.out j (by omega)).keep hb3).lies hk0 (fun x hx => .inr (by rw [hgF, hx]))
        · intro j hj
          rw [getD_set_ne _ _ _ _ (by omega)]
          exact HRs.out j (by omega)
        · exact (hb.trans (hb3.mono hb.size)).setCell (p := ⟨g, k * 4 + 3, none⟩) hg1 _
      case measure => simp [intOf]; omega
    · have hkn : k = n1 := by omega
      subst hkn
      go_wp2
      go_ret
      exact ⟨a1, k, c1, cur, rfl, HE.out, HR.out, all_of_getD cur (fun j hj => HDn.out j (by rw [HR.out.len.1] at hj; exact hj)), hb⟩

/-- a list, cut: it has no room behind it -/
theorem cutE_any (X : Nat → Prop) (a : Option Addr) (len cap : Nat) (ms : List MEnt) (l m : Nat) (w : World) (h : IsMs X w a len cap ms) (hl : l ≤ m) (hm : m ≤ len) :
    Calls Tryz.prog 39 #[.slice a len cap, .int .i64 (l : Int), .int .i64 (m : Int)] w fun e w' => ∃ b, e = .returned (.slice b (m - l) (m - l)) ∧ IsMs X w b (m - l) (m - l) ((ms.drop l).take (m - l)) ∧ b = (if m = l then a else a.map (·.add (l * 4))) ∧ w' = w := by
  have hlc := h.2.1
  have hcut := run_cutM3 a len cap hlc l (m - l) (m - l) (Nat.le_refl _) (by omega) (l : Int) (m : Int) (m : Int) rfl (by omega) (by omega)
  have HI := hide (isM_later h l (m - l) (m - l) m (by omega) (Nat.le_refl _) (by omega) (by omega))
  rw [show l + (m - l) = m by omega] at hcut
  clear h hlc
  generalize (if m = l then a else a.map (·.add (l * 4))) = b at *
  generalize m - l = n at *
  go_enter Tryz.func39, Tryz.ntmps39
  go_wp2
  go_ret
  exact ⟨b, rfl, HI.out, rfl, rfl⟩

set_option maxHeartbeats 2000000 in
/-- two lists that are alike -/
theorem sameE_any (X Y : Nat → Prop) (a b : Option Addr) (n c c' : Nat) (xs ys : List MEnt) (w : World) (h1 : IsMs X w a n c xs) (h2 : IsMs Y w b n c' ys) (he : xs.map MEnt.e = ys.map MEnt.e) :
    Calls Tryz.prog 34 #[.slice a n c, .slice b n c'] w fun e w' => e = .returned (.bool true) ∧ Below w.heap.size w w' := by
  have H1 := hide h1
  have H2 := hide h2
  have HE := hide he
  have hl := h1.1
  have hl2 := h2.1
  have hm : (n : Int) ≤ 9223372036854775807 := by have := h1.2.1; have := h1.2.2.1; unfold maxLen at this; omega
  clear h1 h2 he
  go_enter Tryz.func34, Tryz.ntmps34
  go_wp2
  go_loopw [13] (fun i wr => ∃ k : Nat, k ≤ n ∧ i = .int .i64 k ∧ Below w.heap.size w wr) (fun i _ => n - (intOf i).toNat)
  case atStart => exact ⟨0, Nat.zero_le _, rfl, Below.refl _ _⟩
  case round =>
    obtain ⟨k, hk, rfl, hb⟩ := hrel
    by_cases hlt : k < n
    · obtain ⟨g, off, rfl, hg, hA⟩ := H1.out.at hlt
      obtain ⟨g', off', rfl, hg', hA'⟩ := H2.out.at hlt
      have e1 := (hA k (by omega)).same (hb.block g hg)
      have e2 := (hA' k (by omega)).same (hb.block g' hg')
      have o1 := (H1.out.2.2.2.1 _ (ment_mem xs k (by omega))).2.1.keep hb
      have o2 := (H2.out.2.2.2.1 _ (ment_mem ys k (by omega))).2.1.keep hb
      have ee : (xs.getD k ment0).e = (ys.getD k ment0).e := by
        have h3 := congrArg (fun l => l[k]?) HE.out
        simp only [List.getElem?_map] at h3
        rw [List.getElem?_eq_getElem (show k < xs.length by omega), List.getElem?_eq_getElem (show k < ys.length by omega)] at h3
        simpa [List.getD, List.getElem?_eq_getElem (show k < xs.length by omega), List.getElem?_eq_getElem (show k < ys.length by omega)] using h3
      generalize xs.getD k ment0 = x at *
      generalize ys.getD k ment0 = y at *
      obtain ⟨xe, xb, xn, xc⟩ := x
      obtain ⟨ye, yb, yn, yc⟩ := y
      dsimp only at ee
      subst ee
      obtain ⟨xi, xt, xk, xd⟩ := xe
      obtain ⟨p0, p1, p2, p3⟩ := e1
      obtain ⟨q0, q1, q2, q3⟩ := e2
      dsimp only at p0 p1 p2 p3 q0 q1 q2 q3 o1 o2
      have k1 := (o1.keep (Below.refl _ wr).drew).conv
      have k2 := (o2.keep (Below.refl _ wr).drew).conv
      clear hA hA' o1 o2 H1 H2 HE
      go_wp2
      go_region_held3 (fun w' => w'.cell? ⟨g, off + k * 4, none⟩ = some (.int .u64 xi) ∧ w'.cell? ⟨g, off + k * 4 + 1, none⟩ = some (.int .u64 xt) ∧ w'.cell? ⟨g, off + k * 4 + 2, none⟩ = some (.int .i64 xk) ∧ w'.cell? ⟨g, off + k * 4 + 3, none⟩ = some (.slice xb xn xc) ∧ w'.cell? ⟨g', off' + k * 4, none⟩ = some (.int .u64 xi) ∧ w'.cell? ⟨g', off' + k * 4 + 1, none⟩ = some (.int .u64 xt) ∧ w'.cell? ⟨g', off' + k * 4 + 2, none⟩ = some (.int .i64 xk) ∧ w'.cell? ⟨g', off' + k * 4 + 3, none⟩ = some (.slice yb yn yc) ∧ (convert 26 9 (.slice xb xn xc)).run Tryz.prog w' = .ok (.string (strB xd)) w' ∧ (convert 26 9 (.slice yb yn yc)).run Tryz.prog w' = .ok (.string (strB xd)) w') (first | exact ⟨p0, p1, p2, p3, q0, q1, q2, q3, k1, k2⟩ | go_keep) (fail)
      all_goals
        go_wp2
        go_roundw
        case rel => exact ⟨k + 1, by omega, by go_num, hb.drew⟩
        case measure => simp [intOf]; omega
    · have hkn : k = n := by omega
      subst hkn
      go_wp2
      go_ret
      exact ⟨rfl, hb⟩

end Go.Proofs.YtodmieehdleohaaGreat
