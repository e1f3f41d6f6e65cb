/- Lists of numbers ([]uint64) in memory: where they lie, one that the call owns, append, Clone, SameNumbers. -/
import Derived.Test.YtodmieehdleohaaBytCut
import Derived.Test.YtodmieehdleohaaSb
namespace Go.Proofs.Ytodmieehdleohaa
open Go.RowKit NumMath Go.ChangeShapes Go.WideShapes Go.Deep
set_option linter.unusedVariables false
set_option maxRecDepth 100000

/-- block g holds, from off on, the numbers xs -/
def NumsAt (w : World) (g off : Nat) (xs : List Int) : Prop := ∀ i, i < xs.length → w.cell? ⟨g, off + i, none⟩ = some (.int .u64 (xs.getD i 0))

/-- the slice's elements are the numbers xs, wherever they lie -/
def IsNums (w : World) (a : Option Addr) (len cap : Nat) (xs : List Int) : Prop :=
  xs.length = len ∧ len ≤ cap ∧ cap ≤ maxLen ∧ (∀ c ∈ xs, 0 ≤ c ∧ c ≤ 18446744073709551615) ∧ (len = 0 ∨ ∃ g off, a = some ⟨g, off, none⟩ ∧ g < w.heap.size ∧ NumsAt w g off xs)

theorem IsNums.lies {w w' : World} {a : Option Addr} {len cap : Nat} {xs : List Int} {M : Nat → Prop} (h : IsNums w a len cap xs) (hk : Keeps M w w') (ho : len = 0 ∨ ∀ y, a = some y → ¬ M y.block) : IsNums w' a len cap xs := by
  obtain ⟨h1, h2, h3, h4, h5⟩ := h
  refine ⟨h1, h2, h3, h4, ?_⟩
  rcases h5 with h5 | ⟨g, off, rfl, hg, hB⟩
  · exact .inl h5
  · rcases ho with ho | ho
    · exact .inl ho
    · exact .inr ⟨g, off, rfl, Nat.lt_of_lt_of_le hg hk.size, fun i hi => (hk.cell hg (ho _ rfl)).trans (hB i hi)⟩

theorem IsNums.keep {w w' : World} {a : Option Addr} {len cap : Nat} {xs : List Int} (h : IsNums w a len cap xs) (hb : Below w.heap.size w w') : IsNums w' a len cap xs :=
  h.lies (Below.keeps hb (fun _ => False)) (.inr (fun _ _ h => h))

theorem IsNums.at {w : World} {a : Option Addr} {len cap : Nat} {xs : List Int} (h : IsNums w a len cap xs) {k : Nat} (hk : k < len) : ∃ g off, a = some ⟨g, off, none⟩ ∧ g < w.heap.size ∧ NumsAt w g off xs := by
  obtain ⟨h1, h2, h3, h4, h5⟩ := h
  rcases h5 with h5 | h5
  · omega
  · exact h5

theorem isNums_nil (w : World) : IsNums w none 0 0 [] := ⟨rfl, Nat.le_refl _, Nat.zero_le _, by simp, .inl rfl⟩

theorem wf_u64n {n : Int} (h : (Lit.int .u64 n).wf = true) : 0 ≤ n ∧ n ≤ 18446744073709551615 := by
  simp [Lit.wf, IntKind.min, IntKind.max, IntKind.signed, IntKind.bits] at h
  omega

theorem open_nums {H : Type} {enc : TypeId × Value → H} {w : World} {base : Nat} {spare : Nat → Bool} {held : Bool} {fuel : Nat} {a : Option Addr} {len cap : Nat} {x : DataW H × List MemPlace}
    (h : DataW.trod enc Try.prog w base spare held fuel 34 [.slice a len cap] = some x) : ∃ xs, IsNums w a len cap xs := by
  rcases open_slice1 Try.underlying34 (by kernel_rfl) h with ⟨hcs, _⟩ | ⟨ad, l, c, m, n, V, D, Pl, hcs, hb, hl, hm, hmm, _, hx⟩
  · simp at hcs
    obtain ⟨rfl, rfl, rfl⟩ := hcs
    exact ⟨[], rfl, Nat.le_refl _, Nat.zero_le _, by simp, .inl rfl⟩
  · simp only [List.cons.injEq, Value.slice.injEq, and_true] at hcs
    obtain ⟨rfl, rfl, rfl⟩ := hcs
    have hlm : len ≤ m := by rw [hmm]; split <;> omega
    have each : ∀ i, i < len → ∃ c : Int, (0 ≤ c ∧ c ≤ 18446744073709551615) ∧ w.cell? (ad.add i) = some (.int .u64 c) := by
      intro i hi
      obtain ⟨h1, h2⟩ := hx i (by omega)
      obtain ⟨n0, e0, _, f0⟩ := DataW.trod_int Try.underlying32 h2
      simp at e0
      exact ⟨n0, wf_u64n f0, by rw [h1, e0]⟩
    obtain ⟨V, hV⟩ := choose_lt each
    have hg : ∀ i, i < len → ((List.range len).map V).getD i 0 = V i := by
      intro i hi
      simp [List.getD, hi]
    refine ⟨(List.range len).map V, by simp, hl, hm, ?_, ?_⟩
    · intro v hv
      simp only [List.mem_map, List.mem_range] at hv
      obtain ⟨i, hi, rfl⟩ := hv
      exact (hV i hi).1
    · by_cases h0 : len = 0
      · exact .inl h0
      · right
        obtain ⟨b, off, spot⟩ := ad
        have hspot : spot = none := by
          have := World.cell?_spot (hV 0 (by omega)).2
          simpa [Addr.add] using this
        subst hspot
        refine ⟨b, off, rfl, ?_, ?_⟩
        · have := World.block_lt_of_cell? _ _ (hV 0 (by omega)).2
          rw [add_plain] at this
          exact this
        · intro i hi
          have hi' : i < len := by simpa using hi
          rw [hg i hi']
          have c0 := (hV i hi').2
          rw [add_plain] at c0
          exact c0

/-- a slice of numbers, whatever it is -/
theorem open_nums' {H : Type} {enc : TypeId × Value → H} {w : World} {base : Nat} {spare : Nat → Bool} {held : Bool} {fuel : Nat} {v : Value} {x : DataW H × List MemPlace}
    (h : DataW.trod enc Try.prog w base spare held fuel 34 [v] = some x) : ∃ a len cap xs, v = .slice a len cap ∧ IsNums w a len cap xs := by
  have hv : ∃ a len cap, v = .slice a len cap := by
    rcases open_slice1 Try.underlying34 (by kernel_rfl) h with ⟨hcs, _⟩ | ⟨ad, l, c, m, n, V, D, Pl, hcs, _⟩
    · simp at hcs; exact ⟨_, _, _, hcs⟩
    · simp at hcs; exact ⟨_, _, _, hcs⟩
  obtain ⟨a, len, cap, rfl⟩ := hv
  obtain ⟨xs, hx⟩ := open_nums h
  exact ⟨a, len, cap, xs, rfl, hx⟩

/-- the slice v holds the numbers xs, in a block of the call's own (from base on), or is nil -/
def OwnU (w : World) (base : Nat) (v : Value) (xs : List Int) : Prop := w.ownsRow base 32 1 v xs.length (xs.map (Value.int .u64))

theorem ownU_nil (w : World) (base : Nat) : OwnU w base (.slice none 0 0) [] := World.ownsRow_nil _ _ _ _

theorem ownU_empty (w : World) (base : Nat) (hb : base ≤ w.heap.size) : OwnU (w.alloc (.cells #[] 32)) base (.slice (some ⟨w.heap.size, 0, none⟩) 0 0) [] := by
  exact ⟨by simp, .inr ⟨w.heap.size, 0, #[], rfl, hb, heap_alloc_new w _, Nat.le_refl _, by unfold maxLen; omega, rfl, rfl⟩⟩

theorem OwnU.lies {w w' : World} {base : Nat} {v : Value} {xs : List Int} (h : OwnU w base v xs) (hb : ∀ g, v.ownBlock = some g → w'.heap[g]? = w.heap[g]?) : OwnU w' base v xs := by
  refine ⟨h.1, ?_⟩
  rcases h.2 with h0 | ⟨g, cap, cur, hv, hg, hh, hr⟩
  · exact .inl h0
  · refine .inr ⟨g, cap, cur, hv, hg, ?_, hr⟩
    rw [hb g (by rw [hv]; rfl)]
    exact hh

theorem OwnU.lt {w : World} {base : Nat} {v : Value} {xs : List Int} (h : OwnU w base v xs) : ∀ g, v.ownBlock = some g → base ≤ g ∧ g < w.heap.size := World.ownsRow.lt h

theorem OwnU.keep {w w' : World} {base : Nat} {v : Value} {xs : List Int} (h : OwnU w base v xs) (hb : Below w.heap.size w w') : OwnU w' base v xs := h.lies (fun g hg => hb.block g (h.lt g hg).2)

theorem OwnU.mono {w : World} {base base' : Nat} {v : Value} {xs : List Int} (h : OwnU w base v xs) (hb : base' ≤ base) : OwnU w base' v xs := by
  refine ⟨h.1, ?_⟩
  rcases h.2 with h0 | ⟨g, cap, cur, hv, hg, hr⟩
  · exact .inl h0
  · exact .inr ⟨g, cap, cur, hv, Nat.le_trans hb hg, hr⟩

theorem OwnU.form {w : World} {base : Nat} {v : Value} {xs : List Int} (h : OwnU w base v xs) : (v = .slice none 0 0 ∧ xs = []) ∨ ∃ g cap, v = .slice (some ⟨g, 0, none⟩) xs.length cap ∧ base ≤ g ∧ g < w.heap.size ∧ xs.length ≤ cap ∧ cap ≤ maxLen ∧ NumsAt w g 0 xs := by
  have hlt := World.ownsRow.lt h
  rcases h.2 with ⟨rfl, h0⟩ | ⟨g, cap, cur, rfl, hg, hh, hn, hm, _, _⟩
  · exact .inl ⟨rfl, List.length_eq_zero_iff.1 h0⟩
  · refine .inr ⟨g, cap, rfl, hg, (hlt g rfl).2, hn, hm, fun i hi => ?_⟩
    have h1 := World.ownsRow.cells h (g := g) rfl i (.int .u64 (xs.getD i 0)) (by simp [List.getD, List.getElem?_eq_getElem hi])
    have h2 : (⟨g, 0, none⟩ : Addr).add i = ⟨g, 0 + i, none⟩ := by unfold Addr.add; split <;> simp_all
    rw [h2] at h1
    exact h1

theorem OwnU.is {w : World} {base : Nat} {v : Value} {xs : List Int} (h : OwnU w base v xs) (hr : ∀ c ∈ xs, 0 ≤ c ∧ c ≤ 18446744073709551615) : ∃ a n cap, v = .slice a n cap ∧ IsNums w a n cap xs ∧ ∀ y, a = some y → base ≤ y.block ∧ v.ownBlock = some y.block := by
  rcases h.form with ⟨rfl, rfl⟩ | ⟨g, cap, rfl, hg1, hg2, hc, hm, hB⟩
  · exact ⟨none, 0, 0, rfl, isNums_nil w, by intro y hy; cases hy⟩
  · exact ⟨_, _, cap, rfl, ⟨rfl, hc, hm, hr, .inr ⟨g, 0, rfl, hg2, hB⟩⟩, by intro y hy; cases hy; exact ⟨hg1, rfl⟩⟩

theorem OwnU.any3 {w : World} {base : Nat} {v : Value} {xs : List Int} (h : OwnU w base v xs) : ∃ a n c, v = .slice a n c := by
  rcases h.form with ⟨rfl, rfl⟩ | ⟨g, cap, rfl, _⟩
  · exact ⟨_, _, _, rfl⟩
  · exact ⟨_, _, _, rfl⟩

theorem infoU64 : (Try.prog.info? 32).map (fun i => (i.zero, i.size, i.bytes)) = some (some (.int .u64 0), 1, 8) := by kernel_rfl

theorem numsAt_add {w : World} {g off : Nat} {ys : List Int} (hB : NumsAt w g off ys) : ∀ j u, (ys.map (Value.int .u64))[j]? = some u → w.cell? ((⟨g, off, none⟩ : Addr).add j) = some u := by
  intro j u hu
  have h2 : (⟨g, off, none⟩ : Addr).add j = ⟨g, off + j, none⟩ := by unfold Addr.add; split <;> simp_all
  rw [h2]
  rw [List.getElem?_map, Option.map_eq_some_iff] at hu
  obtain ⟨c, hc, rfl⟩ := hu
  obtain ⟨hj, rfl⟩ := List.getElem?_eq_some_iff.1 hc
  have := hB j hj
  simpa [List.getD, List.getElem?_eq_getElem hj] using this

theorem u64_one (ys : List Int) : ∀ u ∈ ys.map (Value.int .u64), u.oneCell' = true := by
  intro u hu
  obtain ⟨c, _, rfl⟩ := List.mem_map.1 hu
  rfl

/-- a slice's elements are the numbers xs, wherever they lie (no bound) -/
def SrcU (w : World) (a : Option Addr) (len : Nat) (xs : List Int) : Prop := xs.length = len ∧ (len = 0 ∨ ∃ g off, a = some ⟨g, off, none⟩ ∧ g < w.heap.size ∧ NumsAt w g off xs)

theorem IsNums.src {w : World} {a : Option Addr} {len cap : Nat} {xs : List Int} (h : IsNums w a len cap xs) : SrcU w a len xs := ⟨h.1, h.2.2.2.2⟩

theorem SrcU.keep {w w' : World} {a : Option Addr} {len : Nat} {xs : List Int} (h : SrcU w a len xs) (hb : Below w.heap.size w w') : SrcU w' a len xs := by
  refine ⟨h.1, ?_⟩
  rcases h.2 with h0 | ⟨g, off, ha, hg, hc⟩
  · exact .inl h0
  · exact .inr ⟨g, off, ha, Nat.lt_of_lt_of_le hg hb.size, fun i hi => (hb.cell (p := ⟨g, off + i, none⟩) hg).trans (hc i hi)⟩

/-- append of numbers, wherever they lie, as it runs -/
theorem run_joinU (w : World) (ty : TypeId) (base : Nat) (v : Value) (bs : List Int) (hown : OwnU w base v bs) (sa : Option Addr) (m c : Nat) (ys : List Int) (hB : SrcU w sa m ys) (hbig : bs.length + ys.length ≤ 1000000000) (hbase : base ≤ w.heap.size) :
    ∃ v' w', (Builtin.append_ #[34, 34] ty #[v, .slice sa m c]).run Try.prog w = .ok v' w' ∧ OwnU w' base v' (bs ++ ys) ∧ w.grownBy w' v.ownBlock ∧ AtB w v v' := by
  obtain ⟨i0, hi, hz0, hz1, hz2⟩ := info_parts infoU64
  by_cases h0 : m = 0
  · subst h0
    have hy : ys = [] := List.length_eq_zero_iff.1 hB.1
    subst hy
    exact ⟨v, w, run_append_empty w base 34 ty 32 i0 1 Try.underlying34 hi v bs.length _ hown sa c, by rw [List.append_nil]; exact hown, ⟨rfl, rfl, rfl, Nat.le_refl _, fun _ _ _ => rfl⟩, .inl rfl⟩
  · rcases hB.2 with h1 | ⟨g, off, rfl, hg, hb⟩
    · exact absurd h1 h0
    · have hl := hB.1
      obtain ⟨v', w', hr, h2, h3, _, h5⟩ := run_append_own_at (P := Try.prog) w base 34 ty 32 i0 (.int .u64 0) 1 8 Try.underlying34 hi hz0 hz1 hz2 rfl (by decide) v bs.length _ hown ⟨g, off, none⟩ m c (ys.map (Value.int .u64)) (by simp [hl]) (numsAt_add hb) (u64_one ys) (by unfold maxLen; omega) (by omega) hbase
      refine ⟨v', w', hr, ?_, h3, ?_⟩
      · unfold OwnU
        rw [List.length_append, List.map_append, hl]
        exact h2
      · rcases h5 with h5 | h5
        · exact .inl h5
        · exact .inr ⟨_, h5, Nat.le_refl _⟩

theorem step_joinU {ops : Array Oper} {o : Oper} {a : Act} {K : Act → World → Prop} {Q : Exit → Act → World → Prop} {E : Prop} (w : World) (hgd : Region.wanted o (yielded ops a.tmps) = true) (s x : Operand)
    (ho : o.op = .call { callee := .builtin .append, args := #[s, x], argTypes := #[34, 34] }) (base : Nat) (v : Value) (bs : List Int) (hs : a.eval s = v) (hown : OwnU w base v bs)
    (sa : Option Addr) (m c : Nat) (ys : List Int) (hx : a.eval x = .slice sa m c) (hB : SrcU w sa m ys) (hbig : bs.length + ys.length ≤ 1000000000) (hbase : base ≤ w.heap.size)
    (h : ∀ v' w', OwnU w' base v' (bs ++ ys) → w.grownBy w' v.ownBlock → AtB w v v' → K (a.put o.dst v') w') :
    if Region.wanted o (yielded ops a.tmps) = true then Oper.wp Try.prog o a w K Q else E := by
  rw [if_pos hgd]
  obtain ⟨v', w', hr, h1, h2, h3⟩ := run_joinU w o.type base v bs hown sa m c ys hB hbig hbase
  unfold Oper.wp execOp
  simp only [ho, resolve, invoke, builtin, Sem.run_bind, Sem.run_pure, Result.andThen_ok, List.map_toArray, List.map_cons, List.map_nil, hs, hx, hr]
  exact h v' w' h1 h2 h3

/-- append of numbers, wherever they lie -/
theorem wp_joinU {ops : Array Oper} {rest : List Oper} {o : Oper} {a : Act} {Q : Exit → Act → World → Prop} (w : World) (hgd : o.guard = none) (s x : Operand)
    (ho : o.op = .call { callee := .builtin .append, args := #[s, x], argTypes := #[34, 34] }) (base : Nat) (v : Value) (bs : List Int) (hs : a.eval s = v) (hown : OwnU w base v bs)
    (sa : Option Addr) (m c : Nat) (ys : List Int) (hx : a.eval x = .slice sa m c) (hB : SrcU w sa m ys) (hbig : bs.length + ys.length ≤ 1000000000) (hbase : base ≤ w.heap.size)
    (h : ∀ v' w', OwnU w' base v' (bs ++ ys) → w.grownBy w' v.ownBlock → AtB w v v' → wpList Try.prog ops Q rest (a.put o.dst v') w') : wpList Try.prog ops Q (o :: rest) a w :=
  wpList_step fun K hK => step_joinU w (by simp [Region.wanted, hgd]) s x ho base v bs hs hown sa m c ys hx hB hbig hbase (fun v' w' h1 h2 h3 => hK _ _ (h v' w' h1 h2 h3))

theorem OwnU.grown {w w' : World} {base : Nat} {v : Value} {xs : List Int} (h : OwnU w base v xs) (hg : w.grownBy w' v.ownBlock) (hb : base ≤ w.heap.size) : Below base w w' :=
  (Below.refl _ _).grown hg hb (fun k hk => (World.ownsRow.lt h k hk).1)

theorem srcU_one (w : World) (n : Int) (g : Nat) (hg : g < w.heap.size) (h : w.cell? ⟨g, 0, none⟩ = some (.int .u64 n)) : SrcU w (some ⟨g, 0, none⟩) 1 [n] :=
  ⟨rfl, .inr ⟨g, 0, rfl, hg, fun i hi => by
    match i, hi with
    | 0, _ => exact h⟩⟩

theorem cloneU_any (a : Option Addr) (len cap : Nat) (xs : List Int) (w : World) (hs : SrcU w a len xs) (hbig : len ≤ 100000000) :
    Calls Try.prog 31 #[.slice a len cap] w fun e w' => ∃ v, e = .returned v ∧ OwnU w' w.heap.size v xs ∧ Below w.heap.size w w' := by
  have HS := hide hs
  cases a with
  | none =>
    have h0 : len = 0 := by
      rcases hs.2 with h | ⟨g, off, h, _⟩
      · exact h
      · cases h
    have hx : xs = [] := List.length_eq_zero_iff.1 (hs.1.trans h0)
    subst h0 hx
    clear hs
    have hnil : ∀ w, (binOp .eql 34 (.slice none 0 cap) (.slice none 0 0)).run Try.prog w = .ok (.bool true) w := fun w => Lib.run_eql_slice_nil w 34 32 none 0 cap 0 0 Try.underlying34
    go_enter Try.func31, Try.ntmps31
    go_wp2
    go_ret
    exact ⟨_, rfl, ownU_nil _ _, Below.refl _ _⟩
  | some x =>
    clear hs
    have hnil : ∀ w, (binOp .eql 34 (.slice (some x) len cap) (.slice none 0 0)).run Try.prog w = .ok (.bool false) w := fun w => Lib.run_eql_slice_nil w 34 32 (some x) len cap 0 0 Try.underlying34
    go_enter Try.func31, Try.ntmps31
    go_wp2_with (first
      | (at_builtin; go_must (refine wp_joinU _ rfl (.tmp 5) (.tmp 6) rfl w.heap.size _ [] rfl (ownU_empty w _ (Nat.le_refl _)) (some x) len cap xs rfl (HS.out.keep (new_below _ _)) (by rw [HS.out.1]; simp; omega) (by simp) ?_); intro v1 w1 hown1 hg1 hat1))
    go_ret
    refine ⟨v1, rfl, hown1, ?_⟩
    exact (new_below _ _).trans ((ownU_empty w _ (Nat.le_refl _)).grown hg1 (by simp))

set_option maxHeartbeats 1000000 in
/-- two lists that are alike -/
theorem sameU_any (a b : Option Addr) (n c c' : Nat) (xs : List Int) (w : World) (h1 : IsNums w a n c xs) (h2 : IsNums w b n c' xs) :
    Calls Try.prog 32 #[.slice a n c, .slice b n c'] w fun e w' => e = .returned (.bool true) ∧ Below w.heap.size w w' := by
  have H1 := hide h1
  have H2 := hide h2
  have hl := h1.1
  have hm : (n : Int) ≤ 9223372036854775807 := by have := h1.2.1; have := h1.2.2.1; unfold maxLen at this; omega
  clear h1 h2
  go_enter Try.func32, Try.ntmps32
  go_wp2
  go_loopw [13] (fun i wr => ∃ k : Nat, k ≤ n ∧ i = .int .i64 k ∧ Below w.heap.size w wr) (fun i _ => n - (intOf i).toNat)
  case atStart => exact ⟨0, Nat.zero_le _, rfl, Below.refl _ _⟩
  case round =>
    obtain ⟨k, hk, rfl, hb⟩ := hrel
    by_cases hlt : k < n
    · obtain ⟨g, off, rfl, hg, hA⟩ := H1.out.at hlt
      obtain ⟨g', off', rfl, hg', hA'⟩ := H2.out.at hlt
      have e1 := (hb.cell (p := ⟨g, off + k, none⟩) hg).trans (hA k (by omega))
      have e2 := (hb.cell (p := ⟨g', off' + k, none⟩) hg').trans (hA' k (by omega))
      generalize xs.getD k 0 = x at e1 e2
      clear hA hA'
      go_wp2
      go_region
      all_goals
        go_wp2
        go_roundw
        case rel => exact ⟨k + 1, by omega, by go_num, hb.drew⟩
        case measure => simp [intOf]; omega
    · have hkn : k = n := by omega
      subst hkn
      go_wp2
      go_ret
      exact ⟨rfl, hb⟩

end Go.Proofs.Ytodmieehdleohaa
