/- Clones of lists as long as a call can be handed (2^47 bytes). -/
import Derived.Test.YtodmieehdleohaaMs3
namespace Go.Proofs.Ytodmieehdleohaa
open Go.RowKit NumMath Go.ChangeShapes Go.WideShapes Go.Deep
set_option linter.unusedVariables false
set_option maxRecDepth 100000

theorem run_cloneB (w : World) (ty : TypeId) (base : Nat) (v : Value) (hown : OwnB w base v []) (sa : Option Addr) (m c : Nat) (ys : List Int) (hB : SrcB w sa m ys) (hbig : m ≤ 140737488355328) (hbase : base ≤ w.heap.size) :
    ∃ v' w', (Builtin.append_ #[35, 35] ty #[v, .slice sa m c]).run Try.prog w = .ok v' w' ∧ OwnB w' base v' ys ∧ w.grownBy w' v.ownBlock := by
  obtain ⟨i0, hi, hz0, hz1, hz2⟩ := info_parts infoU8
  by_cases h0 : m = 0
  · subst h0
    have hy : ys = [] := List.length_eq_zero_iff.1 hB.1
    subst hy
    exact ⟨v, w, run_append_empty w base 35 ty 5 i0 1 Try.underlying35 hi v 0 _ hown sa c, hown, ⟨rfl, rfl, rfl, Nat.le_refl _, fun _ _ _ => rfl⟩⟩
  · rcases hB.2 with h1 | ⟨g, off, rfl, hg, hb⟩
    · exact absurd h1 h0
    · have hl := hB.1
      obtain ⟨v', w', hr, h2, h3, _, h5⟩ := run_append_own_at (P := Try.prog) w base 35 ty 5 i0 (.int .u8 0) 1 1 Try.underlying35 hi hz0 hz1 hz2 rfl (by decide) v 0 _ hown ⟨g, off, none⟩ m c (ys.map (Value.int .u8)) (by simp [hl]) (bytesAt_add hb) (u8_one ys) (by unfold maxLen; omega) (by omega) hbase
      refine ⟨v', w', hr, ?_, h3⟩
      unfold OwnB
      have e : 0 + m = ys.length := by omega
      rw [e] at h2
      exact h2

theorem run_cloneU (w : World) (ty : TypeId) (base : Nat) (v : Value) (hown : OwnU w base v []) (sa : Option Addr) (m c : Nat) (ys : List Int) (hB : SrcU w sa m ys) (hbig : m * 8 ≤ 140737488355328) (hbase : base ≤ w.heap.size) :
    ∃ v' w', (Builtin.append_ #[34, 34] ty #[v, .slice sa m c]).run Try.prog w = .ok v' w' ∧ OwnU w' base v' ys ∧ w.grownBy w' v.ownBlock := by
  obtain ⟨i0, hi, hz0, hz1, hz2⟩ := info_parts infoU64
  by_cases h0 : m = 0
  · subst h0
    have hy : ys = [] := List.length_eq_zero_iff.1 hB.1
    subst hy
    exact ⟨v, w, run_append_empty w base 34 ty 32 i0 1 Try.underlying34 hi v 0 _ hown sa c, hown, ⟨rfl, rfl, rfl, Nat.le_refl _, fun _ _ _ => rfl⟩⟩
  · rcases hB.2 with h1 | ⟨g, off, rfl, hg, hb⟩
    · exact absurd h1 h0
    · have hl := hB.1
      obtain ⟨v', w', hr, h2, h3, _, h5⟩ := run_append_own_at (P := Try.prog) w base 34 ty 32 i0 (.int .u64 0) 1 8 Try.underlying34 hi hz0 hz1 hz2 rfl (by decide) v 0 _ hown ⟨g, off, none⟩ m c (ys.map (Value.int .u64)) (by simp [hl]) (numsAt_add hb) (u64_one ys) (by unfold maxLen; omega) (by omega) hbase
      refine ⟨v', w', hr, ?_, h3⟩
      unfold OwnU
      have e : 0 + m = ys.length := by omega
      rw [e] at h2
      exact h2

theorem run_cloneM (w : World) (ty : TypeId) (base : Nat) (v : Value) (hown : RowM w base v []) (sa : Option Addr) (m c : Nat) (ys : List MEnt) (hB : SrcM w sa m ys) (hbig : m * 48 ≤ 140737488355328) (hbase : base ≤ w.heap.size) :
    ∃ v' w', (Builtin.append_ #[33, 33] ty #[v, .slice sa m c]).run Try.prog w = .ok v' w' ∧ RowM w' base v' ys ∧ w.grownBy w' v.ownBlock := by
  obtain ⟨i0, hi, hz0, hz1, hz2⟩ := info_parts infoEnt
  by_cases h0 : m = 0
  · subst h0
    have hy : ys = [] := List.length_eq_zero_iff.1 hB.1
    subst hy
    exact ⟨v, w, run_append_empty w base 33 ty 62 i0 4 Try.underlying33 hi v 0 _ hown sa c, hown, ⟨rfl, rfl, rfl, Nat.le_refl _, fun _ _ _ => rfl⟩⟩
  · rcases hB.2 with h1 | ⟨g, off, rfl, hg, hb⟩
    · exact absurd h1 h0
    · have hl := hB.1
      obtain ⟨v', w', hr, h2, h3, _, h5⟩ := run_append_own_at (P := Try.prog) w base 33 ty 62 i0 _ 4 48 Try.underlying33 hi hz0 hz1 hz2 rfl (by decide) v 0 _ hown ⟨g, off, none⟩ m c (cellsM ys) (by rw [cellsM_length, hl]) (cellsM_add hb) (cellsM_one ys) (by unfold maxLen; omega) (by omega) hbase
      refine ⟨v', w', hr, ?_, h3⟩
      unfold RowM
      have e : 0 + m = ys.length := by omega
      rw [e] at h2
      exact h2

theorem wp_clB {ops : Array Oper} {rest : List Oper} {o : Oper} {a : Act} {Q : Exit → Act → World → Prop} (w : World) (hgd : o.guard = none) (s x : Operand)
    (ho : o.op = .call { callee := .builtin .append, args := #[s, x], argTypes := #[35, 35] }) (base : Nat) (v : Value) (hs : a.eval s = v) (hown : OwnB w base v [])
    (sa : Option Addr) (m c : Nat) (ys : List Int) (hx : a.eval x = .slice sa m c) (hB : SrcB w sa m ys) (hbig : m ≤ 140737488355328) (hbase : base ≤ w.heap.size)
    (h : ∀ v' w', OwnB w' base v' ys → w.grownBy w' v.ownBlock → wpList Try.prog ops Q rest (a.put o.dst v') w') : wpList Try.prog ops Q (o :: rest) a w := by
  refine wpList_plain hgd fun K hK => ?_
  obtain ⟨v', w', hr, h1, h2⟩ := run_cloneB w o.type base v hown sa m c ys hB hbig hbase
  unfold Oper.wp execOp
  simp only [ho, resolve, invoke, builtin, Sem.run_bind, Sem.run_pure, Result.andThen_ok, List.map_toArray, List.map_cons, List.map_nil, hs, hx, hr]
  exact hK _ _ (h v' w' h1 h2)

theorem wp_clU {ops : Array Oper} {rest : List Oper} {o : Oper} {a : Act} {Q : Exit → Act → World → Prop} (w : World) (hgd : o.guard = none) (s x : Operand)
    (ho : o.op = .call { callee := .builtin .append, args := #[s, x], argTypes := #[34, 34] }) (base : Nat) (v : Value) (hs : a.eval s = v) (hown : OwnU w base v [])
    (sa : Option Addr) (m c : Nat) (ys : List Int) (hx : a.eval x = .slice sa m c) (hB : SrcU w sa m ys) (hbig : m * 8 ≤ 140737488355328) (hbase : base ≤ w.heap.size)
    (h : ∀ v' w', OwnU w' base v' ys → w.grownBy w' v.ownBlock → wpList Try.prog ops Q rest (a.put o.dst v') w') : wpList Try.prog ops Q (o :: rest) a w := by
  refine wpList_plain hgd fun K hK => ?_
  obtain ⟨v', w', hr, h1, h2⟩ := run_cloneU w o.type base v hown sa m c ys hB hbig hbase
  unfold Oper.wp execOp
  simp only [ho, resolve, invoke, builtin, Sem.run_bind, Sem.run_pure, Result.andThen_ok, List.map_toArray, List.map_cons, List.map_nil, hs, hx, hr]
  exact hK _ _ (h v' w' h1 h2)

theorem wp_clM {ops : Array Oper} {rest : List Oper} {o : Oper} {a : Act} {Q : Exit → Act → World → Prop} (w : World) (hgd : o.guard = none) (s x : Operand)
    (ho : o.op = .call { callee := .builtin .append, args := #[s, x], argTypes := #[33, 33] }) (base : Nat) (v : Value) (hs : a.eval s = v) (hown : RowM w base v [])
    (sa : Option Addr) (m c : Nat) (ys : List MEnt) (hx : a.eval x = .slice sa m c) (hB : SrcM w sa m ys) (hbig : m * 48 ≤ 140737488355328) (hbase : base ≤ w.heap.size)
    (h : ∀ v' w', RowM w' base v' ys → w.grownBy w' v.ownBlock → wpList Try.prog ops Q rest (a.put o.dst v') w') : wpList Try.prog ops Q (o :: rest) a w := by
  refine wpList_plain hgd fun K hK => ?_
  obtain ⟨v', w', hr, h1, h2⟩ := run_cloneM w o.type base v hown sa m c ys hB hbig hbase
  unfold Oper.wp execOp
  simp only [ho, resolve, invoke, builtin, Sem.run_bind, Sem.run_pure, Result.andThen_ok, List.map_toArray, List.map_cons, List.map_nil, hs, hx, hr]
  exact hK _ _ (h v' w' h1 h2)

theorem cloneB_big (a : Option Addr) (len cap : Nat) (xs : List Int) (w : World) (hs : SrcB w a len xs) (hbig : len ≤ 140737488355328) :
    Calls Try.prog 30 #[.slice a len cap] w fun e w' => ∃ v, e = .returned v ∧ OwnB w' w.heap.size v xs ∧ Below w.heap.size w w' := by
  by_cases h9 : len ≤ 1000000000
  · exact clone_src a len cap xs w hs h9
  have HS := hide hs
  cases a with
  | none =>
    rcases hs.2 with h | ⟨g, off, h, _⟩
    · omega
    · cases h
  | some x =>
    clear hs
    have hnil : ∀ w, (binOp .eql 35 (.slice (some x) len cap) (.slice none 0 0)).run Try.prog w = .ok (.bool false) w := fun w => Lib.run_eql_slice_nil w 35 5 (some x) len cap 0 0 Try.underlying35
    go_enter Try.func30, Try.ntmps30
    go_wp2_with (first
      | (at_builtin; go_must (refine wp_clB _ rfl (.tmp 5) (.tmp 6) rfl w.heap.size _ rfl (ownB_empty w _ (Nat.le_refl _)) (some x) len cap xs rfl (HS.out.keep (new_below _ _)) hbig (by simp) ?_); intro v1 w1 hown1 hg1))
    go_ret
    refine ⟨v1, rfl, hown1, ?_⟩
    exact (new_below _ _).trans ((ownB_empty w _ (Nat.le_refl _)).grown hg1 (by simp))

theorem cloneU_big (a : Option Addr) (len cap : Nat) (xs : List Int) (w : World) (hs : SrcU w a len xs) (hbig : len * 8 ≤ 140737488355328) :
    Calls Try.prog 31 #[.slice a len cap] w fun e w' => ∃ v, e = .returned v ∧ OwnU w' w.heap.size v xs ∧ Below w.heap.size w w' := by
  by_cases h9 : len ≤ 100000000
  · exact cloneU_any a len cap xs w hs h9
  have HS := hide hs
  cases a with
  | none =>
    rcases hs.2 with h | ⟨g, off, h, _⟩
    · omega
    · cases h
  | some x =>
    clear hs
    have hnil : ∀ w, (binOp .eql 34 (.slice (some x) len cap) (.slice none 0 0)).run Try.prog w = .ok (.bool false) w := fun w => Lib.run_eql_slice_nil w 34 32 (some x) len cap 0 0 Try.underlying34
    go_enter Try.func31, Try.ntmps31
    go_wp2_with (first
      | (at_builtin; go_must (refine wp_clU _ rfl (.tmp 5) (.tmp 6) rfl w.heap.size _ rfl (ownU_empty w _ (Nat.le_refl _)) (some x) len cap xs rfl (HS.out.keep (new_below _ _)) hbig (by simp) ?_); intro v1 w1 hown1 hg1))
    go_ret
    refine ⟨v1, rfl, hown1, ?_⟩
    exact (new_below _ _).trans ((ownU_empty w _ (Nat.le_refl _)).grown hg1 (by simp))

theorem cloneM_big (a : Option Addr) (len cap : Nat) (ms : List MEnt) (w : World) (hs : SrcM w a len ms) (hbig : len * 48 ≤ 140737488355328) :
    Calls Try.prog 29 #[.slice a len cap] w fun e w' => ∃ v, e = .returned v ∧ RowM w' w.heap.size v ms ∧ Below w.heap.size w w' := by
  by_cases h9 : len ≤ 100000000
  · exact cloneM_any a len cap ms w hs h9
  have HS := hide hs
  cases a with
  | none =>
    rcases hs.2 with h | ⟨g, off, h, _⟩
    · omega
    · cases h
  | some x =>
    clear hs
    have hnil : ∀ w, (binOp .eql 33 (.slice (some x) len cap) (.slice none 0 0)).run Try.prog w = .ok (.bool false) w := fun w => Lib.run_eql_slice_nil w 33 62 (some x) len cap 0 0 Try.underlying33
    go_enter Try.func29, Try.ntmps29
    go_wp2_with (first
      | (at_builtin; go_must (refine wp_clM _ rfl (.tmp 5) (.tmp 6) rfl w.heap.size _ rfl (rowM_empty w _ (Nat.le_refl _)) (some x) len cap ms rfl (HS.out.keep (new_below _ _)) hbig (by simp) ?_); intro v1 w1 hown1 hg1))
    go_ret
    refine ⟨v1, rfl, hown1, ?_⟩
    exact (new_below _ _).trans ((rowM_empty w _ (Nat.le_refl _)).grown hg1 (by simp))

end Go.Proofs.Ytodmieehdleohaa
