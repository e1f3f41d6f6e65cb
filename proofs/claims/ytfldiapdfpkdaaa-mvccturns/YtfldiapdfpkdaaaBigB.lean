/- Clones of bytes as long as a call can be handed (2^47). -/
import Derived.Test.YtfldiapdfpkdaaaBtA
namespace Go.Proofs.Ytfldiapdfpkdaaa
open Go.RowKit NumMath Go.ChangeShapes Go.WideShapes Go.Deep
set_option linter.unusedVariables false
set_option maxRecDepth 100000

theorem run_cloneB (w : World) (ty : TypeId) (base : Nat) (v : Value) (hown : OwnB w base v []) (sa : Option Addr) (m c : Nat) (ys : List Int) (hB : SrcB w sa m ys) (hbig : m ≤ 140737488355328) (hbase : base ≤ w.heap.size) :
    ∃ v' w', (Builtin.append_ #[23, 23] ty #[v, .slice sa m c]).run Try.prog w = .ok v' w' ∧ OwnB w' base v' ys ∧ w.grownBy w' v.ownBlock := by
  obtain ⟨i0, hi, hz0, hz1, hz2⟩ := info_parts infoU8
  by_cases h0 : m = 0
  · subst h0
    have hy : ys = [] := List.length_eq_zero_iff.1 hB.1
    subst hy
    exact ⟨v, w, run_append_empty w base 23 ty 5 i0 1 Try.underlying23 hi v 0 _ hown sa c, hown, ⟨rfl, rfl, rfl, Nat.le_refl _, fun _ _ _ => rfl⟩⟩
  · rcases hB.2 with h1 | ⟨g, off, rfl, hg, hb⟩
    · exact absurd h1 h0
    · have hl := hB.1
      obtain ⟨v', w', hr, h2, h3, _, h5⟩ := run_append_own_at (P := Try.prog) w base 23 ty 5 i0 (.int .u8 0) 1 1 Try.underlying23 hi hz0 hz1 hz2 rfl (by decide) v 0 _ hown ⟨g, off, none⟩ m c (ys.map (Value.int .u8)) (by simp [hl]) (bytesAt_add hb) (u8_one ys) (by unfold maxLen; omega) (by omega) hbase
      refine ⟨v', w', hr, ?_, h3⟩
      unfold OwnB
      have e : 0 + m = ys.length := by omega
      rw [e] at h2
      exact h2

theorem wp_clB {ops : Array Oper} {rest : List Oper} {o : Oper} {a : Act} {Q : Exit → Act → World → Prop} (w : World) (hgd : o.guard = none) (s x : Operand)
    (ho : o.op = .call { callee := .builtin .append, args := #[s, x], argTypes := #[23, 23] }) (base : Nat) (v : Value) (hs : a.eval s = v) (hown : OwnB w base v [])
    (sa : Option Addr) (m c : Nat) (ys : List Int) (hx : a.eval x = .slice sa m c) (hB : SrcB w sa m ys) (hbig : m ≤ 140737488355328) (hbase : base ≤ w.heap.size)
    (h : ∀ v' w', OwnB w' base v' ys → w.grownBy w' v.ownBlock → wpList Try.prog ops Q rest (a.put o.dst v') w') : wpList Try.prog ops Q (o :: rest) a w := by
  refine wpList_plain hgd fun K hK => ?_
  obtain ⟨v', w', hr, h1, h2⟩ := run_cloneB w o.type base v hown sa m c ys hB hbig hbase
  unfold Oper.wp execOp
  simp only [ho, resolve, invoke, builtin, Sem.run_bind, Sem.run_pure, Result.andThen_ok, List.map_toArray, List.map_cons, List.map_nil, hs, hx, hr]
  exact hK _ _ (h v' w' h1 h2)

theorem cloneB_big (a : Option Addr) (len cap : Nat) (xs : List Int) (w : World) (hs : SrcB w a len xs) (hbig : len ≤ 140737488355328) :
    Calls Try.prog 57 #[.slice a len cap] w fun e w' => ∃ v, e = .returned v ∧ OwnB w' w.heap.size v xs ∧ Below w.heap.size w w' := by
  by_cases h9 : len ≤ 1000000000
  · exact clone_src a len cap xs w hs h9
  have HS := hide hs
  cases a with
  | none =>
    rcases hs.2 with h | ⟨g, off, h, _⟩
    · omega
    · cases h
  | some x =>
    clear hs
    have hnil : ∀ w, (binOp .eql 23 (.slice (some x) len cap) (.slice none 0 0)).run Try.prog w = .ok (.bool false) w := fun w => Lib.run_eql_slice_nil w 23 5 (some x) len cap 0 0 Try.underlying23
    go_enter Try.func57, Try.ntmps57
    go_wp2_with (first
      | (at_builtin; go_must (refine wp_clB _ rfl (.tmp 5) (.tmp 6) rfl w.heap.size _ rfl (ownB_empty w _ (Nat.le_refl _)) (some x) len cap xs rfl (HS.out.keep (new_below _ _)) hbig (by simp) ?_); intro v1 w1 hown1 hg1))
    go_ret
    refine ⟨v1, rfl, hown1, ?_⟩
    exact (new_below _ _).trans ((ownB_empty w _ (Nat.le_refl _)).grown hg1 (by simp))

end Go.Proofs.Ytfldiapdfpkdaaa
