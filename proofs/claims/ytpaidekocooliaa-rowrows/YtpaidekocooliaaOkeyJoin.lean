/- append of a whole list of values, wherever it lies, to one that the call owns. -/
import Derived.Test.YtpaidekocooliaaOkeyOwnV
import Derived.Laws.OwnMore
namespace Go.Proofs.Ytpaidekocooliaa
open Go.RowKit NumMath
set_option linter.unusedVariables false

theorem run_append_empty (w : World) (base : Nat) (t ty e : TypeId) (i : TypeInfo) (size : Nat) (ht : Try.prog.underlying t = some (.slice e)) (hi : Try.prog.info? e = some i)
    (v : Value) (n : Nat) (xs : List Value) (hown : w.ownsRow base e size v n xs) (a : Option Addr) (c : Nat) :
    (Builtin.append_ #[t, t] ty #[v, .slice a 0 c]).run Try.prog w = .ok v w := by
  cases a with
  | none =>
    rcases hown.2 with ⟨rfl, rfl⟩ | ⟨g, cap, cur, rfl, _, _, hnc, _⟩
    · simp [Builtin.append_, run_underlying ht, sizeOf, typeInfo, hi, Builtin.lenOf, Builtin.firstCells]
    · simp [Builtin.append_, run_underlying ht, sizeOf, typeInfo, hi, Builtin.lenOf, Builtin.firstCells, hnc, storeCells]
  | some x =>
    have hf : ∀ k, (Builtin.firstCells k 0 (.slice (some x) 0 c)).run Try.prog w = .ok #[] w := fun k => run_firstCells_some w k 0 x 0 c [] (by simp) (by simp)
    rcases hown.2 with ⟨rfl, rfl⟩ | ⟨g, cap, cur, rfl, _, _, hnc, _⟩
    · simp [Builtin.append_, run_underlying ht, sizeOf, typeInfo, hi, Builtin.lenOf, hf]
    · simp [Builtin.append_, run_underlying ht, sizeOf, typeInfo, hi, Builtin.lenOf, hf, hnc, storeCells]

theorem wp_joinV {ops : Array Oper} {rest : List Oper} {o : Oper} {a : Act} {Q : Exit → Act → World → Prop} (w : World) (hgd : o.guard = none) (s x : Operand)
    (ho : o.op = .call { callee := .builtin .append, args := #[s, x], argTypes := #[47, 47] }) (base : Nat) (v : Value) (xs : List Val) (hs : a.eval s = v) (hown : OwnV w base v xs)
    (sa : Option Addr) (m c : Nat) (ys : List Val) (hx : a.eval x = .slice sa m c) (hB : IsVals w sa m c ys) (hbig : xs.length + ys.length ≤ 1099511627776) (hbase : base ≤ w.heap.size)
    (h : ∀ v' w', OwnV w' base v' (xs ++ ys) → Below base w w' → wpList Try.prog ops Q rest (a.put o.dst v') w') : wpList Try.prog ops Q (o :: rest) a w := by
  by_cases h0 : m = 0
  · subst h0
    have hy : ys = [] := List.length_eq_zero_iff.1 hB.1
    subst hy
    obtain ⟨i0, hi, hz0, hz1, hz2⟩ := info_parts infoVal
    refine wpList_plain hgd fun K hK => ?_
    have hrun := run_append_empty w base 47 o.type 35 i0 3 Try.underlying47 hi v xs.length _ hown sa c
    unfold Oper.wp
    simp [execOp, ho, resolve, invoke, builtin, hs, hx, hrun, Result.andThen]
    refine hK _ _ (h v w ?_ (Below.refl _ _))
    rw [List.append_nil]
    exact hown
  · obtain ⟨g, off, rfl, hg, hc⟩ := hB.at (k := 0) (by omega)
    exact wp_appV w hgd s x ho base v xs hs hown g off m c ys hx hB.1 hc hbig hbase (fun v' w' h1 _ h2 => h v' w' h1 h2)

end Go.Proofs.Ytpaidekocooliaa
