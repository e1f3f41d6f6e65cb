/- The reference's Key of any list of values: the same bytes as okey.Put. -/
import Derived.Test.YtpaidekocooliaaOkeyPutC
import Derived.Deep.RegionHeld3
import Derived.Deep.AppendLies
namespace Go.Proofs.Ytpaidekocooliaa
open Go.RowKit NumMath
set_option linter.unusedVariables false

theorem step_appB {ops : Array Oper} {o : Oper} {a : Act} {K : Act → World → Prop} {Q : Exit → Act → World → Prop} {E : Prop} (w : World) (hgd : o.guard = none) (s x : Operand)
    (ho : o.op = .call { callee := .builtin .append, args := #[s, x], argTypes := #[25, 25] }) (base : Nat) (v : Value) (bs : List Int) (hs : a.eval s = v) (hown : OwnB w base v bs)
    (g m c : Nat) (ys : List Int) (hx : a.eval x = .slice (some ⟨g, 0, none⟩) m c) (hl : ys.length = m) (hB : Bytes w g ys) (hbig : bs.length + ys.length ≤ 1099511627776) (hbase : base ≤ w.heap.size)
    (h : ∀ v' w', OwnB w' base v' (bs ++ ys) → w.grownBy w' v.ownBlock → Below base w w' → (v'.ownBlock = v.ownBlock ∨ v'.ownBlock = some w.heap.size) → K (a.put o.dst v') w') :
    if Region.wanted o (yielded ops a.tmps) = true then Oper.wp Try.prog o a w K Q else E := by
  have hw : Region.wanted o (yielded ops a.tmps) = true := by simp [Region.wanted, hgd]
  rw [if_pos hw]
  obtain ⟨i0, hi, hz0, hz1, hz2⟩ := info_parts infoU8
  obtain ⟨v', w', hr, h2, h3, _, h5⟩ := run_append_own_at (P := Try.prog) w base 25 o.type 5 i0 (.int .u8 0) 1 1 Try.underlying25 hi hz0 hz1 hz2 rfl (by decide) v bs.length _ hown ⟨g, 0, none⟩ m c (ys.map (Value.int .u8)) (by simp [hl]) (bytes_add hB) (u8_one ys) (by unfold maxLen; omega) (by omega) hbase
  unfold Oper.wp execOp
  simp only [ho, resolve, invoke, builtin, Sem.run_bind, Sem.run_pure, Result.andThen_ok, List.map_toArray, List.map_cons, List.map_nil, hs, hx, hr]
  refine h v' w' ?_ h3 (hown.grown h3 hbase) h5
  unfold OwnB
  rw [List.length_append, List.map_append, hl]
  exact h2

theorem wp_appBx {ops : Array Oper} {rest : List Oper} {o : Oper} {a : Act} {Q : Exit → Act → World → Prop} (w : World) (hgd : o.guard = none) (s x : Operand)
    (ho : o.op = .call { callee := .builtin .append, args := #[s, x], argTypes := #[25, 25] }) (base : Nat) (v : Value) (bs : List Int) (hs : a.eval s = v) (hown : OwnB w base v bs)
    (g m c : Nat) (ys : List Int) (hx : a.eval x = .slice (some ⟨g, 0, none⟩) m c) (hl : ys.length = m) (hB : Bytes w g ys) (hbig : bs.length + ys.length ≤ 1099511627776) (hbase : base ≤ w.heap.size)
    (N : Nat) (hN : some N ≠ v.ownBlock) (hN2 : N < w.heap.size)
    (h : ∀ v' w', OwnB w' base v' (bs ++ ys) → (∀ i u, w.cell? ⟨N, i, none⟩ = some u → w'.cell? ⟨N, i, none⟩ = some u) → Below base w w' → some N ≠ v'.ownBlock → wpList Try.prog ops Q rest (a.put o.dst v') w') : wpList Try.prog ops Q (o :: rest) a w := by
  obtain ⟨i0, hi, hz0, hz1, hz2⟩ := info_parts infoU8
  refine wpList_append_own_at w hgd s x 25 ho base 5 i0 (.int .u8 0) 1 1 Try.underlying25 hi hz0 hz1 hz2 rfl (by decide) v bs.length _ hs hown ⟨g, 0, none⟩ m c (ys.map (Value.int .u8)) hx (by simp [hl]) (bytes_add hB) (u8_one ys) (by unfold maxLen; omega) (by omega) hbase ?_
  intro v' w' h1 h2 h3 h4
  refine h v' w' ?_ (fun i u hc => h2.cell hc hN) (hown.grown h2 hbase) ?_
  · unfold OwnB
    rw [List.length_append, List.map_append, hl]
    exact h1
  · intro hx
    rcases h4 with h4 | h4
    · rw [h4] at hx; exact hN hx
    · rw [h4] at hx
      have := Option.some.inj hx
      omega

end Go.Proofs.Ytpaidekocooliaa
