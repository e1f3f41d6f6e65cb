/- Lists of whole numbers ([]int) that the call itself gathers. -/
import Derived.Test.YtcmimhhealokhaaByt
namespace Go.Proofs.Ytcmimhhealokhaa
open Go.RowKit NumMath
set_option linter.unusedVariables false

/-- the slice v holds the numbers is, in a block of the call's own (from base on), or is nil -/
def OwnI (w : World) (base : Nat) (v : Value) (is : List Int) : Prop := w.ownsRow base 3 1 v is.length (is.map (Value.int .i64))

theorem ownI_nil (w : World) (base : Nat) : OwnI w base (.slice none 0 0) [] := World.ownsRow_nil _ _ _ _

theorem OwnI.lies {w w' : World} {base : Nat} {v : Value} {is : List Int} (h : OwnI w base v is) (hb : ∀ g, v.ownBlock = some g → w'.heap[g]? = w.heap[g]?) : OwnI w' base v is := by
  refine ⟨h.1, ?_⟩
  rcases h.2 with h0 | ⟨g, cap, cur, hv, hg, hh, hr⟩
  · exact .inl h0
  · refine .inr ⟨g, cap, cur, hv, hg, ?_, hr⟩
    rw [hb g (by rw [hv]; rfl)]
    exact hh

theorem OwnI.keep {w w' : World} {base : Nat} {v : Value} {is : List Int} (h : OwnI w base v is) (hb : Below w.heap.size w w') : OwnI w' base v is := h.lies (fun g hg => hb.block g (World.ownsRow.lt h g hg).2)

theorem OwnI.lt {w : World} {base : Nat} {v : Value} {is : List Int} (h : OwnI w base v is) : ∀ g, v.ownBlock = some g → base ≤ g ∧ g < w.heap.size := World.ownsRow.lt h

theorem OwnB.lt {w : World} {base : Nat} {v : Value} {bs : List Int} (h : OwnB w base v bs) : ∀ g, v.ownBlock = some g → base ≤ g ∧ g < w.heap.size := World.ownsRow.lt h

theorem infoI : (Try.prog.info? 3).map (fun i => (i.zero, i.size, i.bytes)) = some (some (.int .i64 0), 1, 8) := by kernel_rfl

theorem OwnI.form {w : World} {base : Nat} {v : Value} {is : List Int} (h : OwnI w base v is) : (v = .slice none 0 0 ∧ is = []) ∨ ∃ g cap, v = .slice (some ⟨g, 0, none⟩) is.length cap ∧ base ≤ g ∧ g < w.heap.size ∧ is.length ≤ cap ∧ cap ≤ maxLen ∧ ∀ i, i < is.length → w.cell? ⟨g, i, none⟩ = some (.int .i64 (is.getD i 0)) := by
  have hlt := World.ownsRow.lt h
  rcases h.2 with ⟨rfl, h0⟩ | ⟨g, cap, cur, rfl, hg, hh, hn, hm, _, _⟩
  · exact .inl ⟨rfl, List.length_eq_zero_iff.1 h0⟩
  · refine .inr ⟨g, cap, rfl, hg, (hlt g rfl).2, hn, hm, fun i hi => ?_⟩
    have h1 := World.ownsRow.cells h (g := g) rfl i (.int .i64 (is.getD i 0)) (by simp [List.getD, List.getElem?_eq_getElem hi])
    have h2 : (⟨g, 0, none⟩ : Addr).add i = ⟨g, i, none⟩ := by unfold Addr.add; split <;> simp_all
    rw [h2] at h1
    exact h1

/-- a number behind a list of them -/
theorem wp_appI {ops : Array Oper} {rest : List Oper} {o : Oper} {a : Act} {Q : Exit → Act → World → Prop} (w : World) (hgd : o.guard = none) (s x : Operand)
    (ho : o.op = .call { callee := .builtin .append, args := #[s, x], argTypes := #[38, 38] }) (base : Nat) (v : Value) (is : List Int) (hs : a.eval s = v) (hown : OwnI w base v is)
    (g : Nat) (n : Int) (hx : a.eval x = .slice (some ⟨g, 0, none⟩) 1 1) (hc : w.cell? ⟨g, 0, none⟩ = some (.int .i64 n)) (hbig : is.length ≤ 1000000000) (hbase : base ≤ w.heap.size)
    (h : ∀ v' w', OwnI w' base v' (is ++ [n]) → w.grownBy w' v.ownBlock → AtB w v v' → wpList Try.prog ops Q rest (a.put o.dst v') w') : wpList Try.prog ops Q (o :: rest) a w := by
  obtain ⟨i0, hi, hz0, hz1, hz2⟩ := info_parts infoI
  have hnews : ∀ j u, ([Value.int .i64 n])[j]? = some u → w.cell? ((⟨g, 0, none⟩ : Addr).add j) = some u := by
    intro j u hu
    have h2 : (⟨g, 0, none⟩ : Addr).add j = ⟨g, j, none⟩ := by unfold Addr.add; split <;> simp_all
    rw [h2]
    match j, hu with
    | 0, hu => simp at hu; rw [← hu]; exact hc
  refine wpList_append_own_at w hgd s x 38 ho base 3 i0 (.int .i64 0) 1 8 Try.underlying38 hi hz0 hz1 hz2 rfl (by decide) v is.length _ hs hown ⟨g, 0, none⟩ 1 1 [.int .i64 n] hx rfl hnews (by intro u hu; rw [List.mem_singleton.1 hu]; rfl) (by unfold maxLen; omega) (by omega) hbase ?_
  intro v' w' k1 k2 k3 k4
  refine h v' w' ?_ k2 ?_
  · unfold OwnI
    rw [List.length_append, List.map_append]
    exact k1
  · rcases k4 with k4 | k4
    · exact .inl k4
    · exact .inr ⟨_, k4, Nat.le_refl _⟩

/-- two slices of the call's own lie apart -/
def Apart (v u : Value) : Prop := ∀ g, v.ownBlock = some g → u.ownBlock ≠ some g

theorem Apart.symm {v u : Value} (h : Apart v u) : Apart u v := fun g hu hv => h g hv hu

theorem Apart.grown {w : World} {v v' u : Value} (h : Apart v u) (ha : AtB w v v') (hu : ∀ g, u.ownBlock = some g → g < w.heap.size) : Apart v' u := by
  intro g hv' hug
  rcases ha with ha | ⟨g', hg', hle⟩
  · rw [ha] at hv'; exact h g hv' hug
  · rw [hg'] at hv'
    cases hv'
    have := hu _ hug
    omega

theorem OwnI.apart {w w' : World} {base : Nat} {v u : Value} {is : List Int} (h : OwnI w base u is) (ha : Apart v u) (hg : w.grownBy w' v.ownBlock) : OwnI w' base u is :=
  h.lies (fun g hug => hg.block g (h.lt g hug).2 (fun e => ha g e.symm hug))

theorem OwnB.apart {w w' : World} {base : Nat} {v u : Value} {bs : List Int} (h : OwnB w base u bs) (ha : Apart v u) (hg : w.grownBy w' v.ownBlock) : OwnB w' base u bs :=
  h.lies (fun g hug => hg.block g (h.lt g hug).2 (fun e => ha g e.symm hug))

/-- the slice's elements are the numbers is, wherever they lie -/
def IsInts (w : World) (a : Option Addr) (len cap : Nat) (is : List Int) : Prop :=
  is.length = len ∧ len ≤ cap ∧ cap ≤ maxLen ∧ (len = 0 ∨ ∃ g off, a = some ⟨g, off, none⟩ ∧ g < w.heap.size ∧ ∀ i, i < len → w.cell? ⟨g, off + i, none⟩ = some (.int .i64 (is.getD i 0)))

theorem IsInts.keep {w w' : World} {a : Option Addr} {len cap : Nat} {is : List Int} (h : IsInts w a len cap is) (hb : Below w.heap.size w w') : IsInts w' a len cap is := by
  obtain ⟨h1, h2, h3, h5⟩ := h
  refine ⟨h1, h2, h3, ?_⟩
  rcases h5 with h5 | ⟨g, off, ha, hg, hc⟩
  · exact .inl h5
  · exact .inr ⟨g, off, ha, Nat.lt_of_lt_of_le hg hb.size, fun i hi => (hb.cell (p := ⟨g, off + i, none⟩) hg).trans (hc i hi)⟩

theorem IsInts.at {w : World} {a : Option Addr} {len cap : Nat} {is : List Int} (h : IsInts w a len cap is) {k : Nat} (hk : k < len) : ∃ g off, a = some ⟨g, off, none⟩ ∧ g < w.heap.size ∧ ∀ i, i < len → w.cell? ⟨g, off + i, none⟩ = some (.int .i64 (is.getD i 0)) := by
  obtain ⟨h1, h2, h3, h5⟩ := h
  rcases h5 with h5 | h5
  · omega
  · exact h5

theorem OwnI.is {w : World} {base : Nat} {v : Value} {is : List Int} (h : OwnI w base v is) : ∃ a n cap, v = .slice a n cap ∧ IsInts w a n cap is := by
  rcases h.form with ⟨rfl, rfl⟩ | ⟨g, cap, rfl, hg1, hg2, hc, hm, hB⟩
  · exact ⟨none, 0, 0, rfl, rfl, Nat.le_refl _, by unfold maxLen; omega, .inl rfl⟩
  · exact ⟨_, _, cap, rfl, rfl, hc, hm, .inr ⟨g, 0, rfl, hg2, fun i hi => by rw [Nat.zero_add]; exact hB i hi⟩⟩

end Go.Proofs.Ytcmimhhealokhaa
