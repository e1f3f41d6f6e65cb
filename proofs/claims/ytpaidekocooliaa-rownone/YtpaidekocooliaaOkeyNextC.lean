/- A slice of bytes that may lie anywhere; bytes.Clone of it; okey.Next and the reference's Next. -/
import Derived.Test.YtpaidekocooliaaOkeyBytes
import Derived.Laws.OwnMore
import Derived.Lib.SliceRun
namespace Go.Proofs.Ytpaidekocooliaa
open Go.RowKit NumMath
set_option linter.unusedVariables false

def BytesAt (w : World) (g off : Nat) (xs : List Int) : Prop := ∀ i, i < xs.length → w.cell? ⟨g, off + i, none⟩ = some (.int .u8 (xs.getD i 0))

theorem BytesAt.below {w w' : World} {B g off : Nat} {xs : List Int} (h : BytesAt w g off xs) (hb : Below B w w') (hg : g < B) : BytesAt w' g off xs :=
  fun i hi => (hb.cell (p := ⟨g, off + i, none⟩) hg).trans (h i hi)

/-- the slice's elements are the bytes xs, wherever they lie -/
def IsBytes (w : World) (a : Option Addr) (len cap : Nat) (xs : List Int) : Prop :=
  xs.length = len ∧ len ≤ cap ∧ cap ≤ maxLen ∧ (∀ c ∈ xs, 0 ≤ c ∧ c < 256) ∧ (len = 0 ∨ ∃ g off, a = some ⟨g, off, none⟩ ∧ g < w.heap.size ∧ BytesAt w g off xs)

theorem IsBytes.keep {w w' : World} {a : Option Addr} {len cap : Nat} {xs : List Int} (h : IsBytes w a len cap xs) (hb : Below w.heap.size w w') : IsBytes w' a len cap xs := by
  obtain ⟨h1, h2, h3, h4, h5⟩ := h
  refine ⟨h1, h2, h3, h4, ?_⟩
  rcases h5 with h5 | ⟨g, off, ha, hg, hc⟩
  · exact .inl h5
  · exact .inr ⟨g, off, ha, Nat.lt_of_lt_of_le hg hb.size, hc.below hb hg⟩

theorem IsBytes.at {w : World} {a : Option Addr} {len cap : Nat} {xs : List Int} (h : IsBytes w a len cap xs) {k : Nat} (hk : k < len) : ∃ g off, a = some ⟨g, off, none⟩ ∧ g < w.heap.size ∧ BytesAt w g off xs := by
  obtain ⟨h1, h2, h3, h4, h5⟩ := h
  rcases h5 with h5 | h5
  · omega
  · exact h5

theorem IsBytes.nth {w : World} {a : Option Addr} {len cap : Nat} {xs : List Int} (h : IsBytes w a len cap xs) (k : Nat) : 0 ≤ xs.getD k 0 ∧ xs.getD k 0 < 256 := nth_range xs h.2.2.2.1 k

theorem OwnB.is {w : World} {base : Nat} {v : Value} {bs : List Int} (h : OwnB w base v bs) (hr : ∀ c ∈ bs, 0 ≤ c ∧ c < 256) : ∃ a cap, v = .slice a bs.length cap ∧ IsBytes w a bs.length cap bs := by
  rcases h.form with ⟨rfl, rfl⟩ | ⟨g, cap, rfl, hg1, hg2, hc, hm, hB⟩
  · exact ⟨none, 0, rfl, rfl, Nat.le_refl _, by unfold maxLen; omega, hr, .inl rfl⟩
  · exact ⟨_, cap, rfl, rfl, hc, hm, hr, .inr ⟨g, 0, rfl, hg2, fun i hi => by rw [Nat.zero_add]; exact hB i hi⟩⟩

theorem bytesAt_add {w : World} {g off : Nat} {ys : List Int} (hB : BytesAt w g off ys) : ∀ j u, (ys.map (Value.int .u8))[j]? = some u → w.cell? ((⟨g, off, none⟩ : Addr).add j) = some u := by
  intro j u hu
  have h2 : (⟨g, off, none⟩ : Addr).add j = ⟨g, off + j, none⟩ := by unfold Addr.add; split <;> simp_all
  rw [h2]
  rw [List.getElem?_map, Option.map_eq_some_iff] at hu
  obtain ⟨c, hc, rfl⟩ := hu
  obtain ⟨hj, rfl⟩ := List.getElem?_eq_some_iff.1 hc
  have := hB j hj
  simpa [List.getD, List.getElem?_eq_getElem hj] using this

theorem wp_appBat {ops : Array Oper} {rest : List Oper} {o : Oper} {a : Act} {Q : Exit → Act → World → Prop} (w : World) (hgd : o.guard = none) (s x : Operand)
    (ho : o.op = .call { callee := .builtin .append, args := #[s, x], argTypes := #[25, 25] }) (base : Nat) (v : Value) (bs : List Int) (hs : a.eval s = v) (hown : OwnB w base v bs)
    (g off m c : Nat) (ys : List Int) (hx : a.eval x = .slice (some ⟨g, off, none⟩) m c) (hl : ys.length = m) (hB : BytesAt w g off ys) (hbig : bs.length + ys.length ≤ 1099511627776) (hbase : base ≤ w.heap.size)
    (h : ∀ v' w', OwnB w' base v' (bs ++ ys) → w.grownBy w' v.ownBlock → Below base w w' → wpList Try.prog ops Q rest (a.put o.dst v') w') : wpList Try.prog ops Q (o :: rest) a w := by
  obtain ⟨i0, hi, hz0, hz1, hz2⟩ := info_parts infoU8
  refine wpList_append_own w hgd s x 25 ho base 5 i0 (.int .u8 0) 1 1 Try.underlying25 hi hz0 hz1 hz2 rfl (by decide) v bs.length _ hs hown ⟨g, off, none⟩ m c (ys.map (Value.int .u8)) hx (by simp [hl]) (bytesAt_add hB) (u8_one ys) (by unfold maxLen; omega) (by omega) hbase ?_
  intro v' w' h1 h2 h3
  refine h v' w' ?_ h2 (hown.grown h2 hbase)
  unfold OwnB
  rw [List.length_append, List.map_append, hl]
  exact h1

/-- an empty slice that was made -/
theorem ownB_empty (w : World) (base : Nat) (hb : base ≤ w.heap.size) : OwnB (w.alloc (.cells #[] 5)) base (.slice (some ⟨w.heap.size, 0, none⟩) 0 0) [] := by
  exact ⟨by simp, .inr ⟨w.heap.size, 0, #[], rfl, hb, heap_alloc_new w _, Nat.le_refl _, by unfold maxLen; omega, rfl, rfl⟩⟩

set_option maxHeartbeats 400000 in
theorem clone_any (g off len cap : Nat) (xs : List Int) (w : World) (hl : xs.length = len) (hB : BytesAt w g off xs) (hg : g < w.heap.size) (hbig : len ≤ 1000000000) :
    Calls Try.prog 41 #[.slice (some ⟨g, off, none⟩) len cap] w fun e w' => ∃ v, e = .returned v ∧ OwnB w' w.heap.size v xs ∧ Below w.heap.size w w' := by
  have HL := hide hl
  clear hl
  have HB := hide hB
  clear hB
  have hnil : ∀ w, (binOp .eql 25 (.slice (some ⟨g, off, none⟩) len cap) (.slice none 0 0)).run Try.prog w = .ok (.bool false) w := fun w => Lib.run_eql_slice_nil w 25 5 (some ⟨g, off, none⟩) len cap 0 0 Try.underlying25
  go_enter Try.func41, Try.ntmps41
  go_wp2_with (first
    | (at_builtin; go_must (refine wp_appBat _ rfl (.tmp 5) (.tmp 6) rfl w.heap.size _ [] rfl (ownB_empty w _ (Nat.le_refl _)) g off len cap xs rfl HL.out (HB.out.below ((Below.refl _ _).alloc (Nat.le_refl _) _) hg) (by rw [HL.out]; simp; omega) (by simp) ?_); intro v1 w1 hown1 hg1 hb1))
  go_ret
  exact ⟨v1, rfl, hown1, ((Below.refl _ _).alloc (Nat.le_refl _) _).trans hb1⟩

end Go.Proofs.Ytpaidekocooliaa
