/- Lists of texts ([][]byte) that the call gathers and whose texts are the call's own too: all of it lies from a block on. -/
import Derived.Test.YtajpamkdcpbabaaTxt
namespace Go.Proofs.Ytajpamkdcpbabaa
open Go.RowKit NumMath Go.ChangeShapes Go.WideShapes Go.Deep
set_option linter.unusedVariables false

/-- an element of such a list -/
def ElemN (w : World) (base : Nat) (k : Option Nat) (u : Value) (t : List Int) : Prop := ∃ b n c, u = .slice b n c ∧ IsBytes w b n c t ∧ (n = 0 ∨ ∀ y, b = some y → k ≠ some y.block ∧ base ≤ y.block)

/-- the slice v holds the texts ts, in blocks of the call's own (from base on), or is nil -/
def OwnN (w : World) (base : Nat) (v : Value) (ts : List (List Int)) : Prop :=
  ∃ es : List Value, w.ownsRow base 22 1 v ts.length es ∧ es.length = ts.length ∧ ∀ i, i < ts.length → ∃ u, es[i]? = some u ∧ ElemN w base v.ownBlock u (ts.getD i [])

theorem ownN_nil (w : World) (base : Nat) : OwnN w base (.slice none 0 0) [] := ⟨[], World.ownsRow_nil _ _ _ _, rfl, by simp⟩

theorem OwnN.ownT {w : World} {base : Nat} {v : Value} {ts : List (List Int)} (h : OwnN w base v ts) : OwnT w base v ts := by
  obtain ⟨es, h1, h2, h3⟩ := h
  refine ⟨es, h1, h2, fun i hi => ?_⟩
  obtain ⟨u, e1, b, n, c, rfl, e2, e3⟩ := h3 i hi
  exact ⟨_, e1, b, n, c, rfl, e2, e3.imp id (fun q y hy => (q y hy).1)⟩

theorem OwnN.keep {w w' : World} {base : Nat} {v : Value} {ts : List (List Int)} (h : OwnN w base v ts) (hb : Below w.heap.size w w') : OwnN w' base v ts := by
  obtain ⟨es, h1, h2, h3⟩ := h
  refine ⟨es, ownsRow_keep h1 (fun g hg => hb.block g (World.ownsRow.lt h1 g hg).2), h2, fun i hi => ?_⟩
  obtain ⟨u, e1, b, n, c, rfl, e2, e3⟩ := h3 i hi
  exact ⟨_, e1, b, n, c, rfl, e2.keep hb, e3⟩

theorem OwnN.lt {w : World} {base : Nat} {v : Value} {ts : List (List Int)} (h : OwnN w base v ts) : ∀ g, v.ownBlock = some g → base ≤ g ∧ g < w.heap.size := h.ownT.lt

theorem OwnT.form {w : World} {base : Nat} {v : Value} {ts : List (List Int)} (h : OwnT w base v ts) : ∃ a n c, v = .slice a n c := by
  obtain ⟨a, n, c, e, _⟩ := h.is
  exact ⟨a, n, c, e⟩

theorem isT_of {w : World} {base : Nat} {a : Option Addr} {n c : Nat} {ts : List (List Int)} (h : OwnN w base (.slice a n c) ts) : IsTexts w a n c ts := by
  obtain ⟨a', n', c', e, hI⟩ := h.ownT.is
  cases e
  exact hI

/-- texts of which nothing lies in what was changed -/
theorem OwnN.lies {w w' : World} {base : Nat} {v : Value} {ts : List (List Int)} {M : Nat → Prop} (h : OwnN w base v ts) (hk : Keeps M w w') (hM : ∀ k, base ≤ k → k < w.heap.size → ¬ M k) : OwnN w' base v ts := by
  obtain ⟨es, h1, h2, h3⟩ := h
  refine ⟨es, ownsRow_keep h1 (fun g hg => hk.block g (World.ownsRow.lt h1 g hg).2 (hM g (World.ownsRow.lt h1 g hg).1 (World.ownsRow.lt h1 g hg).2)), h2, fun i hi => ?_⟩
  obtain ⟨u, e1, b, n, c, rfl, e2, e3⟩ := h3 i hi
  refine ⟨_, e1, b, n, c, rfl, ?_, e3⟩
  rcases e2.2.2.2.2 with h0 | ⟨g, off, rfl, hg, hB⟩
  · exact e2.lies hk (.inl h0)
  · rcases e3 with e3 | e3
    · exact e2.lies hk (.inl e3)
    · exact e2.lies hk (.inr (fun y hy => by cases hy; exact hM _ (e3 _ rfl).2 hg))

/-- a text behind such a list -/
theorem wp_appN {ops : Array Oper} {rest : List Oper} {o : Oper} {a : Act} {Q : Exit → Act → World → Prop} (w : World) (hgd : o.guard = none) (s x : Operand)
    (ho : o.op = .call { callee := .builtin .append, args := #[s, x], argTypes := #[32, 32] }) (base : Nat) (v : Value) (ts : List (List Int)) (hs : a.eval s = v) (hown : OwnN w base v ts)
    (g : Nat) (b : Option Addr) (n c : Nat) (t : List Int) (hx : a.eval x = .slice (some ⟨g, 0, none⟩) 1 1) (hc : w.cell? ⟨g, 0, none⟩ = some (.slice b n c)) (hI : IsBytes w b n c t) (hoff : n = 0 ∨ ∀ y, b = some y → v.ownBlock ≠ some y.block ∧ base ≤ y.block)
    (hbig : ts.length ≤ 1000000000) (hbase : base ≤ w.heap.size)
    (h : ∀ v' w', OwnN w' base v' (ts ++ [t]) → w.grownBy w' v.ownBlock → Below base w w' → wpList Try.prog ops Q rest (a.put o.dst v') w') : wpList Try.prog ops Q (o :: rest) a w := by
  obtain ⟨i0, hi, hz0, hz1, hz2⟩ := info_parts infoSl
  obtain ⟨es, h1, h2, h3⟩ := hown
  have hnews : ∀ j u, ([Value.slice b n c])[j]? = some u → w.cell? ((⟨g, 0, none⟩ : Addr).add j) = some u := by
    intro j u hu
    have h2 : (⟨g, 0, none⟩ : Addr).add j = ⟨g, j, none⟩ := by unfold Addr.add; split <;> simp_all
    rw [h2]
    match j, hu with
    | 0, hu => simp at hu; rw [← hu]; exact hc
  refine wpList_append_own_at w hgd s x 32 ho base 22 i0 (.slice none 0 0) 1 24 Try.underlying32 hi hz0 hz1 hz2 rfl (by decide) v ts.length es hs h1 ⟨g, 0, none⟩ 1 1 [.slice b n c] hx rfl hnews (by intro u hu; rw [List.mem_singleton.1 hu]; rfl) (by unfold maxLen; omega) (by omega) hbase ?_
  intro v' w' k1 k2 k3 k4
  refine h v' w' ?_ k2 (Below.ofGrown k2 hbase (fun q hq => (World.ownsRow.lt h1 q hq).1))
  have hel : ∀ u t', ElemN w base v.ownBlock u t' → ElemN w' base v'.ownBlock u t' := by
    rintro u t' ⟨b', n', c', rfl, e2, e3⟩
    refine ⟨b', n', c', rfl, e2.lies (Keeps.ofGrown k2) (e3.imp id (fun q y hy => (q y hy).1)), ?_⟩
    rcases e3 with e3 | e3
    · exact .inl e3
    · by_cases hn0 : n' = 0
      · exact .inl hn0
      · right
        intro y hy
        refine ⟨?_, (e3 y hy).2⟩
        rcases k4 with k4 | k4
        · rw [k4]; exact (e3 y hy).1
        · rw [k4]
          rcases e2.2.2.2.2 with q | ⟨g', off', ha, hg', _⟩
          · exact absurd q hn0
          · rw [hy] at ha
            cases ha
            intro q
            have := Option.some.inj q
            dsimp only at this
            omega
  refine ⟨es ++ [.slice b n c], by rw [List.length_append]; exact k1, by simp [h2], ?_⟩
  intro i hi
  rw [List.length_append, List.length_singleton] at hi
  by_cases hlt : i < ts.length
  · obtain ⟨u, e1, e2⟩ := h3 i hlt
    refine ⟨u, by rw [List.getElem?_append_left (by omega)]; exact e1, ?_⟩
    have e : (ts ++ [t]).getD i [] = ts.getD i [] := by simp [List.getD, List.getElem?_append_left hlt]
    rw [e]
    exact hel u _ e2
  · have hie : i = ts.length := by omega
    subst hie
    refine ⟨.slice b n c, by rw [← h2]; simp, ?_⟩
    have e : (ts ++ [t]).getD ts.length [] = t := by simp [List.getD]
    rw [e]
    exact hel _ t ⟨b, n, c, rfl, hI, hoff⟩

/-- x[k:] of a list of texts -/
theorem isT_cutFrom {w : World} {a : Option Addr} {len cap : Nat} {ts : List (List Int)} (h : IsTexts w a len cap ts) (l k c : Nat) (h1 : l + k = len) (h3 : l + c = cap) (kl : IntKind) (il : Int) (el : il = (l : Int)) :
    ∃ b, (∀ W, (Instr.sliceAt 32 (.slice a len cap) (some (.int kl il)) none none).run Try.prog W = .ok (.slice b k c) W) ∧ IsTexts w b k c (ts.drop l) := by
  subst el
  have hlc := h.2.1
  refine ⟨if cap = l then a else a.map (·.add (l * 1)), fun W => ?_, ?_⟩
  · have hs : (sizeOf (Try.prog.elem 32)).run Try.prog W = .ok 1 W := by
      obtain ⟨i0, hi, _, hz1, _⟩ := info_parts infoSl
      have he : Try.prog.elem 32 = 22 := by kernel_rfl
      rw [he]
      simp [sizeOf, typeInfo, hi, hz1]
    rw [run_sliceAt_slice W 32 _ _ _ _ Try.underlying32, run_slice_l W 32 a len cap Try.underlying32 _ _ (by omega) (by omega), hs]
    simp only [Result.andThen_ok, sliced, Int.toNat_natCast]
    congr 2 <;> omega
  · refine ⟨by rw [List.length_drop, h.1]; omega, by omega, by have := h.2.2.1; omega, ?_⟩
    by_cases k0 : k = 0
    · exact .inl k0
    · right
      rcases h.2.2.2 with h0 | ⟨g, off, rfl, hg, hT⟩
      · omega
      · refine ⟨g, off + l, ?_, hg, ?_⟩
        · rw [if_neg (by omega)]
          simp [Addr.add]
        · intro i hi
          rw [List.length_drop] at hi
          obtain ⟨b, n, c', e1, e2⟩ := hT (l + i) (by omega)
          have e : (ts.drop l).getD i [] = ts.getD (l + i) [] := by simp [List.getD]
          rw [e]
          exact ⟨b, n, c', by rw [Nat.add_assoc]; exact e1, e2⟩

end Go.Proofs.Ytajpamkdcpbabaa
