/- Lists of texts ([][]byte) in memory: read, opened, gathered by the call itself, cut. Lists of texts ([][]byte) that the call gathers and whose texts are the call's own too: all of it lies from a block on. -/
import Derived.Test.YtfldiapdfpkdaaaBtA
import Derived.Deep.RegionHeld3
namespace Go.Proofs.Ytfldiapdfpkdaaa
open Go.RowKit NumMath Go.ChangeShapes Go.WideShapes Go.Deep
set_option linter.unusedVariables false
set_option maxRecDepth 100000

theorem nil_are : ∀ c ∈ ([] : List Int), 0 ≤ c ∧ c < 256 := by simp

/-- block g holds, from off on, slices of the texts ts -/
def TextsAt (w : World) (g off : Nat) (ts : List (List Int)) : Prop := ∀ i, i < ts.length → ∃ b n c, w.cell? ⟨g, off + i, none⟩ = some (.slice b n c) ∧ IsBytes w b n c (ts.getD i [])

theorem TextsAt.keep {w w' : World} {g off : Nat} {ts : List (List Int)} (h : TextsAt w g off ts) (hb : Below w.heap.size w w') (hg : g < w.heap.size) : TextsAt w' g off ts := by
  intro i hi
  obtain ⟨b, n, c, h1, h2⟩ := h i hi
  exact ⟨b, n, c, (hb.cell (p := ⟨g, off + i, none⟩) hg).trans h1, h2.keep hb⟩

/-- the slice's elements are the texts ts, wherever they lie -/
def IsTexts (w : World) (a : Option Addr) (len cap : Nat) (ts : List (List Int)) : Prop :=
  ts.length = len ∧ len ≤ cap ∧ cap ≤ maxLen ∧ (len = 0 ∨ ∃ g off, a = some ⟨g, off, none⟩ ∧ g < w.heap.size ∧ TextsAt w g off ts)

theorem IsTexts.keep {w w' : World} {a : Option Addr} {len cap : Nat} {ts : List (List Int)} (h : IsTexts w a len cap ts) (hb : Below w.heap.size w w') : IsTexts w' a len cap ts := by
  obtain ⟨h1, h2, h3, h5⟩ := h
  refine ⟨h1, h2, h3, ?_⟩
  rcases h5 with h5 | ⟨g, off, ha, hg, hc⟩
  · exact .inl h5
  · exact .inr ⟨g, off, ha, Nat.lt_of_lt_of_le hg hb.size, hc.keep hb hg⟩

theorem IsTexts.at {w : World} {a : Option Addr} {len cap : Nat} {ts : List (List Int)} (h : IsTexts w a len cap ts) {k : Nat} (hk : k < len) : ∃ g off b n c, a = some ⟨g, off, none⟩ ∧ g < w.heap.size ∧ w.cell? ⟨g, off + k, none⟩ = some (.slice b n c) ∧ IsBytes w b n c (ts.getD k []) := by
  obtain ⟨h1, h2, h3, h5⟩ := h
  rcases h5 with h5 | ⟨g, off, ha, hg, hc⟩
  · omega
  · obtain ⟨b, n, c, e1, e2⟩ := hc k (by omega)
    exact ⟨g, off, b, n, c, ha, hg, e1, e2⟩

theorem IsTexts.are {w : World} {a : Option Addr} {len cap : Nat} {ts : List (List Int)} (h : IsTexts w a len cap ts) : ∀ t ∈ ts, ∀ c ∈ t, 0 ≤ c ∧ c < 256 := by
  intro t ht
  obtain ⟨i, hi, rfl⟩ := List.getElem_of_mem ht
  obtain ⟨g, off, b, n, c, -, -, -, hI⟩ := h.at (k := i) (by rw [← h.1]; exact hi)
  have e : ts.getD i [] = ts[i] := by simp [List.getD, List.getElem?_eq_getElem hi]
  rw [e] at hI
  exact hI.2.2.2.1

theorem isT_none (w : World) (a : Option Addr) (cap : Nat) (h : cap ≤ maxLen) : IsTexts w a 0 cap [] := ⟨rfl, Nat.zero_le _, h, .inl rfl⟩

theorem open_texts {H : Type} {enc : TypeId × Value → H} {w : World} {base : Nat} {spare : Nat → Bool} {held : Bool} {fuel : Nat} {a : Option Addr} {len cap : Nat} {x : DataW H × List MemPlace}
    (h : DataW.trod enc Try.prog w base spare held fuel 34 [.slice a len cap] = some x) : ∃ ts, IsTexts w a len cap ts := by
  rcases open_slice1 Try.underlying34 (by kernel_rfl) h with ⟨hcs, _⟩ | ⟨ad, l, c, m, n, V, D, Pl, hcs, hb, hl, hm, hmm, _, hx⟩
  · simp at hcs
    obtain ⟨rfl, rfl, rfl⟩ := hcs
    exact ⟨[], rfl, Nat.le_refl _, Nat.zero_le _, .inl rfl⟩
  · simp only [List.cons.injEq, Value.slice.injEq, and_true] at hcs
    obtain ⟨rfl, rfl, rfl⟩ := hcs
    have hlm : len ≤ m := by rw [hmm]; split <;> omega
    have each : ∀ i, i < len → ∃ t : List Int, ∃ b n c, w.cell? (ad.add i) = some (.slice b n c) ∧ IsBytes w b n c t := by
      intro i hi
      obtain ⟨h1, h2⟩ := hx i (by omega)
      obtain ⟨b, n', c', hv⟩ : ∃ b n' c', V i = .slice b n' c' := by
        rcases open_slice1 Try.underlying23 (by kernel_rfl) h2 with ⟨hcs, _⟩ | ⟨ad', l', c', m', n', V', D', Pl', hcs, _⟩
        · exact ⟨_, _, _, List.head_eq_of_cons_eq hcs⟩
        · exact ⟨_, _, _, List.head_eq_of_cons_eq hcs⟩
      rw [hv] at h1 h2
      obtain ⟨t, ht⟩ := open_bytes h2
      exact ⟨t, b, n', c', h1, ht⟩
    obtain ⟨T, hT⟩ := choose_lt each
    have hg : ∀ i, i < len → ((List.range len).map T).getD i [] = T i := by
      intro i hi
      simp [List.getD, hi]
    refine ⟨(List.range len).map T, by simp, hl, hm, ?_⟩
    by_cases h0 : len = 0
    · exact .inl h0
    · right
      obtain ⟨b, off, spot⟩ := ad
      obtain ⟨b0, n0, c0, e0, _⟩ := hT 0 (by omega)
      have hspot : spot = none := by
        have := World.cell?_spot e0
        simpa [Addr.add] using this
      subst hspot
      refine ⟨b, off, rfl, ?_, ?_⟩
      · have := World.block_lt_of_cell? _ _ e0
        rw [add_plain] at this
        exact this
      · intro i hi
        have hi' : i < len := by simpa using hi
        rw [hg i hi']
        obtain ⟨b1, n1, c1, e1, e2⟩ := hT i hi'
        rw [add_plain] at e1
        exact ⟨b1, n1, c1, e1, e2⟩

/-- an element of a list that the call gathers: a slice of the text t that does not lie in the list's own block -/
def ElemT (w : World) (k : Option Nat) (u : Value) (t : List Int) : Prop := ∃ b n c, u = .slice b n c ∧ IsBytes w b n c t ∧ (n = 0 ∨ ∀ y, b = some y → k ≠ some y.block)

/-- the slice v holds the texts ts, in a block of the call's own (from base on), or is nil -/
def OwnT (w : World) (base : Nat) (v : Value) (ts : List (List Int)) : Prop :=
  ∃ es : List Value, w.ownsRow base 23 1 v ts.length es ∧ es.length = ts.length ∧ ∀ i, i < ts.length → ∃ u, es[i]? = some u ∧ ElemT w v.ownBlock u (ts.getD i [])

theorem ownT_nil (w : World) (base : Nat) : OwnT w base (.slice none 0 0) [] := ⟨[], World.ownsRow_nil _ _ _ _, rfl, by simp⟩

theorem ownsRow_keep {w w' : World} {base n size : Nat} {e : TypeId} {v : Value} {es : List Value} (h : w.ownsRow base e size v n es) (hb : ∀ g, v.ownBlock = some g → w'.heap[g]? = w.heap[g]?) : w'.ownsRow base e size v n es := by
  refine ⟨h.1, ?_⟩
  rcases h.2 with h0 | ⟨g, cap, cur, hv, hg, hh, hr⟩
  · exact .inl h0
  · refine .inr ⟨g, cap, cur, hv, hg, ?_, hr⟩
    rw [hb g (by rw [hv]; rfl)]
    exact hh

theorem IsBytes.lies {w w' : World} {a : Option Addr} {len cap : Nat} {xs : List Int} {M : Nat → Prop} (h : IsBytes w a len cap xs) (hk : Keeps M w w') (ho : len = 0 ∨ ∀ y, a = some y → ¬ M y.block) : IsBytes w' a len cap xs := by
  obtain ⟨h1, h2, h3, h4, h5⟩ := h
  refine ⟨h1, h2, h3, h4, ?_⟩
  rcases h5 with h5 | ⟨g, off, rfl, hg, hB⟩
  · exact .inl h5
  · rcases ho with ho | ho
    · exact .inl ho
    · exact .inr ⟨g, off, rfl, Nat.lt_of_lt_of_le hg hk.size, fun i hi => (hk.cell hg (ho _ rfl)).trans (hB i hi)⟩

theorem OwnT.keep {w w' : World} {base : Nat} {v : Value} {ts : List (List Int)} (h : OwnT w base v ts) (hb : Below w.heap.size w w') : OwnT w' base v ts := by
  obtain ⟨es, h1, h2, h3⟩ := h
  refine ⟨es, ownsRow_keep h1 (fun g hg => hb.block g (World.ownsRow.lt h1 g hg).2), h2, fun i hi => ?_⟩
  obtain ⟨u, e1, b, n, c, rfl, e2, e3⟩ := h3 i hi
  exact ⟨_, e1, b, n, c, rfl, e2.keep hb, e3⟩

theorem OwnT.mono {w : World} {base base' : Nat} {v : Value} {ts : List (List Int)} (h : OwnT w base v ts) (hb : base' ≤ base) : OwnT w base' v ts := by
  obtain ⟨es, h1, h2, h3⟩ := h
  refine ⟨es, ⟨h1.1, ?_⟩, h2, h3⟩
  rcases h1.2 with h0 | ⟨g, cap, cur, hv, hg, hr⟩
  · exact .inl h0
  · exact .inr ⟨g, cap, cur, hv, Nat.le_trans hb hg, hr⟩

theorem OwnT.lt {w : World} {base : Nat} {v : Value} {ts : List (List Int)} (h : OwnT w base v ts) : ∀ g, v.ownBlock = some g → base ≤ g ∧ g < w.heap.size := by
  obtain ⟨es, h1, h2, h3⟩ := h
  exact World.ownsRow.lt h1

theorem OwnT.is {w : World} {base : Nat} {v : Value} {ts : List (List Int)} (h : OwnT w base v ts) : ∃ a n cap, v = .slice a n cap ∧ IsTexts w a n cap ts := by
  obtain ⟨es, h1, h2, h3⟩ := h
  have hlt := World.ownsRow.lt h1
  rcases h1.2 with ⟨rfl, h0⟩ | ⟨g, cap, cur, rfl, hg, hh, hn, hm, _, _⟩
  · have hx : ts = [] := List.length_eq_zero_iff.1 h0
    subst hx
    exact ⟨none, 0, 0, rfl, rfl, Nat.le_refl _, by unfold maxLen; omega, .inl rfl⟩
  · refine ⟨_, _, cap, rfl, rfl, hn, hm, .inr ⟨g, 0, rfl, (hlt g rfl).2, ?_⟩⟩
    intro i hi
    obtain ⟨u, e1, b, n, c, rfl, e2, e3⟩ := h3 i hi
    have d0 := World.ownsRow.cells h1 (g := g) rfl i _ e1
    have e : (⟨g, 0, none⟩ : Addr).add i = ⟨g, 0 + i, none⟩ := by unfold Addr.add; split <;> simp_all
    rw [e] at d0
    exact ⟨b, n, c, d0, e2⟩

theorem infoSl : (Try.prog.info? 23).map (fun i => (i.zero, i.size, i.bytes)) = some (some (.slice none 0 0), 1, 24) := by kernel_rfl

theorem Below.ofGrown {w w' : World} {base : Nat} {k : Option Nat} (hg : w.grownBy w' k) (hb : base ≤ w.heap.size) (hk : ∀ g, k = some g → base ≤ g) : Below base w w' := (Below.refl _ _).grown hg hb hk

theorem Keeps.ofGrown {w w' : World} {k : Option Nat} (h : w.grownBy w' k) : Keeps (fun g => k = some g) w w' := ⟨h.os, h.tape, h.output, h.size, fun g hg hn => h.block g hg (fun e => hn e.symm)⟩

/-- a text behind a list of texts -/
theorem wp_appT {ops : Array Oper} {rest : List Oper} {o : Oper} {a : Act} {Q : Exit → Act → World → Prop} (w : World) (hgd : o.guard = none) (s x : Operand)
    (ho : o.op = .call { callee := .builtin .append, args := #[s, x], argTypes := #[34, 34] }) (base : Nat) (v : Value) (ts : List (List Int)) (hs : a.eval s = v) (hown : OwnT w base v ts)
    (g : Nat) (b : Option Addr) (n c : Nat) (t : List Int) (hx : a.eval x = .slice (some ⟨g, 0, none⟩) 1 1) (hc : w.cell? ⟨g, 0, none⟩ = some (.slice b n c)) (hI : IsBytes w b n c t) (hoff : n = 0 ∨ ∀ y, b = some y → v.ownBlock ≠ some y.block)
    (hbig : ts.length ≤ 1000000000) (hbase : base ≤ w.heap.size)
    (h : ∀ v' w', OwnT w' base v' (ts ++ [t]) → w.grownBy w' v.ownBlock → Below base w w' → wpList Try.prog ops Q rest (a.put o.dst v') w') : wpList Try.prog ops Q (o :: rest) a w := by
  obtain ⟨i0, hi, hz0, hz1, hz2⟩ := info_parts infoSl
  obtain ⟨es, h1, h2, h3⟩ := hown
  have hnews : ∀ j u, ([Value.slice b n c])[j]? = some u → w.cell? ((⟨g, 0, none⟩ : Addr).add j) = some u := by
    intro j u hu
    have h2 : (⟨g, 0, none⟩ : Addr).add j = ⟨g, j, none⟩ := by unfold Addr.add; split <;> simp_all
    rw [h2]
    match j, hu with
    | 0, hu => simp at hu; rw [← hu]; exact hc
  refine wpList_append_own_at w hgd s x 34 ho base 23 i0 (.slice none 0 0) 1 24 Try.underlying34 hi hz0 hz1 hz2 rfl (by decide) v ts.length es hs h1 ⟨g, 0, none⟩ 1 1 [.slice b n c] hx rfl hnews (by intro u hu; rw [List.mem_singleton.1 hu]; rfl) (by unfold maxLen; omega) (by omega) hbase ?_
  intro v' w' k1 k2 k3 k4
  refine h v' w' ?_ k2 (Below.ofGrown k2 hbase (fun q hq => (World.ownsRow.lt h1 q hq).1))
  have hel : ∀ u t', ElemT w v.ownBlock u t' → ElemT w' v'.ownBlock u t' := by
    rintro u t' ⟨b', n', c', rfl, e2, e3⟩
    refine ⟨b', n', c', rfl, e2.lies (Keeps.ofGrown k2) (e3.imp id (fun q y hy => q y hy)), ?_⟩
    rcases e3 with e3 | e3
    · exact .inl e3
    · by_cases hn0 : n' = 0
      · exact .inl hn0
      · right
        intro y hy
        rcases k4 with k4 | k4
        · rw [k4]; exact e3 y hy
        · rw [k4]
          rcases e2.2.2.2.2 with q | ⟨g', off', ha, hg', _⟩
          · exact absurd q hn0
          · rw [hy] at ha
            cases ha
            intro q
            have := Option.some.inj q
            dsimp only at this
            omega
  refine ⟨es ++ [.slice b n c], by rw [List.length_append]; exact k1, by simp [h2], ?_⟩
  intro i hi
  rw [List.length_append, List.length_singleton] at hi
  by_cases hlt : i < ts.length
  · obtain ⟨u, e1, e2⟩ := h3 i hlt
    refine ⟨u, by rw [List.getElem?_append_left (by omega)]; exact e1, ?_⟩
    have e : (ts ++ [t]).getD i [] = ts.getD i [] := by simp [List.getD, List.getElem?_append_left hlt]
    rw [e]
    exact hel u _ e2
  · have hie : i = ts.length := by omega
    subst hie
    refine ⟨.slice b n c, by rw [← h2]; simp, ?_⟩
    have e : (ts ++ [t]).getD ts.length [] = t := by simp [List.getD]
    rw [e]
    exact hel _ t ⟨b, n, c, rfl, hI, hoff⟩

/-- x[:k] of a list of texts -/
theorem isT_cutTo {w : World} {a : Option Addr} {len cap : Nat} {ts : List (List Int)} (h : IsTexts w a len cap ts) (k : Nat) (h1 : k ≤ len) (kh : IntKind) (ih : Int) (eh : ih = (k : Int)) :
    ∃ b, (∀ W, (Instr.sliceAt 34 (.slice a len cap) none (some (.int kh ih)) none).run Try.prog W = .ok (.slice b k cap) W) ∧ IsTexts w b k cap (ts.take k) := by
  subst eh
  have hlc := h.2.1
  refine ⟨if cap = 0 then a else a.map (·.add (0 * 1)), fun W => ?_, ?_⟩
  · have hs : (sizeOf (Try.prog.elem 34)).run Try.prog W = .ok 1 W := by
      obtain ⟨i0, hi, _, hz1, _⟩ := info_parts infoSl
      have he : Try.prog.elem 34 = 23 := by kernel_rfl
      rw [he]
      simp [sizeOf, typeInfo, hi, hz1]
    rw [run_sliceAt_slice W 34 _ _ _ _ Try.underlying34, run_slice_h W 34 a len cap Try.underlying34 _ _ (by omega) (by omega), hs]
    simp only [Result.andThen_ok, sliced, Int.toNat_natCast]
    congr 2
  · refine ⟨by rw [List.length_take, h.1]; omega, by omega, h.2.2.1, ?_⟩
    by_cases k0 : k = 0
    · exact .inl k0
    · right
      rcases h.2.2.2 with h0 | ⟨g, off, rfl, hg, hT⟩
      · omega
      · refine ⟨g, off, ?_, hg, ?_⟩
        · rw [if_neg (by omega)]
          simp [Addr.add]
        · intro i hi
          rw [List.length_take] at hi
          obtain ⟨b, n, c, e1, e2⟩ := hT i (by omega)
          have e : (ts.take k).getD i [] = ts.getD i [] := by simp [List.getD, show i < k by omega]
          rw [e]
          exact ⟨b, n, c, e1, e2⟩

end Go.Proofs.Ytfldiapdfpkdaaa

namespace Go.Proofs.Ytfldiapdfpkdaaa
open Go.RowKit NumMath Go.ChangeShapes Go.WideShapes Go.Deep
set_option linter.unusedVariables false
set_option maxRecDepth 100000

/-- an element of such a list -/
def ElemN (w : World) (base : Nat) (k : Option Nat) (u : Value) (t : List Int) : Prop := ∃ b n c, u = .slice b n c ∧ IsBytes w b n c t ∧ (n = 0 ∨ ∀ y, b = some y → k ≠ some y.block ∧ base ≤ y.block)

/-- the slice v holds the texts ts, in blocks of the call's own (from base on), or is nil -/
def OwnN (w : World) (base : Nat) (v : Value) (ts : List (List Int)) : Prop :=
  ∃ es : List Value, w.ownsRow base 23 1 v ts.length es ∧ es.length = ts.length ∧ ∀ i, i < ts.length → ∃ u, es[i]? = some u ∧ ElemN w base v.ownBlock u (ts.getD i [])

theorem ownN_nil (w : World) (base : Nat) : OwnN w base (.slice none 0 0) [] := ⟨[], World.ownsRow_nil _ _ _ _, rfl, by simp⟩

theorem OwnN.ownT {w : World} {base : Nat} {v : Value} {ts : List (List Int)} (h : OwnN w base v ts) : OwnT w base v ts := by
  obtain ⟨es, h1, h2, h3⟩ := h
  refine ⟨es, h1, h2, fun i hi => ?_⟩
  obtain ⟨u, e1, b, n, c, rfl, e2, e3⟩ := h3 i hi
  exact ⟨_, e1, b, n, c, rfl, e2, e3.imp id (fun q y hy => (q y hy).1)⟩

theorem OwnN.keep {w w' : World} {base : Nat} {v : Value} {ts : List (List Int)} (h : OwnN w base v ts) (hb : Below w.heap.size w w') : OwnN w' base v ts := by
  obtain ⟨es, h1, h2, h3⟩ := h
  refine ⟨es, ownsRow_keep h1 (fun g hg => hb.block g (World.ownsRow.lt h1 g hg).2), h2, fun i hi => ?_⟩
  obtain ⟨u, e1, b, n, c, rfl, e2, e3⟩ := h3 i hi
  exact ⟨_, e1, b, n, c, rfl, e2.keep hb, e3⟩

theorem OwnN.lt {w : World} {base : Nat} {v : Value} {ts : List (List Int)} (h : OwnN w base v ts) : ∀ g, v.ownBlock = some g → base ≤ g ∧ g < w.heap.size := h.ownT.lt

theorem OwnT.form {w : World} {base : Nat} {v : Value} {ts : List (List Int)} (h : OwnT w base v ts) : ∃ a n c, v = .slice a n c := by
  obtain ⟨a, n, c, e, _⟩ := h.is
  exact ⟨a, n, c, e⟩

theorem isT_of {w : World} {base : Nat} {a : Option Addr} {n c : Nat} {ts : List (List Int)} (h : OwnN w base (.slice a n c) ts) : IsTexts w a n c ts := by
  obtain ⟨a', n', c', e, hI⟩ := h.ownT.is
  cases e
  exact hI

/-- texts of which nothing lies in what was changed -/
theorem OwnN.lies {w w' : World} {base : Nat} {v : Value} {ts : List (List Int)} {M : Nat → Prop} (h : OwnN w base v ts) (hk : Keeps M w w') (hM : ∀ k, base ≤ k → k < w.heap.size → ¬ M k) : OwnN w' base v ts := by
  obtain ⟨es, h1, h2, h3⟩ := h
  refine ⟨es, ownsRow_keep h1 (fun g hg => hk.block g (World.ownsRow.lt h1 g hg).2 (hM g (World.ownsRow.lt h1 g hg).1 (World.ownsRow.lt h1 g hg).2)), h2, fun i hi => ?_⟩
  obtain ⟨u, e1, b, n, c, rfl, e2, e3⟩ := h3 i hi
  refine ⟨_, e1, b, n, c, rfl, ?_, e3⟩
  rcases e2.2.2.2.2 with h0 | ⟨g, off, rfl, hg, hB⟩
  · exact e2.lies hk (.inl h0)
  · rcases e3 with e3 | e3
    · exact e2.lies hk (.inl e3)
    · exact e2.lies hk (.inr (fun y hy => by cases hy; exact hM _ (e3 _ rfl).2 hg))

/-- a text behind such a list -/
theorem wp_appN {ops : Array Oper} {rest : List Oper} {o : Oper} {a : Act} {Q : Exit → Act → World → Prop} (w : World) (hgd : o.guard = none) (s x : Operand)
    (ho : o.op = .call { callee := .builtin .append, args := #[s, x], argTypes := #[34, 34] }) (base : Nat) (v : Value) (ts : List (List Int)) (hs : a.eval s = v) (hown : OwnN w base v ts)
    (g : Nat) (b : Option Addr) (n c : Nat) (t : List Int) (hx : a.eval x = .slice (some ⟨g, 0, none⟩) 1 1) (hc : w.cell? ⟨g, 0, none⟩ = some (.slice b n c)) (hI : IsBytes w b n c t) (hoff : n = 0 ∨ ∀ y, b = some y → v.ownBlock ≠ some y.block ∧ base ≤ y.block)
    (hbig : ts.length ≤ 1000000000) (hbase : base ≤ w.heap.size)
    (h : ∀ v' w', OwnN w' base v' (ts ++ [t]) → w.grownBy w' v.ownBlock → Below base w w' → wpList Try.prog ops Q rest (a.put o.dst v') w') : wpList Try.prog ops Q (o :: rest) a w := by
  obtain ⟨i0, hi, hz0, hz1, hz2⟩ := info_parts infoSl
  obtain ⟨es, h1, h2, h3⟩ := hown
  have hnews : ∀ j u, ([Value.slice b n c])[j]? = some u → w.cell? ((⟨g, 0, none⟩ : Addr).add j) = some u := by
    intro j u hu
    have h2 : (⟨g, 0, none⟩ : Addr).add j = ⟨g, j, none⟩ := by unfold Addr.add; split <;> simp_all
    rw [h2]
    match j, hu with
    | 0, hu => simp at hu; rw [← hu]; exact hc
  refine wpList_append_own_at w hgd s x 34 ho base 23 i0 (.slice none 0 0) 1 24 Try.underlying34 hi hz0 hz1 hz2 rfl (by decide) v ts.length es hs h1 ⟨g, 0, none⟩ 1 1 [.slice b n c] hx rfl hnews (by intro u hu; rw [List.mem_singleton.1 hu]; rfl) (by unfold maxLen; omega) (by omega) hbase ?_
  intro v' w' k1 k2 k3 k4
  refine h v' w' ?_ k2 (Below.ofGrown k2 hbase (fun q hq => (World.ownsRow.lt h1 q hq).1))
  have hel : ∀ u t', ElemN w base v.ownBlock u t' → ElemN w' base v'.ownBlock u t' := by
    rintro u t' ⟨b', n', c', rfl, e2, e3⟩
    refine ⟨b', n', c', rfl, e2.lies (Keeps.ofGrown k2) (e3.imp id (fun q y hy => (q y hy).1)), ?_⟩
    rcases e3 with e3 | e3
    · exact .inl e3
    · by_cases hn0 : n' = 0
      · exact .inl hn0
      · right
        intro y hy
        refine ⟨?_, (e3 y hy).2⟩
        rcases k4 with k4 | k4
        · rw [k4]; exact (e3 y hy).1
        · rw [k4]
          rcases e2.2.2.2.2 with q | ⟨g', off', ha, hg', _⟩
          · exact absurd q hn0
          · rw [hy] at ha
            cases ha
            intro q
            have := Option.some.inj q
            dsimp only at this
            omega
  refine ⟨es ++ [.slice b n c], by rw [List.length_append]; exact k1, by simp [h2], ?_⟩
  intro i hi
  rw [List.length_append, List.length_singleton] at hi
  by_cases hlt : i < ts.length
  · obtain ⟨u, e1, e2⟩ := h3 i hlt
    refine ⟨u, by rw [List.getElem?_append_left (by omega)]; exact e1, ?_⟩
    have e : (ts ++ [t]).getD i [] = ts.getD i [] := by simp [List.getD, List.getElem?_append_left hlt]
    rw [e]
    exact hel u _ e2
  · have hie : i = ts.length := by omega
    subst hie
    refine ⟨.slice b n c, by rw [← h2]; simp, ?_⟩
    have e : (ts ++ [t]).getD ts.length [] = t := by simp [List.getD]
    rw [e]
    exact hel _ t ⟨b, n, c, rfl, hI, hoff⟩

/-- x[k:] of a list of texts -/
theorem isT_cutFrom {w : World} {a : Option Addr} {len cap : Nat} {ts : List (List Int)} (h : IsTexts w a len cap ts) (l k c : Nat) (h1 : l + k = len) (h3 : l + c = cap) (kl : IntKind) (il : Int) (el : il = (l : Int)) :
    ∃ b, (∀ W, (Instr.sliceAt 34 (.slice a len cap) (some (.int kl il)) none none).run Try.prog W = .ok (.slice b k c) W) ∧ IsTexts w b k c (ts.drop l) := by
  subst el
  have hlc := h.2.1
  refine ⟨if cap = l then a else a.map (·.add (l * 1)), fun W => ?_, ?_⟩
  · have hs : (sizeOf (Try.prog.elem 34)).run Try.prog W = .ok 1 W := by
      obtain ⟨i0, hi, _, hz1, _⟩ := info_parts infoSl
      have he : Try.prog.elem 34 = 23 := by kernel_rfl
      rw [he]
      simp [sizeOf, typeInfo, hi, hz1]
    rw [run_sliceAt_slice W 34 _ _ _ _ Try.underlying34, run_slice_l W 34 a len cap Try.underlying34 _ _ (by omega) (by omega), hs]
    simp only [Result.andThen_ok, sliced, Int.toNat_natCast]
    congr 2 <;> omega
  · refine ⟨by rw [List.length_drop, h.1]; omega, by omega, by have := h.2.2.1; omega, ?_⟩
    by_cases k0 : k = 0
    · exact .inl k0
    · right
      rcases h.2.2.2 with h0 | ⟨g, off, rfl, hg, hT⟩
      · omega
      · refine ⟨g, off + l, ?_, hg, ?_⟩
        · rw [if_neg (by omega)]
          simp [Addr.add]
        · intro i hi
          rw [List.length_drop] at hi
          obtain ⟨b, n, c', e1, e2⟩ := hT (l + i) (by omega)
          have e : (ts.drop l).getD i [] = ts.getD (l + i) [] := by simp [List.getD]
          rw [e]
          exact ⟨b, n, c', by rw [Nat.add_assoc]; exact e1, e2⟩

end Go.Proofs.Ytfldiapdfpkdaaa
