/- Lists of values that the call itself gathers; Plain and Plains. -/
import Derived.Test.YtpaidekocooliaaOkeyMath
namespace Go.Proofs.Ytpaidekocooliaa
open Go.RowKit NumMath
set_option linter.unusedVariables false

def cellsV (xs : List Val) : List Value := xs.flatMap fun v => [.int .i64 v.k, .int .i64 v.n, .string v.s]

theorem cellsV_length (xs : List Val) : (cellsV xs).length = xs.length * 3 := by
  unfold cellsV
  induction xs with
  | nil => rfl
  | cons v r ih => rw [List.flatMap_cons, List.length_append, ih, List.length_cons]; simp; omega

theorem cellsV_append (xs ys : List Val) : cellsV (xs ++ ys) = cellsV xs ++ cellsV ys := List.flatMap_append

/-- the slice v holds the values xs, in a block of the call's own (from base on), or is nil -/
def OwnV (w : World) (base : Nat) (v : Value) (xs : List Val) : Prop := w.ownsRow base 35 3 v xs.length (cellsV xs)

theorem ownV_nil (w : World) (base : Nat) : OwnV w base (.slice none 0 0) [] := World.ownsRow_nil _ _ _ _

theorem OwnV.alloc {w : World} {base : Nat} {v : Value} {xs : List Val} (h : OwnV w base v xs) (o : Obj) : OwnV (w.alloc o) base v xs := World.ownsRow.alloc h o

theorem infoVal : (Try.prog.info? 35).map (fun i => (i.zero, i.size, i.bytes)) = some (some (.agg #[.int .i64 0, .int .i64 0, .string ⟨#[]⟩]), 3, 32) := by kernel_rfl

theorem cellsV_one (xs : List Val) : ∀ u ∈ cellsV xs, u.oneCell' = true := by
  intro u hu
  unfold cellsV at hu
  rw [List.mem_flatMap] at hu
  obtain ⟨v, _, hv⟩ := hu
  simp at hv
  rcases hv with rfl | rfl | rfl <;> rfl

theorem cellsV_nth : ∀ (xs : List Val) (i : Nat), i < xs.length → (cellsV xs)[i * 3]? = some (.int .i64 (xs.getD i val0).k) ∧ (cellsV xs)[i * 3 + 1]? = some (.int .i64 (xs.getD i val0).n) ∧ (cellsV xs)[i * 3 + 2]? = some (.string (xs.getD i val0).s) := by
  intro xs
  induction xs with
  | nil => intro i hi; simp at hi
  | cons v r ih =>
    intro i hi
    have e : cellsV (v :: r) = [.int .i64 v.k, .int .i64 v.n, .string v.s] ++ cellsV r := rfl
    rw [e]
    cases i with
    | zero => simp
    | succ j =>
      have h3 : ∀ d, d < 3 → ([Value.int .i64 v.k, .int .i64 v.n, .string v.s] ++ cellsV r)[(j + 1) * 3 + d]? = (cellsV r)[j * 3 + d]? := by
        intro d hd
        rw [List.getElem?_append_right (by simp; omega)]
        congr 1
        simp
        omega
      obtain ⟨h0, h1, h2⟩ := ih j (by simpa using hi)
      refine ⟨?_, ?_, ?_⟩
      · have := h3 0 (by omega); rw [Nat.add_zero] at this; rw [this, Nat.add_zero, h0]; simp
      · rw [h3 1 (by omega), h1]; simp
      · rw [h3 2 (by omega), h2]; simp

theorem OwnV.is {w : World} {base : Nat} {v : Value} {xs : List Val} (h : OwnV w base v xs) (hf : ∀ x ∈ xs, x.fits) : ∃ a cap, v = .slice a xs.length cap ∧ IsVals w a xs.length cap xs := by
  have hlt := World.ownsRow.lt h
  rcases h.2 with ⟨rfl, h0⟩ | ⟨g, cap, cur, rfl, hg, hh, hn, hm, _, _⟩
  · have hx : xs = [] := List.length_eq_zero_iff.1 h0
    subst hx
    exact ⟨none, 0, rfl, rfl, Nat.le_refl _, by unfold maxLen; omega, hf, .inl rfl⟩
  · refine ⟨_, cap, rfl, rfl, hn, hm, hf, .inr ⟨g, 0, rfl, (hlt g rfl).2, ?_⟩⟩
    intro i hi
    obtain ⟨c0, c1, c2⟩ := cellsV_nth xs i hi
    have e : ∀ j, (⟨g, 0, none⟩ : Addr).add j = ⟨g, 0 + j, none⟩ := by
      intro j
      unfold Addr.add; split <;> simp_all
    have d0 := World.ownsRow.cells h (g := g) rfl _ _ c0
    have d1 := World.ownsRow.cells h (g := g) rfl _ _ c1
    have d2 := World.ownsRow.cells h (g := g) rfl _ _ c2
    rw [e] at d0 d1 d2
    exact ⟨d0, d1, d2⟩

theorem OwnV.grown {w w' : World} {base : Nat} {v : Value} {xs : List Val} (h : OwnV w base v xs) (hg : w.grownBy w' v.ownBlock) (hb : base ≤ w.heap.size) : Below base w w' :=
  (Below.refl _ _).grown hg hb (fun k hk => (World.ownsRow.lt h k hk).1)

theorem OwnV.keep {w w' : World} {base : Nat} {v : Value} {xs : List Val} (h : OwnV w base v xs) (hb : Below w.heap.size w w') : OwnV w' base v xs := by
  refine ⟨h.1, ?_⟩
  rcases h.2 with h0 | ⟨g, cap, cur, hv, hg, hh, hr⟩
  · exact .inl h0
  · refine .inr ⟨g, cap, cur, hv, hg, ?_, hr⟩
    rw [hb.block g (by rw [hv] at h; exact (World.ownsRow.lt h g rfl).2)]
    exact hh

theorem cellsV_add {w : World} {g off : Nat} {ys : List Val} (hB : CellsV w g off ys) : ∀ j u, (cellsV ys)[j]? = some u → w.cell? ((⟨g, off, none⟩ : Addr).add j) = some u := by
  intro j u hu
  have h2 : (⟨g, off, none⟩ : Addr).add j = ⟨g, off + j, none⟩ := by unfold Addr.add; split <;> simp_all
  rw [h2]
  have hj : j < ys.length * 3 := by
    rw [← cellsV_length]
    exact (List.getElem?_eq_some_iff.1 hu).1
  have hi : j / 3 < ys.length := by omega
  obtain ⟨c0, c1, c2⟩ := cellsV_nth ys (j / 3) hi
  obtain ⟨d0, d1, d2⟩ := hB (j / 3) hi
  have hm : j % 3 = 0 ∨ j % 3 = 1 ∨ j % 3 = 2 := by omega
  rcases hm with hm | hm | hm
  · have ej : j = j / 3 * 3 := by omega
    rw [ej] at hu ⊢
    rw [c0] at hu
    rw [d0]; exact hu
  · have ej : j = j / 3 * 3 + 1 := by omega
    rw [ej] at hu ⊢
    rw [c1] at hu
    rw [← Nat.add_assoc, d1]; exact hu
  · have ej : j = j / 3 * 3 + 2 := by omega
    rw [ej] at hu ⊢
    rw [c2] at hu
    rw [← Nat.add_assoc, d2]; exact hu

theorem wp_appV {ops : Array Oper} {rest : List Oper} {o : Oper} {a : Act} {Q : Exit → Act → World → Prop} (w : World) (hgd : o.guard = none) (s x : Operand)
    (ho : o.op = .call { callee := .builtin .append, args := #[s, x], argTypes := #[47, 47] }) (base : Nat) (v : Value) (xs : List Val) (hs : a.eval s = v) (hown : OwnV w base v xs)
    (g off m c : Nat) (ys : List Val) (hx : a.eval x = .slice (some ⟨g, off, none⟩) m c) (hl : ys.length = m) (hB : CellsV w g off ys) (hbig : xs.length + ys.length ≤ 1099511627776) (hbase : base ≤ w.heap.size)
    (h : ∀ v' w', OwnV w' base v' (xs ++ ys) → w.grownBy w' v.ownBlock → Below base w w' → wpList Try.prog ops Q rest (a.put o.dst v') w') : wpList Try.prog ops Q (o :: rest) a w := by
  obtain ⟨i0, hi, hz0, hz1, hz2⟩ := info_parts infoVal
  refine wpList_append_own w hgd s x 47 ho base 35 i0 _ 3 32 Try.underlying47 hi hz0 hz1 hz2 rfl (by decide) v xs.length _ hs hown ⟨g, off, none⟩ m c (cellsV ys) hx (by rw [cellsV_length, hl]) (cellsV_add hB) (cellsV_one ys) (by unfold maxLen; omega) (by omega) hbase ?_
  intro v' w' h1 h2 h3
  refine h v' w' ?_ h2 (hown.grown h2 hbase)
  unfold OwnV
  rw [List.length_append, cellsV_append, hl]
  exact h1

theorem cellsV_new (w : World) (v : Val) (g : Nat) (hg : w.heap.size = g) : CellsV (w.alloc (.cells #[.int .i64 v.k, .int .i64 v.n, .string v.s] 35)) g 0 [v] := by
  subst hg
  intro i hi
  match i, hi with
  | 0, _ => simp

set_option maxHeartbeats 400000 in
theorem plain_any (k n : Int) (s : ByteArray) (w : World) :
    Calls Try.prog 24 #[.agg #[.int .i64 k, .int .i64 n, .string s]] w fun e w' => e = .returned (plainV ⟨k, n, s⟩).v ∧ Below w.heap.size w w' := by
  unfold plainV
  dsimp only
  by_cases h1 : k = 1
  · subst h1
    rw [if_pos rfl]
    go_enter Try.func24, Try.ntmps24
    go_wp2
    refine bodyPost_ret (v := .agg #[.int .i64 1, .int .i64 n, .string ⟨#[]⟩]) (by simp [results, Try.results24, go_sem]) rfl ⟨rfl, ?_⟩
    exact (((Below.refl _ _).alloc (Nat.le_refl _) _).alloc (by simp) _)
  · rw [if_neg h1]
    have e1 : (k == 1) = false := by simp [h1]
    by_cases h2 : k = 2
    · subst h2
      rw [if_pos rfl]
      go_enter Try.func24, Try.ntmps24
      go_wp2
      refine bodyPost_ret (v := .agg #[.int .i64 2, .int .i64 0, .string s]) (by simp [results, Try.results24, go_sem]) rfl ⟨rfl, ?_⟩
      exact (((Below.refl _ _).alloc (Nat.le_refl _) _).alloc (by simp) _)
    · rw [if_neg h2]
      have e2 : (k == 2) = false := by simp [h2]
      go_enter Try.func24, Try.ntmps24
      go_wp2
      refine bodyPost_ret (v := .agg #[.int .i64 0, .int .i64 0, .string ⟨#[]⟩]) (by simp [results, Try.results24, go_sem]) rfl ⟨rfl, ?_⟩
      exact (((Below.refl _ _).alloc (Nat.le_refl _) _).alloc (by simp) _)

end Go.Proofs.Ytpaidekocooliaa
