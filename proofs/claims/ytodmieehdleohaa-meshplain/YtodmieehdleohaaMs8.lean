/- A mesh: New, Next, Waiting. -/
import Derived.Test.YtodmieehdleohaaMs7
import Derived.Laws.Tables
namespace Go.Proofs.Ytodmieehdleohaa
open Go.RowKit NumMath Go.ChangeShapes Go.WideShapes Go.Deep
set_option linter.unusedVariables false
set_option maxRecDepth 100000

/-! ### New -/

/-- the fates that lie anywhere -/
def IsF (w : World) (a : Option Addr) (len cap : Nat) (F : List (Int × Int)) : Prop :=
  F.length = len ∧ len ≤ cap ∧ cap ≤ maxLen ∧ (∀ f ∈ F, II f.1 ∧ II f.2) ∧ (len = 0 ∨ ∃ g off, a = some ⟨g, off, none⟩ ∧ g < w.heap.size ∧ ∀ j u, (cellsF F)[j]? = some u → w.cell? ⟨g, off + j, none⟩ = some u)

theorem IsF.keep {w w' : World} {a : Option Addr} {len cap : Nat} {F : List (Int × Int)} (h : IsF w a len cap F) (hb : Below w.heap.size w w') : IsF w' a len cap F := by
  obtain ⟨h1, h2, h3, h4, h5⟩ := h
  refine ⟨h1, h2, h3, h4, ?_⟩
  rcases h5 with h5 | ⟨g, off, ha, hg, hc⟩
  · exact .inl h5
  · exact .inr ⟨g, off, ha, Nat.lt_of_lt_of_le hg hb.size, fun j u hu => (hb.cell (p := ⟨g, off + j, none⟩) hg).trans (hc j u hu)⟩

theorem isF_nil (w : World) : IsF w none 0 0 [] := ⟨rfl, Nat.le_refl _, Nat.zero_le _, by simp, .inl rfl⟩

theorem cellsF_one (F : List (Int × Int)) : ∀ u ∈ cellsF F, u.oneCell' = true := by
  intro u hu
  obtain ⟨f, _, h⟩ := List.mem_flatMap.1 hu
  simp at h
  rcases h with rfl | rfl <;> rfl

/-- append of fates -/
theorem wp_segF {ops : Array Oper} {rest : List Oper} {o : Oper} {a : Act} {Q : Exit → Act → World → Prop} (w : World) (hgd : o.guard = none) (s x : Operand)
    (ho : o.op = .call { callee := .builtin .append, args := #[s, x], argTypes := #[22, 22] }) (v : Value) (l : List (Int × Int)) (hs : a.eval s = v) (h : Seg w 2 v l.length (cellsF l)) (sa : Option Addr) (m c : Nat) (l2 : List (Int × Int)) (hx : a.eval x = .slice sa m c) (hF : IsF w sa m c l2) (hbig : l.length + l2.length ≤ 1000000)
    (hK : ∀ v' w', Seg w' 2 v' (l ++ l2).length (cellsF (l ++ l2)) → Keeps (fun k => v.ownBlock = some k) w w' → AtB w v v' → wpList Try.prog ops Q rest (a.put o.dst v') w') : wpList Try.prog ops Q (o :: rest) a w := by
  refine wpList_plain hgd fun K hK' => ?_
  obtain ⟨i0, hi, hz0, hz1, hz2⟩ := info_parts infoFate
  have hl := hF.1
  obtain ⟨v', w', hr, h1, h2, h3⟩ := run_seg w 22 o.type 56 i0 _ 2 16 Try.underlying22 hi hz0 hz1 hz2 rfl (by decide) v l.length (cellsF l) h sa m c (cellsF l2) (by rw [cellsF_len, hl]) (by
    rcases hF.2.2.2.2 with h0 | ⟨g, off, rfl, _, hc⟩
    · exact .inl h0
    · exact .inr ⟨_, rfl, fun j u hu => by rw [add_plain]; exact hc j u hu⟩) (cellsF_one l2) (by unfold maxLen; omega) (by omega)
  unfold Oper.wp execOp
  simp only [ho, resolve, invoke, builtin, Sem.run_bind, Sem.run_pure, Result.andThen_ok, List.map_toArray, List.map_cons, List.map_nil, hs, hx, hr]
  exact hK' _ _ (hK v' w' (by rw [List.length_append, hl]; unfold cellsF at *; rw [List.flatMap_append]; exact h1) h2 h3)

theorem cloneF_any (a : Option Addr) (len cap : Nat) (F : List (Int × Int)) (w : World) (hF : IsF w a len cap F) (hbig : len ≤ 100000) :
    Calls Try.prog 20 #[.slice a len cap] w fun e w' => ∃ v, e = .returned v ∧ Seg w' 2 v F.length (cellsF F) ∧ (∀ g, v.ownBlock = some g → w.heap.size ≤ g) ∧ Below w.heap.size w w' := by
  have HS := hide hF
  cases a with
  | none =>
    have h0 : len = 0 := by
      rcases hF.2.2.2.2 with h | ⟨g, off, h, _⟩
      · exact h
      · cases h
    have hx : F = [] := List.length_eq_zero_iff.1 (hF.1.trans h0)
    subst h0 hx
    clear hF
    have hnil : ∀ w, (binOp .eql 22 (.slice none 0 cap) (.slice none 0 0)).run Try.prog w = .ok (.bool true) w := fun w => Lib.run_eql_slice_nil w 22 56 none 0 cap 0 0 Try.underlying22
    go_enter Try.func20, Try.ntmps20
    go_wp2
    go_ret
    exact ⟨_, rfl, seg_nil _ _, (by intro g hg; cases hg), Below.refl _ _⟩
  | some x =>
    clear hF
    have hnil : ∀ w, (binOp .eql 22 (.slice (some x) len cap) (.slice none 0 0)).run Try.prog w = .ok (.bool false) w := fun w => Lib.run_eql_slice_nil w 22 56 (some x) len cap 0 0 Try.underlying22
    have HE : Hid (Seg (w.alloc (.cells #[] 56)) 2 (.slice (some ⟨w.heap.size, 0, none⟩) 0 0) 0 []) := ⟨by simp, .inr ⟨w.heap.size, 0, 0, rfl, by simp, Nat.le_refl _, Nat.zero_le _, fun j u hu => by simp at hu, fun j hj => by omega⟩⟩
    go_enter Try.func20, Try.ntmps20
    go_wp2_with (first
      | (at_builtin; go_must (refine wp_segF _ rfl (.tmp 5) (.tmp 6) rfl (.slice (some ⟨w.heap.size, 0, none⟩) 0 0) [] rfl HE.out (some x) len cap F rfl (HS.out.keep (new_below _ _)) (by rw [HS.out.1]; simp; omega) ?_); intro v1 w1 hown1 hk1 hat1))
    go_ret
    refine ⟨v1, rfl, hown1, fun g hg => ?_, ?_⟩
    · rcases hat1 with h1 | ⟨g', h1, h2⟩
      · rw [h1] at hg; cases hg; exact Nat.le_refl _
      · rw [hg] at h1; cases h1; rw [World.size_alloc] at h2; omega
    · exact (new_below _ _).trans ((hk1.below (B := w.heap.size) (by simp) (fun k hk => by cases hk; exact Nat.le_refl _)))

def csNew (fv : Value) (mb : Nat) (i : Nat) : Value := if i = 0 then fv else if i = 1 then .map (some mb) else .slice none 0 0

theorem cells_csNew (fv : Value) (mb : Nat) : ∀ i, i < 103 → (fv :: .map (some mb) :: List.replicate 101 (.slice none 0 0))[i]? = some (csNew fv mb i) := by
  intro i hi
  match i, hi with
  | 0, _ => rfl
  | 1, _ => rfl
  | i + 2, hi =>
    show (List.replicate 101 (Value.slice none 0 0))[i]? = _
    rw [List.getElem?_replicate, if_pos (by omega)]
    rfl

/-- a mesh that was made -/
theorem isMesh_new (w w1 : World) (fv : Value) (F : List (Int × Int)) (base : Nat) (hb : base ≤ w.heap.size) (hw : w.heap.size ≤ w1.heap.size) (hs : Seg w1 2 fv F.length (cellsF F)) (hg : ∀ g, fv.ownBlock = some g → w.heap.size ≤ g) (hr : ∀ f ∈ F, II f.1 ∧ II f.2) (p : Nat) (hp : w1.heap.size + 1 = p) (o : Obj) (ho : o = .map #[] 0) :
    IsMesh ((w1.alloc o).alloc (.cells (fv :: .map (some w1.heap.size) :: List.replicate 101 (.slice none 0 0)).toArray 60)) base p 0 (csNew fv w1.heap.size) F (fun _ _ => false) (fun _ => []) := by
  subst hp
  have hh : ((w1.alloc o).alloc (.cells (fv :: .map (some w1.heap.size) :: List.replicate 101 (.slice none 0 0)).toArray 60)).heap[w1.heap.size + 1]? = some (.cells (fv :: .map (some w1.heap.size) :: List.replicate 101 (.slice none 0 0)).toArray 60) := by
    have := (MapKept.heap_alloc (w1.alloc o) (.cells (fv :: .map (some w1.heap.size) :: List.replicate 101 (.slice none 0 0)).toArray 60)).1
    rwa [World.size_alloc] at this
  have hbel : Below w1.heap.size w1 ((w1.alloc o).alloc (.cells (fv :: .map (some w1.heap.size) :: List.replicate 101 (.slice none 0 0)).toArray 60)) := (by repeat (first | exact Below.refl _ _ | refine belA ?_ _ | refine Below.drew ?_))
  have hsz : ((w1.alloc o).alloc (.cells (fv :: .map (some w1.heap.size) :: List.replicate 101 (.slice none 0 0)).toArray 60)).heap.size = w1.heap.size + 2 := by rw [World.size_alloc, World.size_alloc]
  have hb0 : ∀ i b, i < 103 → blk (csNew fv w1.heap.size i) = some b → (i = 0 ∧ fv.ownBlock = some b ∧ b < w1.heap.size) ∨ (i = 1 ∧ b = w1.heap.size) := by
    intro i b hi hb'
    unfold csNew at hb'
    split at hb'
    · rename_i e
      rw [blk_own hs] at hb'
      exact .inl ⟨e, hb', hs.lt b hb'⟩
    · split at hb'
      · rename_i e
        cases hb'
        exact .inr ⟨e, rfl⟩
      · cases hb'
  refine ⟨fun i hi => ?_, fun i => ?_, ⟨by omega, by rw [hsz]; omega⟩, fun i b hi hb' => ?_, fun i j b hi hj h1 h2 => ?_, fun i hi e => ?_, ⟨w1.heap.size, rfl, ?_⟩, hs.keep hbel, hr, fun i h2 hi => ?_, fun i m h2 hi hm => by simp at hm⟩
  · unfold World.cell?
    rw [hh]
    show (fv :: .map (some w1.heap.size) :: List.replicate 101 (.slice none 0 0)).toArray[i]? = _
    rw [List.getElem?_toArray]
    exact cells_csNew fv w1.heap.size i hi
  · unfold World.frozen?
    rw [hh]
    simp
  · rw [hsz]
    rcases hb0 i b hi hb' with ⟨_, h1, h2⟩ | ⟨_, h1⟩
    · have := hg b h1; omega
    · omega
  · rcases hb0 i b hi h1 with ⟨h3, h4, h5⟩ | ⟨h3, h4⟩ <;> rcases hb0 j b hj h2 with ⟨k3, k4, k5⟩ | ⟨k3, k4⟩ <;> omega
  · rcases hb0 i _ hi e with ⟨_, h1, h2⟩ | ⟨_, h1⟩ <;> omega
  · exact mapC_same (mapC_new w1 o ho _ rfl) (Below.block (new_below _ _) w1.heap.size (by rw [World.size_alloc]; omega))
  · have e : csNew fv w1.heap.size i = .slice none 0 0 := by unfold csNew; rw [if_neg (by omega), if_neg (by omega)]
    rw [e]
    exact seg_nil _ _

theorem built_mesh (a : Option Addr) (n c : Nat) (mb : Nat) : Try.prog.built 60 [(0, .slice a n c), (1, .map (some mb))] = some (.slice a n c :: .map (some mb) :: List.replicate 101 (.slice none 0 0)).toArray := by kernel_rfl

theorem wp_buildM {ops : Array Oper} {rest : List Oper} {o : Oper} {a : Act} {Q : Exit → Act → World → Prop} (w : World) (hgd : o.guard = none) (x y : Operand) (ho : o.op = .build 60 #[(0, x), (1, y)]) (fa : Option Addr) (n c mb : Nat) (hx : a.eval x = .slice fa n c) (hy : a.eval y = .map (some mb)) (vs : Array Value) (hv : vs = (.slice fa n c :: .map (some mb) :: List.replicate 101 (.slice none 0 0)).toArray)
    (h : wpList Try.prog ops Q rest (a.put o.dst (.agg vs)) w) : wpList Try.prog ops Q (o :: rest) a w := by
  refine wpList_plain hgd fun K hK => ?_
  have hr := run_build (P := Try.prog) w 60 #[(0, .slice fa n c), (1, .map (some mb))] vs (by rw [hv]; exact built_mesh fa n c mb)
  unfold Oper.wp execOp
  simp only [ho, Sem.run_bind, List.map_toArray, List.map_cons, List.map_nil, hx, hy, hr, Sem.run_pure, Result.andThen_ok]
  exact hK _ _ h

theorem wp_boxM {ops : Array Oper} {rest : List Oper} {o : Oper} {a : Act} {Q : Exit → Act → World → Prop} (w : World) (hgd : o.guard = none) (x : Operand) (ho : o.op = .box 60 x) (vs : Array Value) (hx : a.eval x = .agg vs)
    (h : wpList Try.prog ops Q rest (a.put o.dst (.pointer (some ⟨w.heap.size, 0, none⟩))) (w.alloc (.cells vs 60))) : wpList Try.prog ops Q (o :: rest) a w := by
  refine wpList_plain hgd fun K hK => ?_
  have hr : (Instr.box 60 (.agg vs)).run Try.prog w = .ok (.pointer (some ⟨w.heap.size, 0, none⟩)) (w.alloc (.cells vs 60)) := rfl
  unfold Oper.wp execOp
  simp only [ho, hx, Sem.run_bind, hr, Sem.run_pure, Result.andThen_ok]
  exact hK _ _ h

set_option maxHeartbeats 4000000 in
theorem newM_any (a : Option Addr) (len cap : Nat) (F : List (Int × Int)) (w : World) (hF : IsF w a len cap F) (hbig : len ≤ 100000) :
    Calls Try.prog 6 #[.slice a len cap] w fun e w' => ∃ p cs, e = .returned (.pointer (some ⟨p, 0, none⟩)) ∧ IsMesh w' w.heap.size p 0 cs F (fun _ _ => false) (fun _ => []) ∧ Below w.heap.size w w' := by
  have HC := hide (cloneF_any a len cap F w hF hbig)
  have HR := hide hF.2.2.2.1
  clear hF
  have hmm := @run_makeMap Try.prog
  go_enter Try.func6, Try.ntmps6
  go_wp2_with (first
    | (go_at_call 20; go_must (refine HC.out.mono ?_); rintro e w1 ⟨v1, rfl, hs1, hg1, hb1⟩; obtain ⟨a1, n1, c1, rfl⟩ := hs1.any; have HS1 := hide hs1; have HG1 := hide hg1; have HB1 := hide hb1; clear hs1 hg1 hb1; obtain ⟨vs, hvs⟩ : ∃ vs : Array Value, vs = (.slice a1 n1 c1 :: .map (some w1.heap.size) :: List.replicate 101 (.slice none 0 0)).toArray := ⟨_, rfl⟩; have HVs := hide hvs; clear hvs)
    | (refine wp_buildM _ rfl (.tmp 4) (.tmp 5) rfl a1 n1 c1 w1.heap.size rfl rfl vs HVs.out ?_)
    | (refine wp_boxM _ rfl (.tmp 6) rfl vs rfl ?_))
  go_ret
  have hvs := HVs.out
  subst hvs
  refine ⟨_, _, rfl, isMesh_new w w1 _ F w.heap.size (Nat.le_refl _) HB1.out.size HS1.out HG1.out HR.out _ rfl _ rfl, ?_⟩
  exact HB1.out.trans (Below.mono (by repeat (first | exact Below.refl _ _ | refine belA ?_ _ | refine Below.drew ?_)) HB1.out.size)

end Go.Proofs.Ytodmieehdleohaa
