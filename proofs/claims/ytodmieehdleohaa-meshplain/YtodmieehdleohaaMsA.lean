/- A mesh: Waiting. -/
import Derived.Test.YtodmieehdleohaaMs8
namespace Go.Proofs.Ytodmieehdleohaa
open Go.RowKit NumMath Go.ChangeShapes Go.WideShapes Go.Deep
set_option linter.unusedVariables false
set_option maxRecDepth 100000

theorem infoArr : (Try.prog.info? 58).map (·.size) = some 100 := by kernel_rfl

/-- the array of what is due later, as a list -/
def laterL (cs : Nat → Value) : List Value := (List.range 100).map (fun i => cs (3 + i))

theorem laterL_len (cs : Nat → Value) : (laterL cs).length = 100 := by simp [laterL]

theorem laterL_get (cs : Nat → Value) (k : Nat) (hk : k < 100) : (laterL cs)[k]? = some (cs (3 + k)) := by simp [laterL, hk]

theorem later_at {w : World} {base p z : Nat} {cs : Nat → Value} {F : List (Int × Int)} {C : Int → Int → Bool} {Q : Nat → List MMsg} (h : IsMesh w base p z cs F C Q) : w.rangeAt p 3 (laterL cs) := by
  intro j v hj
  have hj1 : j < 100 := by have := (List.getElem?_eq_some_iff.1 hj).1; rwa [laterL_len] at this
  rw [laterL_get cs j hj1] at hj
  cases hj
  exact h.cell (3 + j) (by omega)

theorem wp_loadA {ops : Array Oper} {rest : List Oper} {o : Oper} {a : Act} {Q : Exit → Act → World → Prop} (w : World) (hgd : o.guard = none) (x : Operand) (ho : o.op = .load 58 x) (g f : Nat) (cs : List Value) (hx : a.eval x = .pointer (some ⟨g, f, none⟩)) (hc : w.rangeAt g f cs) (hl : cs.length = 100) (vs : Array Value) (hv : vs = cs.toArray)
    (h : wpList Try.prog ops Q rest (a.put o.dst (.agg vs)) w) : wpList Try.prog ops Q (o :: rest) a w := by
  refine wpList_plain hgd fun K hK => ?_
  have hr := run_loadAt_mid (P := Try.prog) w g f 58 cs _ hc Try.underlying58 rfl (by rw [hl]; exact infoArr)
  rw [← hv] at hr
  unfold Oper.wp execOp
  simp only [ho, hx, Sem.run_bind, hr, Sem.run_pure, Result.andThen_ok]
  exact hK _ _ h

theorem infoSl : (Try.prog.info? 46).map (·.size) = some 1 := by kernel_rfl

theorem run_indexA (w : World) (vs : Array Value) (k : Nat) (hk : k < 100) (v : Value) (hv : vs[k]? = some v) : (Instr.index 58 (.agg vs) (.int .i64 (k : Int))).run Try.prog w = .ok v w := by
  have hs : (sizeOf 46).run Try.prog w = .ok 1 w := by kernel_rfl
  have h1 : (0 : Int) ≤ (k : Int) ∧ (k : Int) < ((100 : Nat) : Int) := by omega
  simp [Instr.index, asIntOf, run_underlying Try.underlying58, hs, part, hv, show k < 100 by omega]

/-- how many wait: those due, and those of the first k ticks to come -/
def waitN (Q : Nat → List MMsg) : Nat → Nat
  | 0 => (Q 2).length
  | k + 1 => waitN Q k + (Q (3 + k)).length

set_option maxHeartbeats 4000000 in
theorem waitM_any (base p z : Nat) (cs : Nat → Value) (F : List (Int × Int)) (C : Int → Int → Bool) (Q : Nat → List MMsg) (w : World) (h : IsMesh w base p z cs F C Q) (hbig : ∀ k, k ≤ 100 → waitN Q k ≤ 1000000) :
    Calls Try.prog 18 #[.pointer (some ⟨p, 0, none⟩)] w fun e w' => e = .returned (.int .i64 (waitN Q 100 : Nat)) ∧ w' = w := by
  have HMade := hide (madeM_any w base p z cs F C Q h)
  have c2 := h.cell 2 (by decide)
  have hS := h.seg 2 (by decide) (by decide)
  obtain ⟨a2, d2, e2, -, -⟩ := hS.form
  rw [e2] at c2
  have HSg : Hid (∀ k, k < 100 → ∃ a c, cs (3 + k) = .slice a (Q (3 + k)).length c) := fun k hk => by
    obtain ⟨a, c, e, _, _⟩ := (h.seg (3 + k) (by omega) (by omega)).form
    exact ⟨a, c, e⟩
  obtain ⟨vs, hvs⟩ : ∃ vs : Array Value, vs = (laterL cs).toArray := ⟨_, rfl⟩
  have HVs := hide hvs
  have HAt := hide (later_at h)
  have HBig := hide hbig
  have HGet : Hid (∀ k, k < 100 → vs[k]? = some (cs (3 + k))) := fun k hk => by rw [hvs, List.getElem?_toArray]; exact laterL_get cs k hk
  have hsz : vs.size = 100 := by rw [hvs]; simp [laterL]
  clear h hS e2 hvs hbig
  go_enter Try.func18, Try.ntmps18
  go_wp2_with (first
    | (go_at_call 21; go_must (refine HMade.out.mono ?_); rintro e w' ⟨rfl, hw⟩; have hw := hw.symm; subst hw)
    | (refine wp_loadA _ rfl (.tmp 16) rfl p 3 (laterL cs) rfl HAt.out (laterL_len cs) vs HVs.out ?_))
  go_loopw [3, 18] (fun s i wr => ∃ k : Nat, k ≤ 100 ∧ i = .int .i64 k ∧ s = .int .i64 (waitN Q k : Nat) ∧ wr = w) (fun _ i _ => 100 - (intOf i).toNat)
  case atStart => exact ⟨0, by omega, rfl, rfl, rfl⟩
  case round =>
    obtain ⟨k, hk, rfl, rfl, rfl⟩ := hrel
    by_cases hlt : k < 100
    · obtain ⟨ak, ck, ek⟩ := HSg.out k hlt
      have hget := HGet.out k hlt
      rw [ek] at hget
      have hb1 := HBig.out k (by omega)
      have hb2 := HBig.out (k + 1) (by omega)
      have HW : Hid (waitN Q (k + 1) = waitN Q k + (Q (3 + k)).length) := rfl
      rw [HW.out] at hb2
      generalize waitN Q k = W0 at *
      generalize (Q (3 + k)).length = nk at *
      have hkI : (k : Int) < 100 := by omega
      have hidx := run_indexA wr vs k hlt _ hget
      clear hget
      go_wp2
      go_roundw
      case rel => exact ⟨k + 1, by omega, by go_num, (by rw [HW.out]; congr 1), trivial⟩
      case measure => simp [intOf]; omega
    · have hkn : k = 100 := by omega
      subst hkn
      go_wp2
      go_ret
      exact ⟨rfl, rfl⟩

end Go.Proofs.Ytodmieehdleohaa
