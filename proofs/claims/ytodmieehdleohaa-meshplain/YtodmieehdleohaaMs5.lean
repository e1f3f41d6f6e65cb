/- A mesh: nextFate, hold. -/
import Derived.Test.YtodmieehdleohaaMs4
namespace Go.Proofs.Ytodmieehdleohaa
open Go.RowKit NumMath Go.ChangeShapes Go.WideShapes Go.Deep
set_option linter.unusedVariables false
set_option maxRecDepth 100000

/-- what a call leaves of a mesh -/
def MPost (w : World) (base p z : Nat) (cs : Nat → Value) (F : List (Int × Int)) (C : Int → Int → Bool) (Q : Nat → List MMsg) (w' : World) : Prop :=
  ∃ cs', IsMesh w' base p z cs' F C Q ∧ Keeps (Spine p cs) w w' ∧ ∀ k, Spine p cs' k → Spine p cs k ∨ w.heap.size ≤ k

def clampF (t : Int) (n : Int) : Int := if t < 0 then 0 else if n < t then n else t

/-- the fate of the next message -/
def fateOf : List (Int × Int) → Int × Int
  | [] => (1, 0)
  | f :: _ => (clampF f.1 3, clampF f.2 100)

theorem fateOf_rng (F : List (Int × Int)) : (0 ≤ (fateOf F).1 ∧ (fateOf F).1 ≤ 3) ∧ 0 ≤ (fateOf F).2 ∧ (fateOf F).2 ≤ 100 := by
  cases F with
  | nil => simp [fateOf]
  | cons f r =>
    simp only [fateOf, clampF]
    constructor <;> (repeat' split) <;> omega

theorem kwI (n : Int) (h1 : -9223372036854775808 ≤ n) (h2 : n ≤ 9223372036854775807) : IntKind.i64.wrap n = n := by
  simp [IntKind.wrap, IntKind.bits, IntKind.signed]
  omega

theorem infoFate : (Try.prog.info? 56).map (fun i => (i.zero, i.size, i.bytes)) = some (some (.agg #[.int .i64 0, .int .i64 0]), 2, 16) := by kernel_rfl

theorem size_fate (W : World) : (sizeOf (Try.prog.elem 22)).run Try.prog W = .ok 2 W := by
  obtain ⟨i0, hi, _, hz1, _⟩ := info_parts infoFate
  have he : Try.prog.elem 22 = 56 := by kernel_rfl
  rw [he]
  simp [sizeOf, typeInfo, hi, hz1]

set_option maxHeartbeats 2000000 in
theorem nextFate_any (base p z : Nat) (cs : Nat → Value) (F : List (Int × Int)) (C : Int → Int → Bool) (Q : Nat → List MMsg) (w : World) (h : IsMesh w base p z cs F C Q) :
    Calls Try.prog 22 #[.pointer (some ⟨p, 0, none⟩)] w fun e w' => e = .returned (.agg #[.int .i64 (fateOf F).1, .int .i64 (fateOf F).2]) ∧ MPost w base p z cs F.tail C Q w' := by
  have H := hide h
  have c0 := h.cell 0 (by decide)
  have f0 := h.fz 0
  have hpl := h.pb.2
  have hne : ¬ w.heap.size = p := by omega
  have hne2 : ¬ p = w.heap.size := by omega
  have hne3 : ¬ w.heap.size + 1 = p := by omega
  have hne4 : ¬ p = w.heap.size + 1 := by omega
  cases F with
  | nil =>
    obtain ⟨a, c, e0, _, _⟩ := h.fates.form
    rw [e0] at c0
    clear h
    simp only [List.length_nil] at c0
    go_enter Try.func22, Try.ntmps22
    go_wp2
    refine bodyPost_ret (v := .agg #[.int .i64 1, .int .i64 0]) (by simp [results, Try.results22, go_sem]) rfl ?_
    refine ⟨rfl, cs, H.out.keep (by repeat (first | exact Below.refl _ _ | refine belA ?_ _ | refine Below.drew ?_)), Below.keeps (by repeat (first | exact Below.refl _ _ | refine belA ?_ _ | refine Below.drew ?_)) _, fun k hk => .inl hk⟩
  | cons f r =>
    obtain ⟨t, d⟩ := f
    obtain ⟨a, c, e0, hc1, hc2⟩ := h.fates.form
    rw [e0] at c0
    have hS := h.fates
    rw [e0] at hS
    simp only [List.length_cons] at hS c0 hc1
    obtain ⟨g, off, rfl, hg, hx, _⟩ := hS.at (by omega)
    have q0 : w.cell? ⟨g, off, none⟩ = some (.int .i64 t) := hx 0 _ rfl
    have q1 : w.cell? ⟨g, off + 1, none⟩ = some (.int .i64 d) := hx 1 _ rfl
    have hgp : ¬ g = p := fun e => H.out.op 0 (by decide) (by rw [e0, e]; rfl)
    have hgp2 : ¬ p = g := fun e => hgp e.symm
    have hg1 : ¬ w.heap.size = g := by omega
    have hg2 : ¬ w.heap.size + 1 = g := by omega
    obtain ⟨b, c', hcut, hob, hseg⟩ := hS.tail 22 Try.underlying22 size_fate
    have hr0 : (0 : Int) ≤ (r.length : Int) := by omega
    have hmx : (r.length : Int) + 1 ≤ 9223372036854775807 := by unfold maxLen at hc2; omega
    have hrl : ((r.length : Int) + 1 == 0) = false := by simp; omega
    have hrl2 : ((r.length : Int) + 1 = 0) = False := by simp; omega
    have hrp : (0 : Int) < (r.length : Int) + 1 := by omega
    have HPut := hide (H.out.putF (F' := r) (.slice b r.length c') hseg (by rw [hob, e0]; rfl) (fun f hf => by simp [hf]))
    clear h hS hseg hx e0 hob hc1 hc2
    have ht : (t < 0 ∨ 3 < t) ∨ (¬ t < 0 ∧ ¬ 3 < t) := by omega
    have hd : (d < 0 ∨ 100 < d) ∨ (¬ d < 0 ∧ ¬ 100 < d) := by omega
    have main : ∀ u v : Int, (if t < 0 then (0 : Int) else if 3 < t then 3 else t) = u → (if d < 0 then (0 : Int) else if 100 < d then 100 else d) = v →
      Calls Try.prog 22 #[.pointer (some ⟨p, 0, none⟩)] w fun e w' => e = .returned (.agg #[.int .i64 u, .int .i64 v]) ∧ MPost w base p z cs r C Q w' := by
      intro u v hu hv
      rcases ht with (ht | ht) | ⟨ht, ht'⟩ <;> rcases hd with (hd | hd) | ⟨hd, hd'⟩
      all_goals
        simp only [ht, hd, if_true, if_false] at hu hv
        try simp only [show ¬ t < 0 by omega, if_false] at hu
        try simp only [show ¬ d < 0 by omega, if_false] at hv
        try simp only [ht, if_true] at hu
        try simp only [hd, if_true] at hv
        try simp only [ht', if_false] at hu
        try simp only [hd', if_false] at hv
        have HU := hide hu
        have HV := hide hv
        clear hu hv
        go_enter Try.func22, Try.ntmps22
        go_wp2
        refine bodyPost_ret (v := .agg #[.int .i64 u, .int .i64 v]) (by have hu := HU.out; have hv := HV.out; subst hu; subst hv; simp [results, Try.results22, go_sem]) rfl ?_
        refine ⟨rfl, _, HPut.out.1.keep (by repeat (first | exact Below.refl _ _ | refine belA ?_ _ | refine Below.drew ?_)), kpBelow HPut.out.2.1 (by repeat (first | exact Below.refl _ _ | refine belA ?_ _ | refine Below.drew ?_)), fun k hk => .inl (HPut.out.2.2 k hk)⟩
    exact main _ _ rfl rfl

end Go.Proofs.Ytodmieehdleohaa
