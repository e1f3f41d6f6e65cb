/- A mesh: Tick. -/
import Derived.Test.YtodmieehdleohaaMsC
namespace Go.Proofs.Ytodmieehdleohaa
open Go.RowKit NumMath Go.ChangeShapes Go.WideShapes Go.Deep
set_option linter.unusedVariables false
set_option maxRecDepth 100000

theorem Seg.src {w : World} {a : Option Addr} {n c : Nat} {l : List MMsg} (h : Seg w 14 (.slice a n c) n (cellsG l)) (hn : l.length = n) : n = 0 ∨ ∃ ad, a = some ad ∧ ∀ j u, (cellsG l)[j]? = some u → w.cell? (ad.add j) = some u := by
  by_cases h0 : n = 0
  · exact .inl h0
  · obtain ⟨g, off, rfl, _, hc, _⟩ := h.at (by omega)
    exact .inr ⟨_, rfl, fun j u hu => by rw [add_plain]; exact hc j u hu⟩

/-- the lists, one tick later -/
def shiftQ {α : Type} (Q : Nat → List α) : Nat → List α := fun i => if i < 3 then upd Q 2 (Q 2 ++ Q 3) i else if i < 102 then upd Q 2 (Q 2 ++ Q 3) (i + 1) else []

/-- the lists moved up, in memory -/
structure Moved (w : World) (p : Nat) (cs : Nat → Value) (w' : World) : Prop where
  kp : Keeps (fun k => k = p) w w'
  fz : ∀ x, w'.frozen? x = w.frozen? x
  lo : ∀ i, i < 3 ∨ 102 ≤ i → w'.cell? ⟨p, i, none⟩ = w.cell? ⟨p, i, none⟩
  up : ∀ i, 3 ≤ i → i < 102 → w'.cell? ⟨p, i, none⟩ = some (cs (i + 1))

theorem seg_cell {w : World} {sz : Nat} {v : Value} {n : Nat} {xs : List Value} (h : Seg w sz v n xs) : v.oneCell' = true := by
  obtain ⟨a, c, rfl, _⟩ := h.form
  rfl

theorem infoSl1 : (Try.prog.info? 46).map (·.size) = some 1 := by kernel_rfl

theorem moved_list (cs : Nat → Value) (n : Nat) : ∃ L : List Value, L.length = n ∧ (∀ j, j < n → L[j]? = some (cs (4 + j))) ∧ ∀ v ∈ L, ∃ i, i < n ∧ v = cs (4 + i) :=
  ⟨(List.range n).map (fun i => cs (4 + i)), by simp, fun j hj => by simp [hj], fun v hv => by
    obtain ⟨i, hi, rfl⟩ := List.mem_map.1 hv
    exact ⟨i, List.mem_range.1 hi, rfl⟩⟩

theorem run_moved (w : World) (base p z : Nat) (cs : Nat → Value) (F : List (Int × Int)) (C : Int → Int → Bool) (Q : Nat → List MMsg) (h : IsMesh w base p z cs F C Q) (ty : TypeId) :
    ∃ w', (Builtin.copy_ #[75, 75] ty #[.slice (some ⟨p, 3, none⟩) 100 100, .slice (some ⟨p, 4, none⟩) 99 99]).run Try.prog w = .ok (.int .i64 99) w' ∧ Moved w p cs w' := by
  obtain ⟨L, hlen, hget, hmem⟩ := moved_list cs 99
  have hsome : ∀ i, i < 103 → (w.cell? ⟨p, i, none⟩).isSome = true := fun i hi => by rw [h.cell i hi]; rfl
  have hrun := run_copy_cells (P := Try.prog) w 75 75 ty 46 p 3 100 100 ⟨p, 4, none⟩ 99 99 L Try.underlying75 infoSl1 (by rw [hlen]; decide) (fun j v hj => by
    have hj1 : j < 99 := by have := (List.getElem?_eq_some_iff.1 hj).1; rwa [hlen] at this
    rw [hget j hj1] at hj
    cases hj
    rw [add_plain]
    exact h.cell (4 + j) (by omega)) (fun j hj => hsome (3 + j) (by rw [hlen] at hj; omega)) (fun j hj => h.fz (3 + j)) (fun v hv => by
    obtain ⟨i, hi, rfl⟩ := hmem v hv
    exact seg_cell (h.seg (4 + i) (by omega) (by omega)))
  rw [hlen] at hrun
  refine ⟨_, hrun, keeps_cells _ _ _ _, fun x => World.frozen?_setCells _ _ _ _ _, fun i hi => World.cell?_setCells_out p _ 3 w ⟨p, i, none⟩ (fun _ _ => by rw [hlen]; exact hi), fun i h3 hi => ?_⟩
  have e : i = 3 + (i - 3) := by omega
  have hlt : i - 3 < L.length := by rw [hlen]; omega
  have h1 := World.cell?_setCells_in p L 3 w (fun j hj => hsome (3 + j) (by rw [hlen] at hj; omega)) (i - 3) hlt
  rw [← e] at h1
  rw [h1]
  have h2 := hget (i - 3) (by omega)
  rw [List.getElem?_eq_getElem hlt] at h2
  rw [h2]
  congr 2
  omega

set_option maxHeartbeats 4000000 in
theorem tickM_any (base p z : Nat) (cs : Nat → Value) (F : List (Int × Int)) (C : Int → Int → Bool) (Q : Nat → List MMsg) (w : World) (h : IsMesh w base p z cs F C Q) (hbase : base ≤ w.heap.size) (hbig : (Q 2).length + (Q 3).length ≤ 900000) :
    Calls Try.prog 14 #[.pointer (some ⟨p, 0, none⟩)] w fun e w' => e = .returned (.tuple #[]) ∧ MPost w base p z cs F C (shiftQ Q) w' := by
  have H := hide h
  have HMade := hide (madeM_any w base p z cs F C Q h)
  have c2 := h.cell 2 (by decide)
  have c3 := h.cell 3 (by decide)
  have f2 := h.fz 2
  have hpl := h.pb.2
  have hS2 := h.seg 2 (by decide) (by decide)
  have hS3 := h.seg 3 (by decide) (by decide)
  have HO : Hid (¬ (cs 2).ownBlock = some p) := fun e => h.op 2 (by decide) (by rw [blk_own (h.seg 2 (by decide) (by decide))]; exact e)
  obtain ⟨a2, d2, e2, -, -⟩ := hS2.form
  obtain ⟨a3, d3, e3, -, -⟩ := hS3.form
  rw [e2] at c2 hS2
  rw [e3] at c3 hS3
  have HS2 := hide hS2
  have HS3 := hide hS3
  have HE2 := hide e2
  have HD3 : Hid (∀ m ∈ Q 3, m.okX (Spine p cs) w) := fun m hm => h.dat 3 m (by decide) (by decide) hm
  clear h hS2 hS3 e2 e3
  go_enter Try.func14, Try.ntmps14
  go_wp2_with (first
    | (go_at_call 21; go_must (refine HMade.out.mono ?_); rintro e w' ⟨rfl, hw⟩; have hw := hw.symm; subst hw))
  go_region_law (first
    | (refine step_segG _ (by rfl) (.tmp 9) (.tmp 14) (by rfl) (.slice a2 (Q 2).length d2) (Q 2) (by rfl) (HS2.out.keep (by repeat (first | exact Below.refl _ _ | refine belA ?_ _ | refine Below.drew ?_))) a3 (Q 3).length d3 (Q 3) (by rfl) rfl ((HS3.out.keep (by repeat (first | exact Below.refl _ _ | refine belA ?_ _ | refine Below.drew ?_))).src rfl) (by omega) ?_; intro v5 w5 hs5 hk5 hat5; obtain ⟨a5, n5, d5, rfl⟩ := hs5.any; have HP := hide (pushAt (w := w) (by repeat (first | exact Below.refl _ _ | refine belA ?_ _ | refine Below.drew ?_)) ((H.out.keep (by repeat (first | exact Below.refl _ _ | refine belA ?_ _ | refine Below.drew ?_))).push (by simp; omega) 2 (by decide) (by decide) _ HE2.out hk5 _ (Q 3) hs5 hat5 (fun x hx => (HD3.out x hx).keep (by repeat (first | exact Below.refl _ _ | refine belA ?_ _ | refine Below.drew ?_))))); have e5 := (show w5.heap[p]? = w.heap[p]? from (hk5.block p (by simp; omega) (by rw [← HE2.out]; exact HO.out)).trans (Below.block (B := w.heap.size) (by repeat (first | exact Below.refl _ _ | refine belA ?_ _ | refine Below.drew ?_)) p hpl)); have c25 := (World.cell?_of_block (a := ⟨p, 2, none⟩) e5).trans c2; have f25 := (World.frozen?_of_block (a := ⟨p, 2, none⟩) e5).trans f2; clear hs5 hk5 hat5 e5))
  all_goals
    obtain ⟨W6, hW6⟩ : ∃ W6, W6 = w5.setCell ⟨p, 2, none⟩ (.slice a5 n5 d5) := ⟨_, rfl⟩
    have HP6 := HP.out
    rw [← hW6] at HP6 ⊢
    obtain ⟨cs6, hm6, hk6, hs6⟩ := HP6
    have HM6 := hide hm6
    have HK6 := hide hk6
    have HS6 := hide hs6
    obtain ⟨w7, hr7, hv7⟩ := run_moved W6.drew base p z cs6 F C _ (hm6.keep (Below.refl _ _).drew) 3
    have HV7 := hide hv7
    clear hm6 hk6 hs6 HP hW6 hv7 c25 f25
    go_wp2_with fail
    go_region
    have c102 := (HV7.out.lo 102 (.inr (Nat.le_refl _))).trans (HM6.out.cell 102 (by decide))
    have f102 := (HV7.out.fz ⟨p, 102, none⟩).trans (HM6.out.fz 102)
    go_wp2
    go_end0
    have hk8 : Keeps (fun k => k = p) W6 (w7.setCell ⟨p, 102, none⟩ (.slice none 0 0)) := kpThen (kpThen (Below.keeps (w := W6) (w' := W6.drew) (Below.refl _ _).drew _) (fun k hk => .inl hk) HV7.out.kp) (fun k hk => .inl hk) (keeps_cell _)
    have hsh := HM6.out.shift hk8 (fun i => by simp; exact (HV7.out.fz ⟨p, i, none⟩).trans (HM6.out.fz i)) (fun i hi => (cell_off (by omega)).trans ((HV7.out.lo i (.inl hi)).trans (HM6.out.cell i (by omega)))) (fun i h3 hi => (cell_off (by omega)).trans (HV7.out.up i h3 hi)) (World.cell?_setCell_same _ _ _ c102)
    refine ⟨rfl, _, hsh.1, kpThen HK6.out (fun k (hk : k = p) => .inl (by rw [hk]; exact .inl rfl)) hk8, fun k hk => HS6.out k (hsh.2 k hk)⟩

end Go.Proofs.Ytodmieehdleohaa
