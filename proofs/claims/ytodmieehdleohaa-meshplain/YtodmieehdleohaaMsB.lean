/- Chapter 10's example. -/
import Derived.Test.YtodmieehdleohaaMs9
import Derived.Test.YtodmieehdleohaaMsA
namespace Go.Proofs.Ytodmieehdleohaa
open Go.RowKit NumMath Go.ChangeShapes Go.WideShapes Go.Deep
set_option linter.unusedVariables false
set_option maxRecDepth 100000

theorem isG_two (w : World) (m1 m2 : MMsg) (g : Nat) (ty : TypeId) (hg : w.heap.size = g) : IsG (w.alloc (.cells #[.int .i64 m1.k, .int .u64 m1.fr, .int .u64 m1.tt, .int .u64 m1.tm, .int .u64 m1.ix, .int .u64 m1.lt, .int .u64 m1.cm, .int .u64 m1.hn, .bool m1.rj, .slice m1.ea m1.en m1.ec, .int .u64 m1.si, .int .u64 m1.st, .slice m1.ma m1.mn m1.mc, .slice m1.sa m1.sn m1.sc, .int .i64 m2.k, .int .u64 m2.fr, .int .u64 m2.tt, .int .u64 m2.tm, .int .u64 m2.ix, .int .u64 m2.lt, .int .u64 m2.cm, .int .u64 m2.hn, .bool m2.rj, .slice m2.ea m2.en m2.ec, .int .u64 m2.si, .int .u64 m2.st, .slice m2.ma m2.mn m2.mc, .slice m2.sa m2.sn m2.sc] ty)) (some ⟨g, 0, none⟩) 2 2 [m1, m2] := by
  have hh : (w.alloc (.cells #[.int .i64 m1.k, .int .u64 m1.fr, .int .u64 m1.tt, .int .u64 m1.tm, .int .u64 m1.ix, .int .u64 m1.lt, .int .u64 m1.cm, .int .u64 m1.hn, .bool m1.rj, .slice m1.ea m1.en m1.ec, .int .u64 m1.si, .int .u64 m1.st, .slice m1.ma m1.mn m1.mc, .slice m1.sa m1.sn m1.sc, .int .i64 m2.k, .int .u64 m2.fr, .int .u64 m2.tt, .int .u64 m2.tm, .int .u64 m2.ix, .int .u64 m2.lt, .int .u64 m2.cm, .int .u64 m2.hn, .bool m2.rj, .slice m2.ea m2.en m2.ec, .int .u64 m2.si, .int .u64 m2.st, .slice m2.ma m2.mn m2.mc, .slice m2.sa m2.sn m2.sc] ty)).heap[g]? = some (.cells (m1.vals ++ m2.vals).toArray ty) := by rw [← hg]; exact (MapKept.heap_alloc w _).1
  have hc : ∀ (j : Nat) (u : Value), (m1.vals ++ m2.vals)[j]? = some u → (w.alloc (.cells #[.int .i64 m1.k, .int .u64 m1.fr, .int .u64 m1.tt, .int .u64 m1.tm, .int .u64 m1.ix, .int .u64 m1.lt, .int .u64 m1.cm, .int .u64 m1.hn, .bool m1.rj, .slice m1.ea m1.en m1.ec, .int .u64 m1.si, .int .u64 m1.st, .slice m1.ma m1.mn m1.mc, .slice m1.sa m1.sn m1.sc, .int .i64 m2.k, .int .u64 m2.fr, .int .u64 m2.tt, .int .u64 m2.tm, .int .u64 m2.ix, .int .u64 m2.lt, .int .u64 m2.cm, .int .u64 m2.hn, .bool m2.rj, .slice m2.ea m2.en m2.ec, .int .u64 m2.si, .int .u64 m2.st, .slice m2.ma m2.mn m2.mc, .slice m2.sa m2.sn m2.sc] ty)).cell? ⟨g, j, none⟩ = some u := by
    intro j u hj
    unfold World.cell?
    rw [hh]
    show (m1.vals ++ m2.vals).toArray[j]? = _
    rw [List.getElem?_toArray, hj]
  refine ⟨rfl, Nat.le_refl _, by decide, .inr ⟨g, 0, rfl, by simp; omega, fun i hi => ?_⟩⟩
  match i, hi with
  | 0, _ =>
    intro j u hj
    simp only [Nat.zero_mul, Nat.zero_add]
    have hj : m1.vals[j]? = some u := hj
    exact hc j u (by rw [List.getElem?_append_left (List.getElem?_eq_some_iff.1 hj).1]; exact hj)
  | 1, _ =>
    intro j u hj
    exact hc _ u (by rw [List.getElem?_append_right (by rw [vals_len]; omega), vals_len]; have e : 0 + 1 * 14 + j - 14 = j := by omega
                     rw [e]; exact hj)

theorem isG_one (w : World) (m1 : MMsg) (g : Nat) (ty : TypeId) (hg : w.heap.size = g) : IsG (w.alloc (.cells #[.int .i64 m1.k, .int .u64 m1.fr, .int .u64 m1.tt, .int .u64 m1.tm, .int .u64 m1.ix, .int .u64 m1.lt, .int .u64 m1.cm, .int .u64 m1.hn, .bool m1.rj, .slice m1.ea m1.en m1.ec, .int .u64 m1.si, .int .u64 m1.st, .slice m1.ma m1.mn m1.mc, .slice m1.sa m1.sn m1.sc] ty)) (some ⟨g, 0, none⟩) 1 1 [m1] := by
  refine ⟨rfl, Nat.le_refl _, by decide, .inr ⟨g, 0, rfl, by simp; omega, fun i hi => ?_⟩⟩
  match i, hi with
  | 0, _ => rw [Nat.zero_mul, Nat.zero_add]; exact (boxG_new w m1 g ty hg).c

theorem waitN_zero (Q : Nat → List MMsg) (h : ∀ x, Q x = []) : ∀ k, waitN Q k = 0 := by
  intro k
  induction k with
  | zero => simp [waitN, h]
  | succ k ih => simp [waitN, ih, h]

theorem small_msgK (k : Int) : (msgK k).small := ⟨by simp [msgK], (fun e he => by cases he), by simp [msgK], by simp [msgK]⟩

theorem pq_two {Q : Nat → List MMsg} (h : pq Q = (sendL (fun _ _ => false) ([], pq (fun _ => [])) ([msgK 1, msgK 2].map MMsg.pure)).2) : ∃ m1 m2, Q 2 = [m1, m2] ∧ m1.k = 1 ∧ m2.k = 2 ∧ ∀ x, x ≠ 2 → Q x = [] := by
  have h2 : pq Q 2 = [(msgK 1).pure, (msgK 2).pure] := by rw [h]; rfl
  have hx : ∀ x, x ≠ 2 → pq Q x = [] := by
    intro x hx
    rw [h]
    simp [sendL, send1, fateOf, upd, pq, hx]
  unfold pq at h2 hx
  rcases hq : Q 2 with _ | ⟨m1, _ | ⟨m2, _ | ⟨m3, r⟩⟩⟩ <;> rw [hq] at h2 <;> simp at h2
  refine ⟨m1, m2, rfl, ?_, ?_, fun x hx' => by simpa using hx x hx'⟩
  · have := congrArg PMsg.k h2.1; exact this
  · have := congrArg PMsg.k h2.2; exact this

set_option maxHeartbeats 4000000 in
theorem awake10_any (w : World) :
    Calls Try.prog 5 #[] w fun e w' => e = .returned (.bool true) ∧ Below w.heap.size w w' := by
  have HNew := hide (newM_any none 0 0 [] w (isF_nil w) (by decide))
  go_enter Try.func5, Try.ntmps5
  go_wp2_with (first
    | (go_at_call 6; go_must (refine HNew.out.mono ?_); rintro e w1 ⟨p, cs1, rfl, hm1, hb1⟩; have HM1 := hide hm1; have HB1 := hide hb1; clear hm1 hb1)
    | (go_at_call 9; go_must (refine (sendM_any w.heap.size p 0 cs1 [] (fun _ _ => false) (fun _ => []) (some ⟨w1.heap.size, 0, none⟩) 2 2 [msgK 1, msgK 2] _ (HM1.out.keep (by repeat (first | exact Below.refl _ _ | refine belA ?_ _ | refine Below.drew ?_))) (by exact isG_two w1 (msgK 1) (msgK 2) _ _ rfl) (.inr (fun y hy hs => by cases hy; have := (Spine.lt HM1.out hs).2; dsimp only at this; omega)) (fun m hm => by simp at hm; rcases hm with rfl | rfl; exact ok_msgK _ _ _ ⟨by decide, by decide⟩; exact ok_msgK _ _ _ ⟨by decide, by decide⟩) (fun m hm => by simp at hm; rcases hm with rfl | rfl <;> exact small_msgK _) (fun x => by simp) (by decide)).mono ?_); rintro e w2 ⟨rfl, cs2, Q2, hM2, hq2⟩; obtain ⟨m1, m2, hQ2, hk1, hk2, hQx⟩ := pq_two hq2; have HM2 := hide hM2.is; have hb2 := hM2.kp.below (B := w.heap.size) (by have := HB1.out.size; rw [World.size_alloc]; omega) (fun k hk => (Spine.lt HM1.out hk).1); have HB2 := hide ((HB1.out.alloc HB1.out.size _).trans hb2); have HQ2 := hide hQ2; have HQx := hide hQx; have HK1 := hide hk1; have HK2 := hide hk2; clear hM2 hq2 hQ2 hQx hb2 hk1 hk2)
    | (go_at_call 11; have hchk := HM3.out; clear hchk; go_must (refine (nextM_any w.heap.size p 0 cs3 _ (fun _ _ => false) _ _ (HM3.out.keep (by repeat (first | exact Below.refl _ _ | refine belA ?_ _ | refine Below.drew ?_))) (by have := HB3.out.size; rw [World.size_alloc]; omega)).mono ?_); rintro e w4 hN; rcases hN with ⟨hq, -⟩ | ⟨mb, rb, hqr, rfl, -, hp4⟩; (rw [HQ3.out] at hq; cases hq); rw [HQ3.out] at hqr; obtain ⟨rfl, rfl⟩ := List.cons.inj hqr; obtain ⟨cs4, hm4, hk4, -⟩ := hp4; have HM4 := hide hm4; have HX4 := hide (HX3.out.lies hk4 (fun hs => by have := (Spine.lt HM3.out hs).2; omega)); have HQ4 : Hid (∀ x, upd (upd Q2 2 [m2]) 2 [] x = []) := (fun x => by by_cases e : x = 2; (subst e; rw [upd_at]); (rw [upd_ne _ _ _ e, upd_ne _ _ _ e]; exact HQx.out x e)); have HB4 := hide ((HB3.out.alloc HB3.out.size _).trans (hk4.below (B := w.heap.size) (by have := HB3.out.size; rw [World.size_alloc]; omega) (fun k hk => (Spine.lt HM3.out hk).1))); clear hm4 hk4 hqr)
    | (go_at_call 11; go_must (refine (nextM_any w.heap.size p 0 cs2 _ (fun _ _ => false) Q2 _ HM2.out HB2.out.size).mono ?_); rintro e w3 hN; rcases hN with ⟨hq, -⟩ | ⟨ma, ra, hqr, rfl, -, hp3⟩; (rw [HQ2.out] at hq; cases hq); rw [HQ2.out] at hqr; obtain ⟨rfl, rfl⟩ := List.cons.inj hqr; obtain ⟨cs3, hm3, hk3, -⟩ := hp3; have HM3 := hide hm3; have HQ3 : Hid (upd Q2 2 [m2] 2 = [m2]) := upd_at _ _ _; have HB3 := hide (HB2.out.trans (hk3.below (B := w.heap.size) HB2.out.size (fun k hk => (Spine.lt HM2.out hk).1))); have HX3 := hide (boxG_new w3 m1 w3.heap.size 39 rfl); clear hm3 hk3 hqr)
    | (refine wp_storeN w3 rfl (.tmp 2) (.tmp 15) rfl w3.heap.size rfl m1 rfl rfl ?_)
    | (refine wp_storeN w4 rfl (.tmp 4) (.tmp 20) rfl w4.heap.size rfl m2 rfl rfl ?_; have x0 := (HX4.out.keep (new_below w4 (.cells #[.int .i64 m2.k, .int .u64 m2.fr, .int .u64 m2.tt, .int .u64 m2.tm, .int .u64 m2.ix, .int .u64 m2.lt, .int .u64 m2.cm, .int .u64 m2.hn, .bool m2.rj, .slice m2.ea m2.en m2.ec, .int .u64 m2.si, .int .u64 m2.st, .slice m2.ma m2.mn m2.mc, .slice m2.sa m2.sn m2.sc] 39))).x.1; have y0 := (boxG_new w4 m2 w4.heap.size 39 rfl).x.1; rw [HK1.out] at x0; rw [HK2.out] at y0; have HW := hide (fun W (hW : Below w4.heap.size w4 W) => waitM_any w.heap.size p 0 cs4 _ (fun _ _ => false) _ W (HM4.out.keep hW) (fun k hk => by rw [waitN_zero _ HQ4.out]; omega)); rw [waitN_zero _ HQ4.out] at HW)
    | (go_at_call 18; go_must (refine (HW.out _ (by repeat (first | exact Below.refl _ _ | refine belA ?_ _ | refine Below.drew ?_))).mono ?_); rintro e w' ⟨rfl, hw⟩; have hw := hw.symm; subst hw))
  go_ret
  exact ⟨rfl, HB4.out.alloc HB4.out.size _⟩

end Go.Proofs.Ytodmieehdleohaa
