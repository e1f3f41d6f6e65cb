/- The program's store: Drop. A region of a round that draws its order and ends with a store (Tx, inside a round). The program's store: Gc. -/
import Derived.Test.YtfldiapdfpkdaaaPsL
import Derived.Test.YtfldiapdfpkdaaaTx
namespace Go.Proofs.Ytfldiapdfpkdaaa
open Go.RowKit Go.Shelf NumMath Go.ChangeShapes Go.WideShapes Go.Deep
set_option linter.unusedVariables false
set_option maxRecDepth 100000

attribute [local go_sem] Oper.semAt_some

set_option maxHeartbeats 4000000 in
theorem pDrop_any (G : Nat → Prop) (base : Nat) (w : World) (p mb z : Nat) (cs : List PC) (h : IsS G base w p mb z cs) (hz : z ≤ 100000) (hlv : ∀ c ∈ cs.map PC.c, liveC c = true) (txn : Int) :
    Calls Try.prog 30 #[.pointer (some ⟨p, 0, none⟩), .int .u64 txn] w fun e w' => e = .returned (.int .i64 (intentsC (cs.map PC.c) txn).length) ∧ StPost G base w p mb z cs ((stepL (setIt ver0) (intentsC (cs.map PC.c) txn) (intentsC (cs.map PC.c) txn).length (cs.map PC.c)).filter liveC) w' := by
  refine (callsIn_wide (n := 6)).1 ?_
  refine callsIn_of_wp_marks Try.func30 rfl trivial ?_ rfl
  simp only [Try.ntmps30, List.size_toArray, List.length_cons, List.length_nil, Nat.reduceAdd, Nat.reduceSub, Array.replicate_succ, Array.replicate_zero, List.push_toArray, List.append_toArray, List.nil_append, List.cons_append]
  obtain ⟨W0, hW0⟩ : ∃ W0, W0 = (w.alloc (.cells #[.pointer (some ⟨p, 0, none⟩)] 26)).alloc (.cells #[.int .i64 0] 3) := ⟨_, rfl⟩
  have hb0 : Below w.heap.size w W0 := by rw [hW0]; exact belY (belY (Below.refl _ _) _) _
  have hs0 : W0.heap.size = w.heap.size + 2 := by rw [hW0]; simp
  have hN0 : W0.cell? ⟨w.heap.size, 0, none⟩ = some (.pointer (some ⟨p, 0, none⟩)) := by rw [hW0]; exact ((new_below _ _).cell (p := ⟨w.heap.size, 0, none⟩) (by simp)).trans (rangeY_new w w.heap.size _ _ rfl 0 _ rfl)
  have hN1 : W0.cell? ⟨w.heap.size + 1, 0, none⟩ = some (.int .i64 0) := by rw [hW0]; exact rangeY_new _ _ _ _ (by simp) 0 _ rfl
  have hF1 : W0.frozen? ⟨w.heap.size + 1, 0, none⟩ = false := by rw [hW0]; have := fzY_new (w.alloc (.cells #[.pointer (some ⟨p, 0, none⟩)] 26)) #[.int .i64 0] 3 0; rwa [World.size_alloc] at this
  have H := hide h
  have HW0 := hide hW0
  gi_wp2
  rw [← hW0]
  have HIt : Hid (∀ W, Below W0.heap.size W0 W → ∀ B, W.cell? ⟨B, 0, none⟩ = some (.int .u64 txn) → B < W.heap.size → Calls Try.prog 37 #[.pointer (some ⟨p, 0, none⟩), .func (.func 59) #[] #[.pointer (some ⟨B, 0, none⟩)]] W fun e w' => RisePost W (keysP (fun m => m.it.v.tx != 0 && m.it.v.tx == txn) cs) e w') := by
    intro W hW B hB hBl
    have hS := (h.keep hb0).keep hW
    exact rising_it G base W p mb z cs hS hz _ B (fun W2 m hm hb2 => intentOf1_any base W2 m ((hS.is m hm).keep hb2) _ txn B ((hb2.cell (p := ⟨B, 0, none⟩) hBl).trans hB))
  have HB0 := hide hb0
  have HS0 := hide hs0
  have HF1 := hide hF1
  have HN1 := hide hN1
  have HLv := hide hlv
  clear h hb0 hW0 HW0 hN1 hF1 hs0 hlv
  have hmx : Try.prog.follows .mixedOrders = true := by kernel_rfl
  refine wpIn_calmV ?_
  gi_region_with_o (first
    | (refine ⟨trivial, ?_⟩; gi_at_call 37; refine (callsIn_wide.2 (HIt.out _ HB1.out _ HBx.out HBl.out)).mono ?_; rintro e w2 ⟨Bs, a2, n2, c2, rfl, hBs1, hBs2, hBs3, hsrc, hal, hb2⟩; have HR2 := hide (And.intro hBs1 (And.intro hBs2 (And.intro hBs3 (And.intro hsrc (And.intro hal hb2))))); clear hBs1 hBs2 hBs3 hsrc hal hb2)
    | (refine ⟨trivial, ?_⟩; gi_at_call 43; refine (callsIn_wide.2 (intentOf_any txn _)).mono ?_; rintro e w1 ⟨rfl, hw1⟩; have HB1 : Hid (Below W0.heap.size W0 w1) := (by rw [hw1]; exact (Below.refl _ W0).drew.alloc (Nat.le_refl _) _); have HBx : Hid (w1.cell? ⟨W0.drew.heap.size, 0, none⟩ = some (.int .u64 txn)) := (by rw [hw1]; exact rangeY_new _ _ _ _ rfl 0 _ rfl); have HBl : Hid (W0.drew.heap.size < w1.heap.size) := (by show _ < _; rw [hw1]; simp); have cN0 := (HB1.out.cell (p := ⟨w.heap.size, 0, none⟩) (by show w.heap.size < W0.heap.size; rw [HS0.out]; omega)).trans hN0; clear hw1))
  all_goals
    simp only [calmV]
    gi_wp2
    obtain ⟨hBs1, hBs2, hBs3, hsrc, hal, hb2⟩ := HR2.out
    have hs1 : w.heap.size + 2 ≤ w1.heap.size := by have := HB1.out.size; rw [HS0.out] at this; exact this
    have hs2 : w1.heap.size ≤ w2.heap.size := hb2.size
    have HB02 : Hid (Below W0.heap.size W0 w2) := HB1.out.trans (hb2.mono HB1.out.size)
    have HBw2 : Hid (Below w.heap.size w w2) := HB0.out.trans (HB02.out.mono (by rw [HS0.out]; omega))
    have HS2 : Hid (IsS (Gl G w.heap.size w2.heap.size) base w2 p mb z cs) := H.out.next (Below.keeps HBw2.out _) (fun k hk => hk.imp id (fun h => h.1)) (fun k hk => by rcases hk with hk | hk; (have := H.out.gl k hk; omega); exact hk.2)
    have cN0' := (HB02.out.cell (p := ⟨w.heap.size, 0, none⟩) (by show w.heap.size < W0.heap.size; rw [HS0.out]; omega)).trans hN0
    have cN1' := (HB02.out.cell (p := ⟨w.heap.size + 1, 0, none⟩) (by show w.heap.size + 1 < W0.heap.size; rw [HS0.out]; omega)).trans HN1.out
    have fN1' := (HB02.out.frozen (p := ⟨w.heap.size + 1, 0, none⟩) (by show w.heap.size + 1 < W0.heap.size; rw [HS0.out]; omega)).trans HF1.out
    have hxs := hsrc
    rw [keys_it] at hxs
    have hln : (intentsC (cs.map PC.c) txn).length = n2 := by rw [← hxs.1, List.length_map]
    have hlz : (intentsC (cs.map PC.c) txn).length ≤ z := by
      unfold intentsC
      rw [List.length_map]
      have h1 := List.length_filter_le (isItC txn) (cs.map PC.c)
      rw [List.length_map] at h1
      have := H.out.few
      omega
    have HMl : Hid (∀ k, Mut mb cs k → k < w.heap.size) := fun k hk => H.out.mlt hk
    have HNd := hide (intents_nodup H.out.sort txn)
    have hkey : ∀ c : Cel, (setIt ver0 c).key = c.key := fun _ => rfl
    have HX := hide hxs
    have HAl := hide hal
    have HBs := hide (And.intro hBs1 (And.intro hBs2 hBs3))
    clear HR2 hsrc hxs hal hBs1 hBs2 hBs3 hb2 HIt cN0 hN0
    refine' loopV (a₁ := _) (by omega) Bs n2 c2 a2 ((intentsC (cs.map PC.c) txn).map kb) HX.out.1 (by omega) rfl rfl (fun j W => LpI (Gl G w.heap.size (w2.heap.size + 2)) base w2 p mb z cs w.heap.size (w.heap.size + 1) ((stepL (setIt ver0) (intentsC (cs.map PC.c) txn) j (cs.map PC.c)).filter liveC) (j : Int) W) _ _ _ _ _ _
    case refine'_1 =>
      intro o o'
      have := lp_start (N0 := w.heap.size) HS2.out (by omega) (by omega) cN1' fN1' o o'
      rw [stepL_zero, List.filter_eq_self.2 HLv.out]
      exact this
    case refine'_2 => exact fun j W o h => lp_put h (by omega) (by omega) _ (by omega) (by omega) o
    case refine'_3 =>
      intro j W h
      have hk := h.kp
      have hnX : ∀ k, w.heap.size ≤ k → k ≠ w.heap.size + 1 → ¬ (Mut mb cs k ∨ k = w.heap.size + 1) := fun k h1 h2 h3 => by
        rcases h3 with h3 | h3
        · have := HMl.out k h3; omega
        · exact h2 h3
      obtain ⟨b1, b2, b3⟩ := HBs.out
      refine ⟨(World.cell?_of_block (a := ⟨Bs, 0, none⟩) (hk.block Bs b2 (hnX Bs (by omega) (by omega)))).trans b3, HX.out.1, ?_⟩
      rcases HX.out.2 with h0 | ⟨g, off, ha, hg, hC⟩
      · exact .inl h0
      · have := HAl.out _ ha
        dsimp only at this
        exact .inr ⟨g, off, ha, Nat.lt_of_lt_of_le hg hk.size, hC.same (hk.block g hg (hnX g (by omega) (by omega)))⟩
    case refine'_5 =>
      intro x W K hK
      gi_wp2
      exact hK
    case refine'_6 =>
      intro j x W hx hI hlt
      obtain ⟨k, hk, rfl⟩ := map_get hx
      obtain ⟨⟨cs', hS, he, hM⟩, hkp, c1, f1⟩ := hI
      obtain ⟨c, hc, hck, hci⟩ := intents_get hk
      obtain ⟨i, m, hi, hmc⟩ := lp_cell HNd.out hk hc hck (it_live hci) he
      have hmm := List.mem_of_getElem? hi
      have hmk : m.key = k := by rw [← hck, ← hmc]; rfl
      have hg := hS.go m hmm
      have hlk := hS.map.look hg.key (by have := hg.kl; omega) W rfl
      rw [blkOf_at hS.sort hi, ptrV_of] at hlk
      have hes : encStr (kb k) = .string (strB m.key) := by rw [hmk]; exact strB_kb k
      obtain ⟨x0, x1, x2, x3, x4, x5⟩ := (hS.is m hmm).x
      have hmf := (hS.is m hmm).fz
      have cp := hS.c
      have cN : W.cell? ⟨w.heap.size, 0, none⟩ = some (.pointer (some ⟨p, 0, none⟩)) := (World.cell?_of_block (a := ⟨w.heap.size, 0, none⟩) (hkp.block w.heap.size (by omega) (fun h3 => by
        rcases h3 with h3 | h3
        · have := HMl.out _ h3; omega
        · omega))).trans cN0'
      obtain ⟨cs1, hS1, e1, em1, hk1, hM1⟩ := hS.setIt hi mv0 fitV0 (mv0_foot _ _)
      have hil := (List.getElem?_eq_some_iff.1 hi).1
      have hi1 : cs1[i]? = some { m with it := mv0 } := by rw [e1, List.getElem?_set_self hil]
      have HTd := hide (ptidy_any _ base _ p mb z cs1 hS1 i _ hi1)
      have hmN : m.b < w.heap.size ∨ w2.heap.size ≤ m.b := by
        rcases hM m.b (.inr ⟨m, hmm, .inl rfl⟩) with h3 | h3
        · exact .inl (HMl.out _ h3)
        · exact .inr h3
      have hn1 : ¬ m.b = w.heap.size := by omega
      have hn2 : ¬ w.heap.size = m.b := by omega
      have hn3 : ¬ m.b = p := fun e => hS.pc m hmm (.inl e.symm)
      have hn4 : ¬ p = m.b := fun e => hn3 e.symm
      have hst : (cs1.map PC.c) = modK (setIt ver0) k ((stepL (setIt ver0) (intentsC (cs.map PC.c) txn) j (cs.map PC.c)).filter liveC) := by
        rw [em1, he]
        have hs' : SortC ((stepL (setIt ver0) (intentsC (cs.map PC.c) txn) j (cs.map PC.c)).filter liveC) := by rw [← he]; exact hS.sort
        have hgi : ((stepL (setIt ver0) (intentsC (cs.map PC.c) txn) j (cs.map PC.c)).filter liveC)[i]? = some m.c := by rw [← he, List.getElem?_map, hi]; rfl
        have h7 := modify_modK (setIt ver0) hs' hgi
        have h8 : m.c.key = k := hmk
        rw [h8] at h7
        exact h7
      have hfin : ((if liveC (PC.c { m with it := mv0 }) = true then cs1 else cs1.filter (fun x => decide (x.key ≠ m.key))).map PC.c) = (stepL (setIt ver0) (intentsC (cs.map PC.c) txn) (j + 1) (cs.map PC.c)).filter liveC := by
        rw [← filt_step (setIt ver0) hkey HNd.out hk (cs.map PC.c) HLv.out, ← hst]
        have hgi : (cs1.map PC.c)[i]? = some (PC.c { m with it := mv0 }) := by rw [List.getElem?_map, hi1]; rfl
        have ht := tidy_eq hS1.sort hgi (fun y hy hyk => by
          rw [hst] at hy
          have hyk' : y.key ≠ k := by rw [← hmk]; exact hyk
          exact (List.mem_filter.1 (modK_mem hkey hy hyk')).2)
        rw [← ht]
        split
        · rfl
        · rw [List.filter_map]
          rfl
      have HFin := hide hfin
      have HS := hide hS
      have HM := hide hM
      have HKp := hide hkp
      have HK1 := hide hk1
      have HM1 := hide hM1
      have HC1 := hide c1
      have HFz1 := hide f1
      have hjl : j < n2 := by rw [← hln]; exact (List.getElem?_eq_some_iff.1 hk).1
      simp only [World.setCells, layV, Nat.reduceAdd] at HTd
      have hmv : mv0.v.ts = 0 ∧ mv0.v.tx = 0 := ⟨rfl, rfl⟩
      clear hS he hM hkp c1 f1 hc hck hci hi hmc hmm hg hS1 e1 em1 hk1 hM1 hil hi1 hst hfin hx hk hmk
      rw [hes]
      gi_wp2_with (first
        | (refine ⟨trivial, ?_⟩; gi_at_call 47; refine (CallsIn.inRound _ (callsIn_wide.2 HTd.out)).mono ?_; rintro e W2 ⟨rfl, cs2, hS2, e2, hk2, hM2⟩; obtain ⟨n1, n2', c12, f12⟩ := lp_next (cnt' := (j : Int) + 1) (N0 := w.heap.size) (st2 := (stepL (setIt ver0) (intentsC (cs.map PC.c) txn) (j + 1) (cs.map PC.c)).filter liveC) HKp.out HC1.out HFz1.out HS.out HM.out (by omega) (by omega) (kpThen HK1.out HM1.out hk2) hS2 (by rw [e2]; exact HFin.out) (fun k hk => by rcases hM2 k hk with h3 | h3; exact HM1.out k h3; exact .inr (Nat.le_trans HK1.out.size h3)); have HN1' := hide n1; have HN2' := hide n2'; clear hS2 e2 hk2 hM2 n1 n2'))
      exact ⟨HN2'.out _ (by omega) (by omega) hlt, HN2'.out _ (by omega) (by omega) (by omega), by have h9 := HN1'.out; rw [show ((j + 1 : Nat) : Int) = (j : Int) + 1 by omega]; exact h9⟩
    case refine'_7 =>
      intro W hI hD
      obtain ⟨⟨cs', hS, he, hM⟩, hkp, c1, f1⟩ := hI
      have HD := hide hD
      gi_wp2
      refine ⟨by simp, .inl ⟨_, _, rfl, run_takeDeferred HD.out, ?_⟩⟩
      have hp : Keeps (fun k => k = w2.heap.size) W (W.putObj w2.heap.size (.deferred none)) := ⟨rfl, rfl, rfl, by simp [World.putObj], fun k _ hn => World.putObj_heap_other hn⟩
      refine ⟨_, results_tmp rfl _ _ _, ?_, ?_⟩
      · rw [hln]; rfl
      · refine ⟨cs', ?_, by rw [he, hln], ?_, fun k hk => ?_⟩
        · exact ((hS.next (Keeps.wider hp (fun k e => .inr ⟨by omega, by omega⟩)) (fun k hk => .inl hk) (fun k hk => by have := hS.gl k hk; simpa [World.putObj] using this)).less (fun k hk => .inl hk))
        · exact kpThen (kpThen (Below.keeps HBw2.out _) (fun k hk => by
            rcases hk with hk | hk
            · exact .inl hk
            · exact .inr (by omega)) hkp) (fun k (e : k = w2.heap.size) => .inr (by omega)) hp
        · rcases hM k hk with h3 | h3
          · exact .inl h3
          · exact .inr (by omega)

end Go.Proofs.Ytfldiapdfpkdaaa

namespace Go.Proofs.Ytfldiapdfpkdaaa
open Go.RowKit NumMath
set_option linter.unusedVariables false
set_option maxRecDepth 100000

end Go.Proofs.Ytfldiapdfpkdaaa

namespace Go.Proofs.Ytfldiapdfpkdaaa
open Go.RowKit Go.Shelf NumMath Go.ChangeShapes Go.WideShapes Go.Deep
set_option linter.unusedVariables false
set_option maxRecDepth 100000

attribute [local go_sem] Oper.semAt_some

set_option maxHeartbeats 4000000 in
theorem pGc_any (G : Nat → Prop) (base : Nat) (w : World) (p mb z : Nat) (cs : List PC) (h : IsS G base w p mb z cs) (hz : z ≤ 10000) (hlv : ∀ c ∈ cs.map PC.c, liveC c = true) (ts : Int) :
    Calls Try.prog 21 #[.pointer (some ⟨p, 0, none⟩), .int .u64 ts] w fun e w' => e = .returned (.int .i64 (gcCn ts (cs.map PC.c))) ∧ StPost G base w p mb z cs ((stepL (setVs (gcV ts)) (keysC (cs.map PC.c)) (keysC (cs.map PC.c)).length (cs.map PC.c)).filter liveC) w' := by
  refine (callsIn_wide (n := 6)).1 ?_
  refine callsIn_of_wp_marks Try.func21 rfl trivial ?_ rfl
  simp only [Try.ntmps21, List.size_toArray, List.length_cons, List.length_nil, Nat.reduceAdd, Nat.reduceSub, Array.replicate_succ, Array.replicate_zero, List.push_toArray, List.append_toArray, List.nil_append, List.cons_append]
  obtain ⟨W0, hW0⟩ : ∃ W0, W0 = ((w.alloc (.cells #[.pointer (some ⟨p, 0, none⟩)] 26)).alloc (.cells #[.int .u64 ts] 24)).alloc (.cells #[.int .i64 0] 3) := ⟨_, rfl⟩
  have hb0 : Below w.heap.size w W0 := by rw [hW0]; exact belY (belY (belY (Below.refl _ _) _) _) _
  have hs0 : W0.heap.size = w.heap.size + 3 := by rw [hW0]; simp
  have hN0 : W0.cell? ⟨w.heap.size, 0, none⟩ = some (.pointer (some ⟨p, 0, none⟩)) := by rw [hW0]; exact ((new_below _ _).cell (p := ⟨w.heap.size, 0, none⟩) (by simp; omega)).trans (((new_below _ _).cell (p := ⟨w.heap.size, 0, none⟩) (by simp)).trans (rangeY_new w w.heap.size _ _ rfl 0 _ rfl))
  have hNt : W0.cell? ⟨w.heap.size + 1, 0, none⟩ = some (.int .u64 ts) := by rw [hW0]; exact ((new_below _ _).cell (p := ⟨w.heap.size + 1, 0, none⟩) (by simp)).trans (rangeY_new _ _ _ _ (by simp) 0 _ rfl)
  have hN1 : W0.cell? ⟨w.heap.size + 2, 0, none⟩ = some (.int .i64 0) := by rw [hW0]; exact rangeY_new _ _ _ _ (by simp) 0 _ rfl
  have hF1 : W0.frozen? ⟨w.heap.size + 2, 0, none⟩ = false := by rw [hW0]; have := fzY_new ((w.alloc (.cells #[.pointer (some ⟨p, 0, none⟩)] 26)).alloc (.cells #[.int .u64 ts] 24)) #[.int .i64 0] 3 0; rwa [World.size_alloc, World.size_alloc] at this
  have H := hide h
  have HW0 := hide hW0
  have HRi := hide (rising_any G base W0 p mb z cs (h.keep hb0) (by omega) (fun _ => true) (fun W m _ _ => anyCell_any _ _ W))
  have HB0 := hide hb0
  have HS0 := hide hs0
  have HF1 := hide hF1
  have HN1 := hide hN1
  have HLv := hide hlv
  rw [hW0] at HRi
  clear h hb0 hN1 hF1 hs0 hlv
  gi_wp2_with (first
    | (refine ⟨trivial, ?_⟩; gi_at_call 37; refine (callsIn_wide.2 HRi.out).mono ?_; rintro e w2 ⟨Bs, a2, n2, c2, rfl, hBs1, hBs2, hBs3, hsrc, hal, hb2⟩; rw [← hW0] at hBs1 hal hb2; have HR2 := hide (And.intro hBs1 (And.intro hBs2 (And.intro hBs3 (And.intro hsrc (And.intro hal hb2))))); clear hBs1 hBs2 hBs3 hsrc hal hb2))
  all_goals
    obtain ⟨hBs1, hBs2, hBs3, hsrc, hal, hb2⟩ := HR2.out
    have hs2 : w.heap.size + 3 ≤ w2.heap.size := by have := hb2.size; rw [HS0.out] at this; exact this
    have HB02 : Hid (Below W0.heap.size W0 w2) := hb2
    have HBw2 : Hid (Below w.heap.size w w2) := HB0.out.trans (HB02.out.mono (by rw [HS0.out]; omega))
    have HS2 : Hid (IsS (Gl G w.heap.size w2.heap.size) base w2 p mb z cs) := H.out.next (Below.keeps HBw2.out _) (fun k hk => hk.imp id (fun h => h.1)) (fun k hk => by rcases hk with hk | hk; (have := H.out.gl k hk; omega); exact hk.2)
    have cN0' := (HB02.out.cell (p := ⟨w.heap.size, 0, none⟩) (by show w.heap.size < W0.heap.size; rw [HS0.out]; omega)).trans hN0
    have cNt' := (HB02.out.cell (p := ⟨w.heap.size + 1, 0, none⟩) (by show w.heap.size + 1 < W0.heap.size; rw [HS0.out]; omega)).trans hNt
    have cN1' := (HB02.out.cell (p := ⟨w.heap.size + 2, 0, none⟩) (by show w.heap.size + 2 < W0.heap.size; rw [HS0.out]; omega)).trans HN1.out
    have fN1' := (HB02.out.frozen (p := ⟨w.heap.size + 2, 0, none⟩) (by show w.heap.size + 2 < W0.heap.size; rw [HS0.out]; omega)).trans HF1.out
    have hxs := hsrc
    rw [keys_all] at hxs
    have hln : (keysC (cs.map PC.c)).length = n2 := by rw [← hxs.1, List.length_map]
    have hlz : (keysC (cs.map PC.c)).length ≤ z := by
      unfold keysC
      rw [List.length_map, List.length_map]
      exact H.out.few
    have HMl : Hid (∀ k, Mut mb cs k → k < w.heap.size) := fun k hk => H.out.mlt hk
    have HNd := hide (keys_nodup H.out.sort)
    have hkey : ∀ c : Cel, (setVs (gcV ts) c).key = c.key := fun _ => rfl
    have HX := hide hxs
    have HAl := hide hal
    have HBs := hide (And.intro hBs1 (And.intro hBs2 hBs3))
    clear HR2 hsrc hxs hal hBs1 hBs2 hBs3 hb2 HRi hN0 hNt
    refine' loopV (a₁ := _) (by omega) Bs n2 c2 a2 ((keysC (cs.map PC.c)).map kb) HX.out.1 (by omega) rfl rfl (fun j W => LpI (Gl G w.heap.size (w2.heap.size + 2)) base w2 p mb z cs w.heap.size (w.heap.size + 2) ((stepL (setVs (gcV ts)) (keysC (cs.map PC.c)) j (cs.map PC.c)).filter liveC) (gcCn ts ((cs.map PC.c).take j) : Int) W) _ _ _ _ _ _
    case refine'_1 =>
      intro o o'
      have := lp_start (N0 := w.heap.size) HS2.out (by omega) (by omega) cN1' fN1' o o'
      rw [stepL_zero, List.filter_eq_self.2 HLv.out]
      exact this
    case refine'_2 => exact fun j W o h => lp_put h (by omega) (by omega) _ (by omega) (by omega) o
    case refine'_3 =>
      intro j W h
      have hk := h.kp
      have hnX : ∀ k, w.heap.size ≤ k → k ≠ w.heap.size + 2 → ¬ (Mut mb cs k ∨ k = w.heap.size + 2) := fun k h1 h2 h3 => by
        rcases h3 with h3 | h3
        · have := HMl.out k h3; omega
        · exact h2 h3
      obtain ⟨b1, b2, b3⟩ := HBs.out
      have hs0' := HS0.out
      refine ⟨(World.cell?_of_block (a := ⟨Bs, 0, none⟩) (hk.block Bs b2 (hnX Bs (by omega) (by omega)))).trans b3, HX.out.1, ?_⟩
      rcases HX.out.2 with h0 | ⟨g, off, ha, hg, hC⟩
      · exact .inl h0
      · have := HAl.out _ ha
        dsimp only at this
        exact .inr ⟨g, off, ha, Nat.lt_of_lt_of_le hg hk.size, hC.same (hk.block g hg (hnX g (by omega) (by omega)))⟩
    case refine'_5 =>
      intro x W K hK
      gi_wp2
      exact hK
    case refine'_6 =>
      intro j x W hx hI hlt
      obtain ⟨k, hk, rfl⟩ := map_get hx
      obtain ⟨⟨cs', hS, he, hM⟩, hkp, c1, f1⟩ := hI
      obtain ⟨c, hcj, hck⟩ := keys_get hk
      have hc : c ∈ cs.map PC.c := List.mem_of_getElem? hcj
      obtain ⟨i, m, hi, hmc⟩ := lp_cell HNd.out hk hc hck (HLv.out c hc) he
      have hmm := List.mem_of_getElem? hi
      have hmk : m.key = k := by rw [← hck, ← hmc]; rfl
      have hg := hS.go m hmm
      have hnX : ∀ q, w.heap.size ≤ q → q ≠ w.heap.size + 2 → ¬ (Mut mb cs q ∨ q = w.heap.size + 2) := fun q h1 h2 h3 => by
        rcases h3 with h3 | h3
        · have := HMl.out q h3; omega
        · exact h2 h3
      have hes : encStr (kb k) = .string (strB m.key) := by rw [hmk]; exact strB_kb k
      have cN : W.cell? ⟨w.heap.size, 0, none⟩ = some (.pointer (some ⟨p, 0, none⟩)) := (World.cell?_of_block (a := ⟨w.heap.size, 0, none⟩) (hkp.block w.heap.size (by omega) (hnX _ (by omega) (by omega)))).trans cN0'
      have cT : W.cell? ⟨w.heap.size + 1, 0, none⟩ = some (.int .u64 ts) := (World.cell?_of_block (a := ⟨w.heap.size + 1, 0, none⟩) (hkp.block (w.heap.size + 1) (by omega) (hnX _ (by omega) (by omega)))).trans cNt'
      have HGc := hide (pgc_any base W.drew m ((hS.is m hmm).keep (Below.refl _ W).drew) hS.bs hg.desc (by have := hg.few; omega) ts)
      have HLk : Hid (∀ V : World, V.heap[mb]? = W.heap[mb]? → (Instr.lookup 72 (.map (some mb)) (.string (strB m.key)) false).run Try.prog V = .ok (.pointer (some ⟨m.b, 0, none⟩)) V) := fun V hV => by have := hS.map.look hg.key (by have := hg.kl; omega) V hV; rwa [blkOf_at hS.sort hi, ptrV_of] at this
      have cp := hS.c
      have lk := HLk.out W.drew rfl
      have HNb : Hid (¬ m.blk (w.heap.size + 2)) := fun e => hS.gm _ (.inr ⟨m, hmm, e⟩) (.inr ⟨by omega, by omega⟩)
      have HN0b : Hid (¬ m.blk w.heap.size) := fun e => hS.gm _ (.inr ⟨m, hmm, e⟩) (.inr ⟨by omega, by omega⟩)
      have HMb : Hid (¬ mb = w.heap.size + 2 ∧ ¬ m.blk mb) := ⟨fun e => hS.gm mb (.inl rfl) (.inr ⟨by omega, by omega⟩), hS.mm m hmm⟩
      have hst : ∀ cs1 : List PC, cs1.map PC.c = (cs'.map PC.c).modify i (setVs (gcV ts)) → cs1.map PC.c = modK (setVs (gcV ts)) k ((stepL (setVs (gcV ts)) (keysC (cs.map PC.c)) j (cs.map PC.c)).filter liveC) := by
        intro cs1 em1
        rw [em1, he]
        have hs' : SortC ((stepL (setVs (gcV ts)) (keysC (cs.map PC.c)) j (cs.map PC.c)).filter liveC) := by rw [← he]; exact hS.sort
        have hgi : ((stepL (setVs (gcV ts)) (keysC (cs.map PC.c)) j (cs.map PC.c)).filter liveC)[i]? = some m.c := by rw [← he, List.getElem?_map, hi]; rfl
        have h7 := modify_modK (setVs (gcV ts)) hs' hgi
        have h8 : m.c.key = k := hmk
        rw [h8] at h7
        exact h7
      have HSt := hide hst
      have HS := hide hS
      have HM := hide hM
      have HKp := hide hkp
      have HFz1 := hide f1
      have HI := hide hi
      have hil := (List.getElem?_eq_some_iff.1 hi).1
      obtain ⟨q, hq⟩ : ∃ q, q = gcCn ts ((cs.map PC.c).take j) := ⟨_, rfl⟩
      obtain ⟨r, hr⟩ : ∃ r, r = m.vs.length - gcK ts m.vs := ⟨_, rfl⟩
      have hrn : r = gcN ts c.vs := by rw [hr, gcK_n ts m.vs (desc_map hg.desc), ← hmc]; rfl
      have HCn : Hid (gcCn ts ((cs.map PC.c).take (j + 1)) = q + r) := by show _ = _; rw [gcCn_succ ts j _ c hcj, hq, hrn]
      have hjl : j < n2 := by rw [← hln]; exact (List.getElem?_eq_some_iff.1 hk).1
      have hqb : q ≤ 100000000 := by
        have h5 := gcCn_le ts z (cs.map PC.c) (fun c hc => by obtain ⟨m0, hm0, rfl⟩ := List.mem_map.1 hc; have := (H.out.go m0 hm0).few; simpa [PC.c] using this) j
        rw [← hq] at h5
        have h6 : j * z ≤ 10000 * 10000 := Nat.mul_le_mul (by omega) hz
        omega
      have hrb : r ≤ 10000 := by have := hg.few; omega
      rw [← hr] at HGc
      rw [← hq] at c1
      have hwr : IntKind.i64.wrap ((q : Int) + (r : Int)) = (q : Int) + (r : Int) := by rw [IntKind.wrap_i64]; omega
      have HC1 := hide c1
      have HMk := hide hmk
      have HK := hide hk
      have hn2' : ¬ p = w.heap.size + 2 := fun e => hS.gp (by rw [e]; exact .inr ⟨by omega, by omega⟩)
      have hn2'' : ¬ w.heap.size + 2 = p := fun e => hn2' e.symm
      have HP : Hid (¬ m.blk p) := hS.pc m hmm
      have HNtb : Hid (¬ m.blk (w.heap.size + 1)) := fun e => hS.gm _ (.inr ⟨m, hmm, e⟩) (.inr ⟨by omega, by omega⟩)
      have HV : Hid (∀ V : World, Keeps m.blk W.drew V → V.cell? ⟨w.heap.size, 0, none⟩ = some (.pointer (some ⟨p, 0, none⟩)) ∧ V.cell? ⟨w.heap.size + 1, 0, none⟩ = some (.int .u64 ts) ∧ V.cell? ⟨w.heap.size + 2, 0, none⟩ = some (.int .i64 (q : Int)) ∧ V.cell? ⟨p, 0, none⟩ = some (.map (some mb)) ∧ (Instr.lookup 72 (.map (some mb)) (.string (strB m.key)) false).run Try.prog V = .ok (.pointer (some ⟨m.b, 0, none⟩)) V) := by
        have hml : mb < W.heap.size := hS.mlt (.inl rfl)
        have hpl := hS.lt
        have hwl : w.heap.size + 2 < W.heap.size := by have := hkp.size; omega
        intro V hV
        exact ⟨(World.cell?_of_block (a := ⟨w.heap.size, 0, none⟩) (hV.block w.heap.size (by show w.heap.size < W.heap.size; omega) HN0b.out)).trans cN,
          (World.cell?_of_block (a := ⟨w.heap.size + 1, 0, none⟩) (hV.block (w.heap.size + 1) (by show w.heap.size + 1 < W.heap.size; omega) HNtb.out)).trans cT,
          (World.cell?_of_block (a := ⟨w.heap.size + 2, 0, none⟩) (hV.block (w.heap.size + 2) hwl HNb.out)).trans c1,
          (World.cell?_of_block (a := ⟨p, 0, none⟩) (hV.block p hpl HP.out)).trans cp,
          HLk.out V (hV.block mb hml HMb.out.2)⟩
      have HRf : Hid (Keeps m.blk W.drew W.drew) := Below.keeps (Below.refl _ _) _
      have hpl := hS.lt
      clear hS he hM hkp f1 hc hck hi hmc hmm hg hst hx hk hmk hq hr hrn hcj
      rw [hes]
      gi_wp2
      refine startR (fun V => Keeps m.blk W.drew V) 10 (by kernel_rfl) (by kernel_rfl) ?_
      refine' takeR (E := 10) (i := 0) (v := _) rfl (by kernel_rfl) (by kernel_rfl) (by kernel_rfl) (by kernel_rfl) (by rfl) HRf.out ?_ ?_; rotate_left
      · (intro V hSw; obtain ⟨y0, y1, y2, y3, y4⟩ := HV.out V hSw; go_simp; all_goals (with_reducible rfl))
      (try simp only [Act.put, List.setIfInBounds_toArray, List.set_cons_zero, List.set_cons_succ])
      refine' takeR (E := 10) (i := 1) (v := _) rfl (by kernel_rfl) (by kernel_rfl) (by kernel_rfl) (by kernel_rfl) (by rfl) HRf.out ?_ ?_; rotate_left
      · (intro V hSw; obtain ⟨y0, y1, y2, y3, y4⟩ := HV.out V hSw; go_simp; all_goals (with_reducible rfl))
      (try simp only [Act.put, List.setIfInBounds_toArray, List.set_cons_zero, List.set_cons_succ])
      refine' takeR (E := 10) (i := 2) (v := _) rfl (by kernel_rfl) (by kernel_rfl) (by kernel_rfl) (by kernel_rfl) (by rfl) HRf.out ?_ ?_; rotate_left
      · (intro V hSw; obtain ⟨y0, y1, y2, y3, y4⟩ := HV.out V hSw; go_simp; all_goals (with_reducible rfl))
      (try simp only [Act.put, List.setIfInBounds_toArray, List.set_cons_zero, List.set_cons_succ])
      refine' takeR (E := 10) (i := 3) (v := _) rfl (by kernel_rfl) (by kernel_rfl) (by kernel_rfl) (by kernel_rfl) (by rfl) HRf.out ?_ ?_; rotate_left
      · (intro V hSw; obtain ⟨y0, y1, y2, y3, y4⟩ := HV.out V hSw; go_simp; all_goals (with_reducible rfl))
      (try simp only [Act.put, List.setIfInBounds_toArray, List.set_cons_zero, List.set_cons_succ])
      refine' takeR (E := 10) (i := 4) (v := _) rfl (by kernel_rfl) (by kernel_rfl) (by kernel_rfl) (by kernel_rfl) (by rfl) HRf.out ?_ ?_; rotate_left
      · (intro V hSw; obtain ⟨y0, y1, y2, y3, y4⟩ := HV.out V hSw; go_simp; all_goals (with_reducible rfl))
      (try simp only [Act.put, List.setIfInBounds_toArray, List.set_cons_zero, List.set_cons_succ])
      refine' takeR (E := 10) (i := 5) (v := _) rfl (by kernel_rfl) (by kernel_rfl) (by kernel_rfl) (by kernel_rfl) (by rfl) HRf.out ?_ ?_; rotate_left
      · (intro V hSw; obtain ⟨y0, y1, y2, y3, y4⟩ := HV.out V hSw; go_simp; all_goals (with_reducible rfl))
      (try simp only [Act.put, List.setIfInBounds_toArray, List.set_cons_zero, List.set_cons_succ])
      refine' takeR (E := 10) (i := 6) (v := _) rfl (by kernel_rfl) (by kernel_rfl) (by kernel_rfl) (by kernel_rfl) (by rfl) HRf.out ?_ ?_; rotate_left
      · (intro V hSw; obtain ⟨y0, y1, y2, y3, y4⟩ := HV.out V hSw; go_simp; all_goals (with_reducible rfl))
      (try simp only [Act.put, List.setIfInBounds_toArray, List.set_cons_zero, List.set_cons_succ])
      refine' takeR (E := 10) (i := 7) (v := _) rfl (by kernel_rfl) (by kernel_rfl) (by kernel_rfl) (by kernel_rfl) (by rfl) HRf.out ?_ ?_; rotate_left
      · (intro V hSw; obtain ⟨y0, y1, y2, y3, y4⟩ := HV.out V hSw; go_simp; all_goals (with_reducible rfl))
      (try simp only [Act.put, List.setIfInBounds_toArray, List.set_cons_zero, List.set_cons_succ])
      refine callX (i := 8) rfl (by kernel_rfl) (fun K hK => ?_)
      go_simp
      refine (HGc.out).mono ?_
      rintro e W1 ⟨rfl, vv1, hC1⟩
      have HKv := hide hC1.kp
      refine hK.out _ _ (fun _ => HKv.out) ?_
      clear hK K
      (try simp only [Act.put, List.setIfInBounds_toArray, List.set_cons_zero, List.set_cons_succ])
      have c1' := (World.cell?_of_block (a := ⟨w.heap.size + 2, 0, none⟩) (hC1.kp.block (w.heap.size + 2) (by show w.heap.size + 2 < W.heap.size; omega) HNb.out)).trans HC1.out
      have f1' := (World.frozen?_of_block (a := ⟨w.heap.size + 2, 0, none⟩) (hC1.kp.block (w.heap.size + 2) (by show w.heap.size + 2 < W.heap.size; omega) HNb.out)).trans HFz1.out
      have HC1' := hide hC1
      clear hC1
      refine callX (i := 9) rfl (by kernel_rfl) (fun K hK => ?_)
      go_simp
      refine hK.out _ _ (fun _ => HKv.out) ?_
      clear hK K
      (try simp only [Act.put, List.setIfInBounds_toArray, List.set_cons_zero, List.set_cons_succ])
      refine callX (i := 10) rfl (by kernel_rfl) (fun K hK => ?_)
      go_simp
      refine hK.out _ _ (fun h => absurd rfl h) ?_
      clear hK K
      (try simp only [Act.put, List.setIfInBounds_toArray, List.set_cons_zero, List.set_cons_succ])
      refine doneX (by kernel_rfl) ?_ _
      have : True := trivial
      all_goals
        simp only [calmV]
        obtain ⟨cs1, hS1, e1, em1, hk1, hM1⟩ := (HS.out.keep (Below.refl _ W).drew).gc HI.out ts HC1'.out
        have hk1' : Keeps (Mut mb cs') W W1 := kpThen (Below.keeps (Below.refl _ W).drew _) (fun k hk => .inl hk) hk1
        have hi1 : cs1[i]? = some { m with vv := vv1, vs := m.vs.take (gcK ts m.vs) } := by rw [e1, List.getElem?_set_self hil]
        obtain ⟨n1, n2', c12, f12⟩ := lp_next (cnt' := (q : Int) + (r : Int)) (N0 := w.heap.size) HKp.out HC1.out HFz1.out HS.out HM.out (by omega) (by omega) hk1' hS1 rfl hM1
        have hsetN := keepsY_cell (w := W1) (g := w.heap.size + 2) (i := 0) (.int .i64 ((q : Int) + (r : Int)))
        have hS1' : IsS (Gl G w.heap.size (w2.heap.size + 2)) base (W1.setCell ⟨w.heap.size + 2, 0, none⟩ (.int .i64 ((q : Int) + (r : Int)))) p mb z cs1 := hS1.next (Keeps.wider hsetN (fun k e => by rw [e]; exact .inr ⟨by omega, by omega⟩)) (fun k hk => .inl hk) (fun k hk => by have := hS1.gl k hk; simpa [World.setCell] using this)
        have HTd := hide (ptidy_any _ base _ p mb z cs1 hS1' i _ hi1)
        have cNw : (W1.setCell ⟨w.heap.size + 2, 0, none⟩ (.int .i64 ((q : Int) + (r : Int)))).cell? ⟨w.heap.size, 0, none⟩ = some (.pointer (some ⟨p, 0, none⟩)) := (World.cell?_of_block (a := ⟨w.heap.size, 0, none⟩) (hsetN.block w.heap.size (by have := hk1'.size; omega) (by omega))).trans ((World.cell?_of_block (a := ⟨w.heap.size, 0, none⟩) (HC1'.out.kp.block w.heap.size (by show w.heap.size < W.heap.size; omega) HN0b.out)).trans cN)
        have hfin : ((if liveC (PC.c { m with vv := vv1, vs := m.vs.take (gcK ts m.vs) }) = true then cs1 else cs1.filter (fun x => decide (x.key ≠ m.key))).map PC.c) = (stepL (setVs (gcV ts)) (keysC (cs.map PC.c)) (j + 1) (cs.map PC.c)).filter liveC := by
          have hst1 := HSt.out cs1 em1
          rw [← filt_step (setVs (gcV ts)) hkey HNd.out HK.out (cs.map PC.c) HLv.out, ← hst1]
          have hgi : (cs1.map PC.c)[i]? = some (PC.c { m with vv := vv1, vs := m.vs.take (gcK ts m.vs) }) := by rw [List.getElem?_map, hi1]; rfl
          have ht := tidy_eq hS1.sort hgi (fun y hy hyk => by
            rw [hst1] at hy
            have hyk' : y.key ≠ k := by rw [← HMk.out]; exact hyk
            exact (List.mem_filter.1 (modK_mem hkey hy hyk')).2)
          rw [← ht]
          split
          · rfl
          · rw [List.filter_map]
            rfl
        have HN1' := hide n1
        have HN2' := hide n2'
        have HS1' := hide hS1'
        have HFin := hide hfin
        have HM1 := hide (fun k hk => show Mut mb cs k ∨ w2.heap.size ≤ k from by
          rcases hM1 k hk with h3 | h3
          · exact HM.out k h3
          · right; have := HKp.out.size; have : W.drew.heap.size = W.heap.size := rfl; omega)
        have hszN : W.heap.size ≤ (W1.setCell ⟨w.heap.size + 2, 0, none⟩ (.int .i64 ((q : Int) + (r : Int)))).heap.size := by have := hk1'.size; simpa [World.setCell] using this
        clear hS1 e1 em1 hk1 hM1 hi1 n1 n2' hS1' hfin hsetN
        gi_wp2_with (first
          | (refine ⟨trivial, ?_⟩; gi_at_call 47; refine (CallsIn.inRound _ (callsIn_wide.2 HTd.out)).mono ?_; rintro e W2 ⟨rfl, cs2, hS2, e2, hk2, hM2⟩; obtain ⟨p1, p2⟩ := lp_keep (N0 := w.heap.size) (st2 := (stepL (setVs (gcV ts)) (keysC (cs.map PC.c)) (j + 1) (cs.map PC.c)).filter liveC) HN1'.out.kp HN1'.out.c1 HN1'.out.f1 HS1'.out HM1.out (by omega) (by omega) hk2 hS2 (by rw [e2]; exact HFin.out) hM2; have HP1 := hide p1; have HP2 := hide p2; clear hS2 e2 hk2 hM2 p1 p2))
        refine ⟨(HP2.out _ (by omega) (by omega) (by omega)).trans (HN2'.out _ (by omega) (by omega) hlt), (HP2.out _ (by omega) (by omega) (by omega)).trans (HN2'.out _ (by omega) (by omega) (by omega)), ?_⟩
        have h9 := HP1.out
        rw [show ((gcCn ts ((cs.map PC.c).take (j + 1)) : Nat) : Int) = (q : Int) + (r : Int) by rw [HCn.out]; omega]
        exact h9
    case refine'_7 =>
      intro W hI hD
      have c1 := hI.c1
      have HI := hide hI
      have HD := hide hD
      clear hI hD
      gi_wp2
      refine ⟨by simp, .inl ⟨_, _, rfl, run_takeDeferred HD.out, ?_⟩⟩
      refine ⟨_, results_tmp rfl _ _ _, ?_, ?_⟩
      · have e1 : (cs.map PC.c).take n2 = cs.map PC.c := List.take_of_length_le (by rw [← hln]; unfold keysC; simp)
        rw [e1]; rfl
      · rw [hln]; exact lp_done HI.out HBw2.out rfl (by omega)

end Go.Proofs.Ytfldiapdfpkdaaa
