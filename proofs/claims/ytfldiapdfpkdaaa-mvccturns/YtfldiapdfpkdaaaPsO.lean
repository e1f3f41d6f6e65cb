/- The program's store: Turn. -/
import Derived.Test.YtfldiapdfpkdaaaPsL
namespace Go.Proofs.Ytfldiapdfpkdaaa
open Go.RowKit Go.Shelf NumMath Go.ChangeShapes Go.WideShapes Go.Deep
set_option linter.unusedVariables false
set_option maxRecDepth 100000

attribute [local go_sem] Oper.semAt_some

theorem IsS.putz {G : Nat → Prop} {base : Nat} {w w' : World} {p mb z : Nat} {cs : List PC} (h : IsS G base w p mb z cs) {i : Nat} {m : PC} (hi : cs[i]? = some m) (mv : MV) (hf : FitV mv.v) (hd : Foot (MutG G mb cs) w (fun w => mv.at w)) (hfew : m.vs.length < z) {vv : Value} (hc : CPost base w m { m with vv := vv, vs := putP tsM mv m.vs } w') :
    StPost G base w p mb z cs ((cs.map PC.c).modify i (setVs (putP Ver.ts mv.v))) w' := by
  have hm := List.mem_of_getElem? hi
  have hg := h.go m hm
  obtain ⟨r1, r2, r3⟩ := h.turn hi (m' := { m with vv := vv, vs := putP tsM mv m.vs }) rfl rfl hc ⟨putP_mem tsM mv m.vs (fun v => Foot (MutG G mb cs) w (fun w => v.at w)) hd (h.dat m hm).1, (h.dat m hm).2⟩ (Nat.le_refl z) ⟨hg.key, hg.kl, put_desc tsM mv m.vs hg.desc, putP_mem tsM mv m.vs (fun v => FitV v.v) hf hg.fit, hg.fiti, (by have := putP_len1 tsM mv m.vs hg.desc; show (putP tsM mv m.vs).length ≤ _; omega)⟩
  exact ⟨_, r1, set_map_c hi rfl (by unfold setVs PC.c; dsimp only; rw [putP_map MV.v tsM Ver.ts (fun _ => rfl)]), r2, r3⟩

theorem turn_live (ts : Int) (c : Cel) : liveC (turnC1 ts c) = true := by
  unfold liveC turnC1
  rw [putP_eq]
  simp

theorem turn_all (ts : Int) (k : List Int) {st : List Cel} (h : ∀ c ∈ st, liveC c = true) : (modK (turnC1 ts) k st).filter liveC = modK (turnC1 ts) k st := by
  refine List.filter_eq_self.2 (fun y hy => ?_)
  unfold modK at hy
  obtain ⟨c, hc, rfl⟩ := List.mem_map.1 hy
  split
  · exact turn_live ts c
  · exact h c hc

/-- an intent made a version, in one of the cells -/
theorem turn_two (ts : Int) {l l1 l2 : List Cel} {i : Nat} {c : Cel} (hi : l[i]? = some c) (h1 : l1 = l.modify i (setIt ver0)) (h2 : l2 = l1.modify i (setVs (putP Ver.ts { c.it with ts := ts }))) : l2 = l.modify i (turnC1 ts) := by
  have hil := (List.getElem?_eq_some_iff.1 hi).1
  rw [modify_at _ l i c hi] at h1 ⊢
  have h3 : l1[i]? = some (setIt ver0 c) := by rw [h1, List.getElem?_set_self hil]
  rw [modify_at _ l1 i _ h3, h1, List.set_set] at h2
  rw [h2]
  rfl

set_option maxHeartbeats 4000000 in
theorem pTurn_any (G : Nat → Prop) (base : Nat) (w : World) (p mb z : Nat) (cs : List PC) (h : IsS G base w p mb z cs) (hz : z ≤ 10000) (hlv : ∀ c ∈ cs.map PC.c, liveC c = true) (txn ts : Int) (hts : 0 ≤ ts ∧ ts < 18446744073709551616) :
    Calls Try.prog 22 #[.pointer (some ⟨p, 0, none⟩), .int .u64 txn, .int .u64 ts] w fun e w' => e = .returned (.int .i64 (intentsC (cs.map PC.c) txn).length) ∧ StPost G base w p mb (z + 1) cs ((stepL (turnC1 ts) (intentsC (cs.map PC.c) txn) (intentsC (cs.map PC.c) txn).length (cs.map PC.c)).filter liveC) w' := by
  refine (callsIn_wide (n := 6)).1 ?_
  refine callsIn_of_wp_marks Try.func22 rfl trivial ?_ rfl
  simp only [Try.ntmps22, List.size_toArray, List.length_cons, List.length_nil, Nat.reduceAdd, Nat.reduceSub, Array.replicate_succ, Array.replicate_zero, List.push_toArray, List.append_toArray, List.nil_append, List.cons_append]
  obtain ⟨W0, hW0⟩ : ∃ W0, W0 = ((w.alloc (.cells #[.pointer (some ⟨p, 0, none⟩)] 26)).alloc (.cells #[.int .u64 ts] 24)).alloc (.cells #[.int .i64 0] 3) := ⟨_, rfl⟩
  have hb0 : Below w.heap.size w W0 := by rw [hW0]; exact belY (belY (belY (Below.refl _ _) _) _) _
  have hs0 : W0.heap.size = w.heap.size + 3 := by rw [hW0]; simp
  have hN0 : W0.cell? ⟨w.heap.size, 0, none⟩ = some (.pointer (some ⟨p, 0, none⟩)) := by rw [hW0]; exact ((new_below _ _).cell (p := ⟨w.heap.size, 0, none⟩) (by simp; omega)).trans (((new_below _ _).cell (p := ⟨w.heap.size, 0, none⟩) (by simp)).trans (rangeY_new w w.heap.size _ _ rfl 0 _ rfl))
  have hNt : W0.cell? ⟨w.heap.size + 1, 0, none⟩ = some (.int .u64 ts) := by rw [hW0]; exact ((new_below _ _).cell (p := ⟨w.heap.size + 1, 0, none⟩) (by simp)).trans (rangeY_new _ _ _ _ (by simp) 0 _ rfl)
  have hN1 : W0.cell? ⟨w.heap.size + 2, 0, none⟩ = some (.int .i64 0) := by rw [hW0]; exact rangeY_new _ _ _ _ (by simp) 0 _ rfl
  have hF1 : W0.frozen? ⟨w.heap.size + 2, 0, none⟩ = false := by rw [hW0]; have := fzY_new ((w.alloc (.cells #[.pointer (some ⟨p, 0, none⟩)] 26)).alloc (.cells #[.int .u64 ts] 24)) #[.int .i64 0] 3 0; rwa [World.size_alloc, World.size_alloc] at this
  have H := hide h
  have HW0 := hide hW0
  gi_wp2
  rw [← hW0]
  have HIt : Hid (∀ W, Below W0.heap.size W0 W → ∀ B, W.cell? ⟨B, 0, none⟩ = some (.int .u64 txn) → B < W.heap.size → Calls Try.prog 37 #[.pointer (some ⟨p, 0, none⟩), .func (.func 59) #[] #[.pointer (some ⟨B, 0, none⟩)]] W fun e w' => RisePost W (keysP (fun m => m.it.v.tx != 0 && m.it.v.tx == txn) cs) e w') := by
    intro W hW B hB hBl
    have hS := (h.keep hb0).keep hW
    exact rising_it G base W p mb z cs hS (by omega) _ B (fun W2 m hm hb2 => intentOf1_any base W2 m ((hS.is m hm).keep hb2) _ txn B ((hb2.cell (p := ⟨B, 0, none⟩) hBl).trans hB))
  have HB0 := hide hb0
  have HS0 := hide hs0
  have HF1 := hide hF1
  have HN1 := hide hN1
  have HLv := hide hlv
  clear h hb0 hW0 HW0 hN1 hF1 hs0 hlv
  have hmx : Try.prog.follows .mixedOrders = true := by kernel_rfl
  refine wpIn_calmV ?_
  gi_region_with_o (first
    | (refine ⟨trivial, ?_⟩; gi_at_call 37; refine (callsIn_wide.2 (HIt.out _ HB1.out _ HBx.out HBl.out)).mono ?_; rintro e w2 ⟨Bs, a2, n2, c2, rfl, hBs1, hBs2, hBs3, hsrc, hal, hb2⟩; have HR2 := hide (And.intro hBs1 (And.intro hBs2 (And.intro hBs3 (And.intro hsrc (And.intro hal hb2))))); clear hBs1 hBs2 hBs3 hsrc hal hb2)
    | (refine ⟨trivial, ?_⟩; gi_at_call 43; refine (callsIn_wide.2 (intentOf_any txn _)).mono ?_; rintro e w1 ⟨rfl, hw1⟩; have HB1 : Hid (Below W0.heap.size W0 w1) := (by rw [hw1]; exact (Below.refl _ W0).drew.alloc (Nat.le_refl _) _); have HBx : Hid (w1.cell? ⟨W0.drew.heap.size, 0, none⟩ = some (.int .u64 txn)) := (by rw [hw1]; exact rangeY_new _ _ _ _ rfl 0 _ rfl); have HBl : Hid (W0.drew.heap.size < w1.heap.size) := (by show _ < _; rw [hw1]; simp); have cN0 := (HB1.out.cell (p := ⟨w.heap.size, 0, none⟩) (by show w.heap.size < W0.heap.size; rw [HS0.out]; omega)).trans hN0; clear hw1))
  all_goals
    simp only [calmV]
    gi_wp2
    obtain ⟨hBs1, hBs2, hBs3, hsrc, hal, hb2⟩ := HR2.out
    have hs1 : w.heap.size + 3 ≤ w1.heap.size := by have := HB1.out.size; rw [HS0.out] at this; exact this
    have hs2 : w1.heap.size ≤ w2.heap.size := hb2.size
    have HB02 : Hid (Below W0.heap.size W0 w2) := HB1.out.trans (hb2.mono HB1.out.size)
    have HBw2 : Hid (Below w.heap.size w w2) := HB0.out.trans (HB02.out.mono (by rw [HS0.out]; omega))
    have HS2 : Hid (IsS (Gl G w.heap.size w2.heap.size) base w2 p mb z cs) := H.out.next (Below.keeps HBw2.out _) (fun k hk => hk.imp id (fun h => h.1)) (fun k hk => by rcases hk with hk | hk; (have := H.out.gl k hk; omega); exact hk.2)
    have cN0' := (HB02.out.cell (p := ⟨w.heap.size, 0, none⟩) (by show w.heap.size < W0.heap.size; rw [HS0.out]; omega)).trans hN0
    have cNt' := (HB02.out.cell (p := ⟨w.heap.size + 1, 0, none⟩) (by show w.heap.size + 1 < W0.heap.size; rw [HS0.out]; omega)).trans hNt
    have cN1' := (HB02.out.cell (p := ⟨w.heap.size + 2, 0, none⟩) (by show w.heap.size + 2 < W0.heap.size; rw [HS0.out]; omega)).trans HN1.out
    have fN1' := (HB02.out.frozen (p := ⟨w.heap.size + 2, 0, none⟩) (by show w.heap.size + 2 < W0.heap.size; rw [HS0.out]; omega)).trans HF1.out
    have hxs := hsrc
    rw [keys_it] at hxs
    have hln : (intentsC (cs.map PC.c) txn).length = n2 := by rw [← hxs.1, List.length_map]
    have hlz : (intentsC (cs.map PC.c) txn).length ≤ z := by
      unfold intentsC
      rw [List.length_map]
      have h1 := List.length_filter_le (isItC txn) (cs.map PC.c)
      rw [List.length_map] at h1
      have := H.out.few
      omega
    have HMl : Hid (∀ k, Mut mb cs k → k < w.heap.size) := fun k hk => H.out.mlt hk
    have HNd := hide (intents_nodup H.out.sort txn)
    have hkey : ∀ c : Cel, (setIt ver0 c).key = c.key := fun _ => rfl
    have HX := hide hxs
    have HAl := hide hal
    have HBs := hide (And.intro hBs1 (And.intro hBs2 hBs3))
    clear HR2 hsrc hxs hal hBs1 hBs2 hBs3 hb2 HIt cN0 hN0 hNt
    refine' loopV (a₁ := _) (by omega) Bs n2 c2 a2 ((intentsC (cs.map PC.c) txn).map kb) HX.out.1 (by omega) rfl rfl (fun j W => LpI (Gl G w.heap.size (w2.heap.size + 2)) base w2 p mb (z + 1) cs w.heap.size (w.heap.size + 2) ((stepL (turnC1 ts) (intentsC (cs.map PC.c) txn) j (cs.map PC.c)).filter liveC) (j : Int) W) _ _ _ _ _ _
    case refine'_1 =>
      intro o o'
      have := lp_start (N0 := w.heap.size) (HS2.out.more (Nat.le_succ z)) (by omega) (by omega) cN1' fN1' o o'
      rw [stepL_zero, List.filter_eq_self.2 HLv.out]
      exact this
    case refine'_2 => exact fun j W o h => lp_put h (by omega) (by omega) _ (by omega) (by omega) o
    case refine'_3 =>
      intro j W h
      have hk := h.kp
      have hnX : ∀ k, w.heap.size ≤ k → k ≠ w.heap.size + 2 → ¬ (Mut mb cs k ∨ k = w.heap.size + 2) := fun k h1 h2 h3 => by
        rcases h3 with h3 | h3
        · have := HMl.out k h3; omega
        · exact h2 h3
      obtain ⟨b1, b2, b3⟩ := HBs.out
      refine ⟨(World.cell?_of_block (a := ⟨Bs, 0, none⟩) (hk.block Bs b2 (hnX Bs (by omega) (by omega)))).trans b3, HX.out.1, ?_⟩
      rcases HX.out.2 with h0 | ⟨g, off, ha, hg, hC⟩
      · exact .inl h0
      · have := HAl.out _ ha
        dsimp only at this
        exact .inr ⟨g, off, ha, Nat.lt_of_lt_of_le hg hk.size, hC.same (hk.block g hg (hnX g (by omega) (by omega)))⟩
    case refine'_5 =>
      intro x W K hK
      gi_wp2
      exact hK
    case refine'_6 =>
      intro j x W hx hI hlt
      obtain ⟨k, hk, rfl⟩ := map_get hx
      obtain ⟨⟨cs', hS, he, hM⟩, hkp, c1, f1⟩ := hI
      obtain ⟨c, hc, hck, hci⟩ := intents_get hk
      obtain ⟨i, m, hi, hmc⟩ := lp_cell HNd.out hk hc hck (it_live hci) he
      have hmm := List.mem_of_getElem? hi
      have hmk : m.key = k := by rw [← hck, ← hmc]; rfl
      have hg := hS.go m hmm
      have hlk := hS.map.look hg.key (by have := hg.kl; omega) W rfl
      rw [blkOf_at hS.sort hi, ptrV_of] at hlk
      have hes : encStr (kb k) = .string (strB m.key) := by rw [hmk]; exact strB_kb k
      obtain ⟨x0, x1, x2, x3, x4, x5⟩ := (hS.is m hmm).x
      have hmf := (hS.is m hmm).fz
      have cp := hS.c
      have cN : W.cell? ⟨w.heap.size, 0, none⟩ = some (.pointer (some ⟨p, 0, none⟩)) := (World.cell?_of_block (a := ⟨w.heap.size, 0, none⟩) (hkp.block w.heap.size (by omega) (fun h3 => by
        rcases h3 with h3 | h3
        · have := HMl.out _ h3; omega
        · omega))).trans cN0'
      have cT : W.cell? ⟨w.heap.size + 1, 0, none⟩ = some (.int .u64 ts) := (World.cell?_of_block (a := ⟨w.heap.size + 1, 0, none⟩) (hkp.block (w.heap.size + 1) (by omega) (fun h3 => by
        rcases h3 with h3 | h3
        · have := HMl.out _ h3; omega
        · omega))).trans cNt'
      have hmN : m.b < w.heap.size ∨ w2.heap.size ≤ m.b := by
        rcases hM m.b (.inr ⟨m, hmm, .inl rfl⟩) with h3 | h3
        · exact .inl (HMl.out _ h3)
        · exact .inr h3
      have hWl : w2.heap.size ≤ W.heap.size := hkp.size
      have hmlt : m.b < W.heap.size := (hS.is m hmm).lt
      have hn1 : ¬ m.b = w.heap.size := by omega
      have hn2 : ¬ w.heap.size = m.b := by omega
      have hn5 : ¬ m.b = W.heap.size := by omega
      have hn6 : ¬ W.heap.size = m.b := by omega
      have hn7 : ¬ w.heap.size + 1 = W.heap.size := by omega
      have hn8 : ¬ W.heap.size = w.heap.size + 1 := by omega
      have cTa : ∀ o, (W.alloc o).cell? ⟨w.heap.size + 1, 0, none⟩ = some (.int .u64 ts) := fun o => ((new_below W o).cell (p := ⟨w.heap.size + 1, 0, none⟩) (by show w.heap.size + 1 < W.heap.size; omega)).trans cT
      have x1a := fun o => (((hS.is m hmm).keep (new_below W o)).x).2.1
      have x2a := fun o => (((hS.is m hmm).keep (new_below W o)).x).2.2.1
      have x3a := fun o => (((hS.is m hmm).keep (new_below W o)).x).2.2.2.1
      have x4a := fun o => (((hS.is m hmm).keep (new_below W o)).x).2.2.2.2.1
      have x5a := fun o => (((hS.is m hmm).keep (new_below W o)).x).2.2.2.2.2
      have hmfa := fun o => ((hS.is m hmm).keep (new_below W o)).fz
      have hn3 : ¬ m.b = p := fun e => hS.pc m hmm (.inl e.symm)
      have hn4 : ¬ p = m.b := fun e => hn3 e.symm
      have hfew : m.vs.length ≤ z := by
        obtain ⟨m0, hm0, e0⟩ := List.mem_map.1 hc
        have h1 := (H.out.go m0 hm0).few
        have h2 : (m.c).vs.length = (m0.c).vs.length := by rw [hmc, e0]
        simp only [PC.c, List.length_map] at h2
        omega
      obtain ⟨cs1, hS1, e1, em1, hk1, hM1⟩ := hS.setIt hi mv0 fitV0 (mv0_foot _ _)
      have hil := (List.getElem?_eq_some_iff.1 hi).1
      have hi1 : cs1[i]? = some { m with it := mv0 } := by rw [e1, List.getElem?_set_self hil]
      obtain ⟨mv, hmv⟩ : ∃ mv : MV, mv = { m.it with v := { m.it.v with ts := ts } } := ⟨_, rfl⟩
      obtain ⟨O, hO⟩ : ∃ O, O = Obj.cells #[.int .u64 mv.v.ts, .int .u64 mv.v.tx, .bool mv.v.dd, .slice mv.va mv.vn mv.vc, .slice mv.ka mv.kn mv.kc] 36 := ⟨_, rfl⟩
      obtain ⟨Wv, hWv⟩ : ∃ Wv, Wv = (W.setCells m.b 1 (layV.cells mv0)).alloc O := ⟨_, rfl⟩
      have hbv : Below (W.setCells m.b 1 (layV.cells mv0)).heap.size (W.setCells m.b 1 (layV.cells mv0)) Wv := by rw [hWv]; exact new_below _ _
      have hSv := hS1.keep hbv
      have hkv : Keeps (Mut mb cs') W Wv := kpThen hk1 hM1 (Below.keeps hbv (Mut mb cs1))
      have hft : Foot (MutG (Gl G w.heap.size (w2.heap.size + 2)) mb cs1) Wv (fun w => mv.at w) := by
        rw [hmv]
        refine Foot.imp (Foot.step (hS.dat m hmm).2 (Keeps.wider hkv (fun k hk => .inl hk)) (fun k hk => ?_)) (fun w' h => h)
        rcases hk with hk | hk
        · exact (hM1 k hk).imp .inl id
        · exact .inl (.inr hk)
      have hfit : FitV mv.v := by rw [hmv]; exact hg.fiti
      have HPt := hide (pput_any base Wv { m with it := mv0 } (hSv.is _ (List.mem_of_getElem? hi1)) hSv.bs hg.desc (by show m.vs.length ≤ _; omega) mv)
      have HAf : Hid (∀ (vv1 : Value) (W2 : World), CPost base Wv { m with it := mv0 } { { m with it := mv0 } with vv := vv1, vs := putP tsM mv m.vs } W2 → ∃ cs2, IsS (Gl G w.heap.size (w2.heap.size + 2)) base W2 p mb (z + 1) cs2 ∧ cs2.map PC.c = (stepL (turnC1 ts) (intentsC (cs.map PC.c) txn) (j + 1) (cs.map PC.c)).filter liveC ∧ Keeps (Mut mb cs') W W2 ∧ ∀ k, Mut mb cs2 k → Mut mb cs' k ∨ W.heap.size ≤ k) := by
        intro vv1 W2 hC
        obtain ⟨cs2, q1, q2, q3, q4⟩ := hSv.putz hi1 mv hfit hft (by show m.vs.length < _; omega) hC
        refine ⟨cs2, q1, ?_, kpThen hkv hM1 q3, fun k hk => ?_⟩
        · have hgi : (cs'.map PC.c)[i]? = some m.c := by rw [List.getElem?_map, hi]; rfl
          have e3 : mv.v = { m.c.it with ts := ts } := by rw [hmv]; rfl
          rw [e3] at q2
          have e4 := turn_two ts hgi em1 q2
          have hs' : SortC (cs'.map PC.c) := hS.sort
          have h7 := modify_modK (turnC1 ts) hs' hgi
          have h8 : m.c.key = k := hmk
          rw [h8] at h7
          rw [e4, h7, he, ← filt_step (turnC1 ts) hkey HNd.out hk (cs.map PC.c) HLv.out]
          exact (turn_all ts k (fun c hc => (List.mem_filter.1 hc).2)).symm
        · rcases q4 k hk with h3 | h3
          · exact hM1 k h3
          · exact .inr (Nat.le_trans hkv.size h3)
      rw [hWv, hO, hmv] at HPt
      rw [hWv, hO, hmv] at HAf
      simp only [World.setCells, layV, Nat.reduceAdd] at HPt HAf
      have hmv0 : mv0.v.ts = 0 ∧ mv0.v.tx = 0 := ⟨rfl, rfl⟩
      have hjl : j < n2 := by rw [← hln]; exact (List.getElem?_eq_some_iff.1 hk).1
      have HS := hide hS
      have HM := hide hM
      have HKp := hide hkp
      have HC1 := hide c1
      have HFz1 := hide f1
      clear hS he hM hkp c1 f1 hc hck hci hi hmc hmm hg hx hk hmk hfew hS1 e1 em1 hk1 hM1 hil hi1 hbv hSv hkv hft hfit hmv hO hWv
      rw [hes]
      gi_wp2_with (first
        | (refine ⟨trivial, ?_⟩; gi_at_call 48; refine (CallsIn.inRound _ (callsIn_wide.2 HPt.out)).mono ?_; rintro e W2 ⟨rfl, vv1, hC1⟩; obtain ⟨cs2, hS2, e2, hk2, hM2⟩ := HAf.out vv1 W2 hC1; obtain ⟨n1, n2', c12, f12⟩ := lp_next (cnt' := (j : Int) + 1) (N0 := w.heap.size) (st2 := (stepL (turnC1 ts) (intentsC (cs.map PC.c) txn) (j + 1) (cs.map PC.c)).filter liveC) HKp.out HC1.out HFz1.out HS.out HM.out (by omega) (by omega) hk2 hS2 e2 hM2; have HN1' := hide n1; have HN2' := hide n2'; clear hS2 e2 hk2 hM2 hC1 n1 n2'))
      exact ⟨HN2'.out _ (by omega) (by omega) hlt, HN2'.out _ (by omega) (by omega) (by omega), by have h9 := HN1'.out; rw [show ((j + 1 : Nat) : Int) = (j : Int) + 1 by omega]; exact h9⟩
    case refine'_7 =>
      intro W hI hD
      obtain ⟨⟨cs', hS, he, hM⟩, hkp, c1, f1⟩ := hI
      have HD := hide hD
      gi_wp2
      refine ⟨by simp, .inl ⟨_, _, rfl, run_takeDeferred HD.out, ?_⟩⟩
      have hp : Keeps (fun k => k = w2.heap.size) W (W.putObj w2.heap.size (.deferred none)) := ⟨rfl, rfl, rfl, by simp [World.putObj], fun k _ hn => World.putObj_heap_other hn⟩
      refine ⟨_, results_tmp rfl _ _ _, ?_, ?_⟩
      · rw [hln]; rfl
      · refine ⟨cs', ?_, by rw [he, hln], ?_, fun k hk => ?_⟩
        · exact ((hS.next (Keeps.wider hp (fun k e => .inr ⟨by omega, by omega⟩)) (fun k hk => .inl hk) (fun k hk => by have := hS.gl k hk; simpa [World.putObj] using this)).less (fun k hk => .inl hk))
        · exact kpThen (kpThen (Below.keeps HBw2.out _) (fun k hk => by
            rcases hk with hk | hk
            · exact .inl hk
            · exact .inr (by omega)) hkp) (fun k (e : k = w2.heap.size) => .inr (by omega)) hp
        · rcases hM k hk with h3 | h3
          · exact .inl h3
          · exact .inr (by omega)

end Go.Proofs.Ytfldiapdfpkdaaa
