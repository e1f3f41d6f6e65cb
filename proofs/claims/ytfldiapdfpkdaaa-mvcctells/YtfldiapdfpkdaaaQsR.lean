/- The law MvccTells. -/
import Derived.Test.YtfldiapdfpkdaaaQsQ
namespace Go.Proofs.Ytfldiapdfpkdaaa
open Go.RowKit Go.Shelf NumMath Go.ChangeShapes Go.WideShapes Go.Deep
set_option linter.unusedVariables false
set_option maxRecDepth 100000

attribute [local go_sem] Oper.semAt_some

theorem res_cellT {tmps : Array Value} {N : Nat} {b : Bool} {W : World} (hp : tmps.getD 10 undef = .pointer (some ⟨N, 0, none⟩)) (c : W.cell? ⟨N, 0, none⟩ = some (.bool b)) : (results Try.f4 tmps).run Try.prog W = .ok (.bool b) W := by
  have hp' : tmps[10]?.getD undef = .pointer (some ⟨N, 0, none⟩) := by simpa using hp
  simp [results, Try.results4, hp', go_sem, c]

/-- bytes do not lie where a loop's record lies -/
theorem out_loop {W : World} {s : Option Addr} {n c l : Nat} {xs : List Int} (h : IsBytes W s n c xs) (hl : ∃ r, W.heap[l]? = some (.loop r)) : Out (fun k => k = l) s n := by
  obtain ⟨h1, h2, h3, h4, h5⟩ := h
  rcases h5 with h5 | ⟨g, off, rfl, hg, hB⟩
  · exact .inl h5
  · by_cases hn : n = 0
    · exact .inl hn
    · refine .inr (fun y hy e => ?_)
      cases hy
      obtain ⟨r, hr⟩ := hl
      have e : g = l := e
      subst e
      have := hB 0 (by omega)
      unfold World.cell? at this
      simp [hr] at this

/-- a range over an iterator of bytes -/
theorem loopK {g : Operand} {ps : Array Tmp} {assign body : Code} {Q : Exit → Act → World → Prop} {a : Act} {w : World} {n : Nat} {k : Nat} {gf : Nat} {lb : Array Value} {xs : List (List Int)} {R : World → Prop}
    (hseq : SeqI k gf lb (fun k v W => ∃ s n c, v = #[.slice s n c] ∧ IsBytes W s n c k) xs R) (hk : k + 1 ≤ n) (hg : a.eval g = .func (.func gf) #[] lb) (eg : ∀ args w, (callFunc gf args).run Try.prog w = .ok (.enter gf args) w) (hps : ps.size = 1)
    (J : Nat → World → Prop) (Jx : World → Prop) (hJ : ∀ j W W', J j W → Below w.heap.size W W' → J j W') (hJx : ∀ W W', Jx W → Below w.heap.size W W' → Jx W') (hR : ∀ j W, J j W → R W) (h0 : J 0 w) (a₁ : Value → Act)
    (hasg : ∀ y W (K : Act → World → Prop), K (a₁ y) W → assign.wpIn (Fence.wide.inRound (w.heap.size + 1)) (n - 1 - 1) Try.prog (Exit.then K (fun _ _ _ => False)) { tmps := (ps.zip #[y]).foldl (fun t (p, v) => t.setIfInBounds p v) a.tmps, defers := [] } W)
    (hbody : ∀ j x s m c W, xs[j]? = some x → J j W → IsBytes W s m c x → w.heap.size + 1 < W.heap.size → body.wpIn (Fence.wide.inRound (w.heap.size + 1)) (n - 1 - 1) Try.prog (leftI w.heap.size W (J (j + 1)) Jx) (a₁ (.slice s m c)) W)
    (hdone : ∀ W, J xs.length W → W.heap[w.heap.size]? = some (.deferred (some [])) → w.heap.size < W.heap.size → Q .normal { a with defers := { target := .collected w.heap.size, args := #[] } :: a.defers } W)
    (hstop : ∀ W, Jx W → W.heap[w.heap.size]? = some (.deferred (some [])) → w.heap.size < W.heap.size → Code.ret.wpIn Fence.wide n Try.prog Q { a with defers := { target := .collected w.heap.size, args := #[] } :: a.defers } W) :
    (Code.rangeFunc g ps assign body).wpIn Fence.wide n Try.prog Q a w :=
  loopI hseq hk hg eg (fun x v W h => by obtain ⟨s, n, c, rfl, -⟩ := h; rw [hps]; rfl) J Jx hJ hJx hR h0 (fun x a' W' => ∃ s m c, a' = a₁ (.slice s m c) ∧ IsBytes W' s m c x ∧ Out (fun k => k = w.heap.size + 1) s m)
    (fun x a' W o h => by
      obtain ⟨s, m, c, h1, h2, h3⟩ := h
      exact ⟨s, m, c, h1, ((foot_bytes h2 h3).step (kp_put W (w.heap.size + 1) o) (fun k hk => .inl hk)).now, h3⟩)
    (fun j x v W K hx hj hv hl hlt hK => by
      obtain ⟨s, m, c, rfl, hB⟩ := hv
      exact hasg _ W _ (hK _ _ (Below.refl _ _) ⟨s, m, c, rfl, hB, out_loop hB hl⟩))
    (fun j x a' W hx hj ha hl => by
      obtain ⟨s, m, c, rfl, hB, -⟩ := ha
      exact hbody j x s m c W hx hj hB hl) hdone hstop

set_option maxHeartbeats 4000000 in
theorem mtells_any (a0 : Option Addr) (len0 cap0 : Nat) (x0 : List MD) (a1 : Option Addr) (len1 cap1 : Nat) (x1 : List Int) (a2 a3 a4 : Int) (w : World) (w0 : IsDeeds12 w a0 len0 cap0 x0) (w1 : IsBytes w a1 len1 cap1 x1) :
    Calls Try.prog 4 #[.slice a0 len0 cap0, .slice a1 len1 cap1, .int .u64 a2, .int .u64 a3, .int .i64 a4] w fun e w' => e = .returned (.bool true) ∧ Below w.heap.size w w' := by
  refine (callsIn_wide (n := 12)).1 ?_
  refine callsIn_of_wp_marks Try.func4 rfl trivial ?_ rfl
  simp only [Try.ntmps4, List.size_toArray, List.length_cons, List.length_nil, Nat.reduceAdd, Nat.reduceSub, Array.replicate_succ, Array.replicate_zero, List.push_toArray, List.append_toArray, List.nil_append, List.cons_append]
  obtain ⟨W0, hW0⟩ : ∃ W0, W0 = (w.alloc (.cells #[.int .i64 a4] 3)).alloc (.cells #[.bool false] 4) := ⟨_, rfl⟩
  have hb0 : Below w.heap.size w W0 := by rw [hW0]; exact ((Below.refl _ w).alloc (Nat.le_refl _) _).alloc (by simp) _
  have hs0 : W0.heap.size = w.heap.size + 2 := by rw [hW0]; simp
  have hN0 : W0.cell? ⟨w.heap.size, 0, none⟩ = some (.int .i64 a4) := by rw [hW0]; exact ((new_below _ _).cell (p := ⟨w.heap.size, 0, none⟩) (by simp)).trans (rangeY_new w w.heap.size _ _ rfl 0 _ rfl)
  have hN1 : W0.cell? ⟨w.heap.size + 1, 0, none⟩ = some (.bool false) := by rw [hW0]; exact rangeY_new _ _ _ _ (by simp) 0 _ rfl
  have hF1 : W0.frozen? ⟨w.heap.size + 1, 0, none⟩ = false := by rw [hW0]; have := fzY_new (w.alloc (.cells #[.int .i64 a4] 3)) #[.bool false] 4 0; rwa [World.size_alloc] at this
  have hm1 : (len1 : Int) ≤ 9223372036854775807 := by have := w1.2.1; have := w1.2.2.1; unfold maxLen at this; omega
  have HW0 := hide (w0.keep hb0)
  have HW1 := hide (w1.keep hb0)
  have HB0 := hide hb0
  have HS0 := hide hs0
  have HN := hide (And.intro hN0 (And.intro hN1 hF1))
  clear w0 w1 hb0 hN0 hN1 hF1
  gi_wp2_with fail
  rw [← hW0]
  clear hW0
  have HBx : Hid (∀ V, Below W0.heap.size W0 V → V.cell? ⟨w.heap.size, 0, none⟩ = some (.int .i64 a4) ∧ V.cell? ⟨w.heap.size + 1, 0, none⟩ = some (.bool false) ∧ V.frozen? ⟨w.heap.size + 1, 0, none⟩ = false) := fun V hV => ⟨(hV.cell (p := ⟨w.heap.size, 0, none⟩) (by show w.heap.size < W0.heap.size; omega)).trans HN.out.1, (hV.cell (p := ⟨w.heap.size + 1, 0, none⟩) (by show w.heap.size + 1 < W0.heap.size; omega)).trans HN.out.2.1, (hV.frozen (p := ⟨w.heap.size + 1, 0, none⟩) (by show w.heap.size + 1 < W0.heap.size; omega)).trans HN.out.2.2⟩
  have HEnd : Hid (∀ V : World, Below W0.heap.size W0 V → Below w.heap.size w (V.setCell ⟨w.heap.size + 1, 0, none⟩ (.bool true)) ∧ (V.setCell ⟨w.heap.size + 1, 0, none⟩ (.bool true)).cell? ⟨w.heap.size + 1, 0, none⟩ = some (.bool true)) := by
    intro V hV
    obtain ⟨-, c1, -⟩ := HBx.out V hV
    refine ⟨(HB0.out.trans (hV.mono (by omega))).trans ((keepsY_cell (w := V) (g := w.heap.size + 1) (i := 0) (.bool true)).below (by have := hV.size; omega) (fun k (e : k = w.heap.size + 1) => by omega)), World.cell?_setCell_same' _ _ _ (by rw [c1]; rfl)⟩
  by_cases g1 : (50 : Int) < (len1 : Int)
  · gi_wp2_with (first
      | (refine ⟨trivial, ?_⟩; gi_at_call 8; refine (callsIn_wide.2 (awake12_any _)).mono ?_; rintro e wa ⟨rfl, hba⟩; have HB1 := hide hba; obtain ⟨b0, b1, b2⟩ := HBx.out wa hba; clear hba))
    obtain ⟨k1, k2⟩ := HEnd.out wa HB1.out
    exact ⟨_, res_cellT rfl k2, rfl, k1⟩
  by_cases g2 : a4 < 0
  · gi_wp2_with (first
      | (refine ⟨trivial, ?_⟩; gi_at_call 8; refine (callsIn_wide.2 (awake12_any _)).mono ?_; rintro e wa ⟨rfl, hba⟩; have HB1 := hide hba; obtain ⟨b0, b1, b2⟩ := HBx.out wa hba; clear hba))
    obtain ⟨k1, k2⟩ := HEnd.out wa HB1.out
    exact ⟨_, res_cellT rfl k2, rfl, k1⟩
  have hl1 : len1 ≤ 50 := by omega
  cases hgr : greatD x0 with
  | true =>
    have HGr := hide hgr
    clear hgr
    gi_wp2_with (first
      | (refine ⟨trivial, ?_⟩; gi_at_call 9; refine (callsIn_wide.2 (both_any a0 len0 cap0 x0 _ (HW0.out.keep HB1.out))).mono ?_; rintro e wb ⟨p, mb, q, j, rfl, -, hbb⟩; rw [HGr.out]; have HB3 := hide (HB1.out.trans (hbb.mono HB1.out.size)); obtain ⟨d0, d1, d2⟩ := HBx.out wb HB3.out; clear hbb)
      | (refine ⟨trivial, ?_⟩; gi_at_call 8; refine (callsIn_wide.2 (awake12_any _)).mono ?_; rintro e wa ⟨rfl, hba⟩; have HB1 := hide hba; obtain ⟨b0, b1, b2⟩ := HBx.out wa hba; clear hba))
    obtain ⟨k1, k2⟩ := HEnd.out wb HB3.out
    exact ⟨_, res_cellT rfl k2, rfl, k1⟩
  | false =>
    have HGr := hide hgr
    clear hgr
    gi_wp2_with (first
      | (refine ⟨trivial, ?_⟩; gi_at_call 20; refine (callsIn_wide.2 (twoKeysP HT13.out)).mono ?_; rintro e wK ⟨Bk, Bs, ka, kn, kc, rfl, hkl, hkn, hka, hkr, hbK⟩; have HBK := hide hbK; have HKA := hide hka; have HKR := hide hkr; have HKl := hide hkl; clear hbK hka hkr hkl)
      | (refine ⟨trivial, ?_⟩; gi_at_call 19; refine (callsIn_wide.2 (twoKeysX HT10.out)).mono ?_; rintro e w12 ⟨wa_, wn, wc, rfl, hwt, hb12⟩; have HWt := hide hwt; have HB12 := hide (HB10.out.trans (hb12.mono HB10.out.size)); have HT12 := hide (HT10.out.keep hb12); have HNb := hide (((Below.refl _ w12).alloc (Nat.le_refl _) (.cells #[.slice wa_ wn wc] 34)).alloc (by simp) (.cells #[.int .i64 0] 3)); have HT13 := hide (HT12.out.keep HNb.out); clear hwt hb12)
      | (refine ⟨trivial, ?_⟩; gi_at_call 16; refine (callsIn_wide.2 (sameT_self ia in_ ic (intentsC st a3) ja jn jc _ HI9.out HJ9.out)).mono ?_; rintro e w10 ⟨rfl, hb10⟩; have HB10 := hide (HB9.out.trans (hb10.mono HB9.out.size)); have HT10 := hide (HT9.out.keep hb10); clear hb10)
      | (refine ⟨trivial, ?_⟩; gi_at_call 18; refine (callsIn_wide.2 (twoIntsX HT8.out a3)).mono ?_; rintro e w9 ⟨ja, jn, jc, rfl, hj9, hb9⟩; have HB9 := hide (HB8.out.trans (hb9.mono HB8.out.size)); have HT9 := hide (HT8.out.keep hb9); have HI9 := hide (HI8.out.keep hb9); have HJ9 := hide hj9; clear hb9 hj9)
      | (refine ⟨trivial, ?_⟩; gi_at_call 17; refine (callsIn_wide.2 (twoIntsP HT7.out a3)).mono ?_; rintro e w8 ⟨ia, in_, ic, rfl, hi8, hb8⟩; have HB8 := hide (HB7.out.trans (hb8.mono HB7.out.size)); have HT8 := hide (HT7.out.keep hb8); have HI8 := hide hi8; clear hb8 hi8)
      | (refine ⟨trivial, ?_⟩; gi_at_call 15; refine (callsIn_wide.2 (sameV_any m1 m2 _ HM1.out HM2.out HEq.out)).mono ?_; rintro e w7 ⟨rfl, hb7⟩; have HB7 := hide (HB6.out.trans (hb7.mono HB6.out.size)); have HT7 := hide (HT6.out.keep hb7); clear hb7)
      | (refine ⟨trivial, ?_⟩; gi_at_call 14; refine (callsIn_wide.2 (twoAtX HT5.out a1 len1 cap1 x1 (HW1.out.keep HB5.out) a2)).mono ?_; rintro e w6 ⟨m2, rfl, hm2, hma2, hb6⟩; have hnb6 := new_below w6 (.cells #[.int .u64 m2.v.ts, .int .u64 m2.v.tx, .bool m2.v.dd, .slice m2.va m2.vn m2.vc, .slice m2.ka m2.kn m2.kc] 36); have HEq : Hid (m1.v = m2.v) := (HE1.out.trans hm2.symm); have HB6 := hide ((HB5.out.trans (hb6.mono HB5.out.size)).trans (hnb6.mono (Nat.le_trans HB5.out.size hb6.size))); have HT6 := hide ((HT5.out.keep hb6).keep hnb6); have HM1 := hide ((HM5.out.keep hb6).keep hnb6); have HM2 := hide (hma2.keep hnb6); obtain ⟨e0, e1, e2, e3, e4⟩ := ((HX5.out.keep hb6).keep hnb6).x; obtain ⟨f0, f1, f2, f3, f4⟩ := (bxV_new w6 m2 _ rfl).x; rw [hzz]; clear hm2 hma2 hb6 hnb6)
      | (refine ⟨trivial, ?_⟩; gi_at_call 13; refine (callsIn_wide.2 (twoAtP HT3.out a1 len1 cap1 x1 (HW1.out.keep HB3.out) (by omega) a2)).mono ?_; rintro e w5 ⟨m1, rfl, hm1', hma1, hb5⟩; have hnb5 := new_below w5 (.cells #[.int .u64 m1.v.ts, .int .u64 m1.v.tx, .bool m1.v.dd, .slice m1.va m1.vn m1.vc, .slice m1.ka m1.kn m1.kc] 36); have HE1 := hide hm1'; have HB5 := hide ((HB3.out.trans (hb5.mono HB3.out.size)).trans (hnb5.mono (Nat.le_trans HB3.out.size hb5.size))); have HT5 := hide ((HT3.out.keep hb5).keep hnb5); have HM5 := hide (hma1.keep hnb5); have HX5 := hide (bxV_new w5 m1 _ rfl); obtain ⟨zz, hzz⟩ : ∃ zz, (atC st x1 a2).isSome = zz := ⟨_, rfl⟩; rw [hzz]; clear hm1' hma1 hb5 hnb5)
      | (refine ⟨trivial, ?_⟩; gi_at_call 9; refine (callsIn_wide.2 (both_any a0 len0 cap0 x0 _ (HW0.out.keep HB1.out))).mono ?_; rintro e wb ⟨p, mb, q, j, rfl, hst, hbb⟩; rw [HGr.out]; obtain ⟨hj, hst⟩ := hst HGr.out; obtain ⟨st, hsol⟩ := hst.two hj; have HT3 := hide hsol; have HB3 := hide (HB1.out.trans (hbb.mono HB1.out.size)); clear hbb hst hsol)
      | (refine ⟨trivial, ?_⟩; gi_at_call 8; refine (callsIn_wide.2 (awake12_any _)).mono ?_; rintro e wa ⟨rfl, hba⟩; have HB1 := hide hba; obtain ⟨b0, b1, b2⟩ := HBx.out wa hba; clear hba))
    have hbK := HBK.out
    have hs13 : w12.heap.size + 2 ≤ wK.heap.size := by have := hbK.size; simpa using this
    have hb1K : Below w12.heap.size w12 wK := HNb.out.trans (hbK.mono HNb.out.size)
    have hK3 : wK.cell? ⟨w12.heap.size, 0, none⟩ = some (.slice wa_ wn wc) := (hbK.cell (p := ⟨w12.heap.size, 0, none⟩) (by simp; omega)).trans (((new_below _ _).cell (p := ⟨w12.heap.size, 0, none⟩) (by simp)).trans (rangeY_new w12 w12.heap.size _ _ rfl 0 _ rfl))
    have hK4 : wK.cell? ⟨w12.heap.size + 1, 0, none⟩ = some (.int .i64 0) := (hbK.cell (p := ⟨w12.heap.size + 1, 0, none⟩) (by simp)).trans (rangeY_new _ _ _ _ (by simp) 0 _ rfl)
    have hF4 : wK.frozen? ⟨w12.heap.size + 1, 0, none⟩ = false := (hbK.frozen (p := ⟨w12.heap.size + 1, 0, none⟩) (by simp)).trans (by simp)
    have hs12 : w.heap.size + 2 ≤ w12.heap.size := by have := HB12.out.size; omega
    have hka := HKA.out
    simp only [World.size_alloc] at hka
    obtain ⟨KS, hKS⟩ : ∃ KS, KS = keysC (st.filter liveC) := ⟨_, rfl⟩
    rw [← hKS] at hka
    have HWt' := hide HWt.out
    rw [← hKS] at HWt'
    have hwl : KS.length = wn := HWt'.out.1
    have hkl : KS.length = kn := by rw [hKS]; exact HKl.out
    have hkr : ∀ k ∈ KS, (∀ c ∈ k, 0 ≤ c ∧ c < 256) ∧ k.length ≤ 100000 := by rw [hKS]; exact HKR.out
    have hBV : ∀ V, Keeps (fun k => k = w.heap.size + 1 ∨ k = w12.heap.size + 1) wK V → Below w.heap.size w V := fun V hV => (HB0.out.trans ((HB12.out.trans (hb1K.mono HB12.out.size)).mono (by omega))).trans (hV.below (by omega) (fun k hk => by omega))
    have HBV := hide hBV
    have HB1K := hide hb1K
    have HKA' := hide hka
    have HF4 := hide hF4
    have HK3 := hide hK3
    have HK4 := hide hK4
    clear HKA HKR HKl HWt hKS hBV hka hF4 hK3 hK4 hb1K hbK
    refine' loopK (a₁ := _) (keysI Bk Bs kn kc ka KS hkl (by omega) hkr) (by omega) rfl (fun args w => rfl) rfl
      (fun j V => Keeps (fun k => k = w12.heap.size + 1) wK V ∧ V.cell? ⟨w12.heap.size + 1, 0, none⟩ = some (.int .i64 (j : Nat)) ∧ V.frozen? ⟨w12.heap.size + 1, 0, none⟩ = false)
      (fun V => Keeps (fun k => k = w.heap.size + 1 ∨ k = w12.heap.size + 1) wK V ∧ V.cell? ⟨w.heap.size + 1, 0, none⟩ = some (.bool true)) _ _ _ _ _ _ _ _
    case refine'_1 =>
      rintro j V V' ⟨h1, h2, h3⟩ hb
      exact ⟨kp_then h1 (X' := fun k => wK.heap.size ≤ k) (fun k hk _ => by omega) (kp_bel hb h1.size), (hb.cell (p := ⟨w12.heap.size + 1, 0, none⟩) (by show w12.heap.size + 1 < wK.heap.size; omega)).trans h2, (hb.frozen (p := ⟨w12.heap.size + 1, 0, none⟩) (by show w12.heap.size + 1 < wK.heap.size; omega)).trans h3⟩
    case refine'_2 =>
      rintro V V' ⟨h1, h2⟩ hb
      exact ⟨kp_then h1 (X' := fun k => wK.heap.size ≤ k) (fun k hk _ => by omega) (kp_bel hb h1.size), (hb.cell (p := ⟨w.heap.size + 1, 0, none⟩) (by show w.heap.size + 1 < wK.heap.size; omega)).trans h2⟩
    case refine'_3 =>
      rintro j V ⟨h1, -, -⟩
      have := HKA'.out.same h1.size (fun k hk1 hk2 => h1.block k hk2 (by omega))
      exact ⟨this.k, this.s, this.t⟩
    case refine'_4 => exact ⟨Below.keeps (Below.refl _ _) _, HK4.out, HF4.out⟩
    case refine'_6 =>
      intro y V K hK
      gi_wp2
      exact hK
    case refine'_7 =>
      rintro j k sa sm sc V hx ⟨hkp, c4, f4⟩ hB hlt
      have hjl : j < wn := by rw [← hwl]; exact (List.getElem?_eq_some_iff.1 hx).1
      have hsV := hkp.size
      have hb12V : Below w12.heap.size w12 V := HB1K.out.trans (hkp.below (by omega) (fun k (e : k = w12.heap.size + 1) => by omega))
      obtain ⟨b0', b1', b2'⟩ := HBx.out V (HB12.out.trans (hb12V.mono HB12.out.size))
      have c3 : V.cell? ⟨w12.heap.size, 0, none⟩ = some (.slice wa_ wn wc) := (World.cell?_of_block (a := ⟨w12.heap.size, 0, none⟩) (hkp.block w12.heap.size (by omega) (by omega))).trans HK3.out
      obtain ⟨t1, t2, t3, t4⟩ := HWt'.out.keep hb12V
      rcases t4 with t4 | ⟨g, off, rfl, hg, hT⟩
      · omega
      obtain ⟨tb, tn, tc, ct, hBt⟩ := hT j (by omega)
      have hkg : KS.getD j [] = k := by simp [List.getD, hx]
      rw [hkg] at hBt
      have HKp := hide hkp
      by_cases hja : (j : Int) = a4
      · have hja' : ((j : Int) == a4) = true := by simp [hja]
        clear hja
        gi_wp2
        refine ⟨(keepsY_cell (w := V) (g := w.heap.size + 1) (i := 0) (.bool true)).wider (fun k e => by omega), kpThen (HKp.out.wider (fun k e => .inr e)) (fun k e => .inl (.inl e)) (keepsY_cell _), World.cell?_setCell_same' _ _ _ (by rw [b1']; rfl)⟩
      · have hja' : ((j : Int) == a4) = false := by simp [hja]
        clear hja
        have HRf : Hid (Below V.drew.heap.size V.drew V.drew) := Below.refl _ _
        have HV : Hid (∀ V', Below V.drew.heap.size V.drew V' → V'.cell? ⟨w12.heap.size + 1, 0, none⟩ = some (.int .i64 (j : Nat)) ∧ V'.cell? ⟨w12.heap.size, 0, none⟩ = some (.slice (some ⟨g, off, none⟩) wn wc) ∧ V'.cell? ⟨g, off + j, none⟩ = some (.slice tb tn tc) ∧ (convert 23 9 (.slice sa sm sc)).run Try.prog V' = .ok (.string (strB k)) V' ∧ (convert 23 9 (.slice tb tn tc)).run Try.prog V' = .ok (.string (strB k)) V') := by
          intro V' hV'
          have hV2 : Below V.heap.size V V' := (Below.refl _ V).drew.trans hV'
          exact ⟨(hV2.cell (p := ⟨w12.heap.size + 1, 0, none⟩) (by show w12.heap.size + 1 < V.heap.size; omega)).trans c4, (hV2.cell (p := ⟨w12.heap.size, 0, none⟩) (by show w12.heap.size < V.heap.size; omega)).trans c3, (hV2.cell (p := ⟨g, off + j, none⟩) hg).trans ct, (hB.keep hV2).conv, (hBt.keep hV2).conv⟩
        have hge : ((wn : Int) ≤ (j : Int)) = False := by simp; omega
        have hge2 : (wn ≤ j) = False := by simp; omega
        have hjl' : (j : Int) < (wn : Int) := by omega
        have HF := hide f4
        have HC4 := hide c4
        clear f4 hB hBt ct hT c3 hx
        gi_wp2
        clear c4
        refine startR (fun V' => Below V.drew.heap.size V.drew V') 99 (by kernel_rfl) (by kernel_rfl) ?_
        refine' takeR (E := 99) (i := 0) (v := _) rfl (by kernel_rfl) (by kernel_rfl) (by kernel_rfl) (by kernel_rfl) (by rfl) HRf.out ?_ ?_; rotate_left
        · (intro V' hSw; obtain ⟨y0, y1, y2, y3, y4⟩ := HV.out V' hSw; go_simp; all_goals (with_reducible rfl))
        (try simp only [Act.put, List.setIfInBounds_toArray, List.set_cons_zero, List.set_cons_succ])
        refine' takeR (E := 99) (i := 1) (v := _) rfl (by kernel_rfl) (by kernel_rfl) (by kernel_rfl) (by kernel_rfl) (by rfl) HRf.out ?_ ?_; rotate_left
        · (intro V' hSw; obtain ⟨y0, y1, y2, y3, y4⟩ := HV.out V' hSw; go_simp; all_goals (with_reducible rfl))
        (try simp only [Act.put, List.setIfInBounds_toArray, List.set_cons_zero, List.set_cons_succ])
        refine' takeR (E := 99) (i := 2) (v := _) rfl (by kernel_rfl) (by kernel_rfl) (by kernel_rfl) (by kernel_rfl) (by rfl) HRf.out ?_ ?_; rotate_left
        · (intro V' hSw; obtain ⟨y0, y1, y2, y3, y4⟩ := HV.out V' hSw; go_simp; all_goals (with_reducible rfl))
        (try simp only [Act.put, List.setIfInBounds_toArray, List.set_cons_zero, List.set_cons_succ])
        refine' takeR (E := 99) (i := 3) (v := _) rfl (by kernel_rfl) (by kernel_rfl) (by kernel_rfl) (by kernel_rfl) (by rfl) HRf.out ?_ ?_; rotate_left
        · (intro V' hSw; obtain ⟨y0, y1, y2, y3, y4⟩ := HV.out V' hSw; go_simp; all_goals (with_reducible rfl))
        (try simp only [Act.put, List.setIfInBounds_toArray, List.set_cons_zero, List.set_cons_succ])
        refine' takeR (E := 99) (i := 4) (v := _) rfl (by kernel_rfl) (by kernel_rfl) (by kernel_rfl) (by kernel_rfl) (by rfl) HRf.out ?_ ?_; rotate_left
        · (intro V' hSw; obtain ⟨y0, y1, y2, y3, y4⟩ := HV.out V' hSw; go_simp; all_goals (with_reducible rfl))
        (try simp only [Act.put, List.setIfInBounds_toArray, List.set_cons_zero, List.set_cons_succ])
        refine' takeR (E := 99) (i := 5) (v := _) rfl (by kernel_rfl) (by kernel_rfl) (by kernel_rfl) (by kernel_rfl) (by rfl) HRf.out ?_ ?_; rotate_left
        · (intro V' hSw; obtain ⟨y0, y1, y2, y3, y4⟩ := HV.out V' hSw; go_simp; all_goals (with_reducible rfl))
        (try simp only [Act.put, List.setIfInBounds_toArray, List.set_cons_zero, List.set_cons_succ])
        refine' takeR (E := 99) (i := 6) (v := _) rfl (by kernel_rfl) (by kernel_rfl) (by kernel_rfl) (by kernel_rfl) (by rfl) HRf.out ?_ ?_; rotate_left
        · (intro V' hSw; obtain ⟨y0, y1, y2, y3, y4⟩ := HV.out V' hSw; go_simp; all_goals (with_reducible rfl))
        (try simp only [Act.put, List.setIfInBounds_toArray, List.set_cons_zero, List.set_cons_succ])
        refine' takeR (E := 99) (i := 7) (v := _) rfl (by kernel_rfl) (by kernel_rfl) (by kernel_rfl) (by kernel_rfl) (by rfl) HRf.out ?_ ?_; rotate_left
        · (intro V' hSw; obtain ⟨y0, y1, y2, y3, y4⟩ := HV.out V' hSw; go_simp; all_goals (with_reducible rfl))
        (try simp only [Act.put, List.setIfInBounds_toArray, List.set_cons_zero, List.set_cons_succ])
        refine' takeR (E := 99) (i := 8) (v := _) rfl (by kernel_rfl) (by kernel_rfl) (by kernel_rfl) (by kernel_rfl) (by rfl) HRf.out ?_ ?_; rotate_left
        · (intro V' hSw; obtain ⟨y0, y1, y2, y3, y4⟩ := HV.out V' hSw; go_simp; all_goals (with_reducible rfl))
        (try simp only [Act.put, List.setIfInBounds_toArray, List.set_cons_zero, List.set_cons_succ])
        refine' takeR (E := 99) (i := 9) (v := _) rfl (by kernel_rfl) (by kernel_rfl) (by kernel_rfl) (by kernel_rfl) (by rfl) HRf.out ?_ ?_; rotate_left
        · (intro V' hSw; obtain ⟨y0, y1, y2, y3, y4⟩ := HV.out V' hSw; go_simp; all_goals (with_reducible rfl))
        (try simp only [Act.put, List.setIfInBounds_toArray, List.set_cons_zero, List.set_cons_succ])
        refine' takeR (E := 99) (i := 10) (v := _) rfl (by kernel_rfl) (by kernel_rfl) (by kernel_rfl) (by kernel_rfl) (by rfl) HRf.out ?_ ?_; rotate_left
        · (intro V' hSw; obtain ⟨y0, y1, y2, y3, y4⟩ := HV.out V' hSw; go_simp; all_goals (with_reducible rfl))
        (try simp only [Act.put, List.setIfInBounds_toArray, List.set_cons_zero, List.set_cons_succ])
        refine' takeR (E := 99) (i := 11) (v := _) rfl (by kernel_rfl) (by kernel_rfl) (by kernel_rfl) (by kernel_rfl) (by rfl) HRf.out ?_ ?_; rotate_left
        · (intro V' hSw; obtain ⟨y0, y1, y2, y3, y4⟩ := HV.out V' hSw; go_simp; all_goals (with_reducible rfl))
        (try simp only [Act.put, List.setIfInBounds_toArray, List.set_cons_zero, List.set_cons_succ])
        refine' takeR (E := 99) (i := 12) (v := _) rfl (by kernel_rfl) (by kernel_rfl) (by kernel_rfl) (by kernel_rfl) (by rfl) HRf.out ?_ ?_; rotate_left
        · (intro V' hSw; obtain ⟨y0, y1, y2, y3, y4⟩ := HV.out V' hSw; go_simp; all_goals (with_reducible rfl))
        (try simp only [Act.put, List.setIfInBounds_toArray, List.set_cons_zero, List.set_cons_succ])
        refine' takeR (E := 99) (i := 13) (v := _) rfl (by kernel_rfl) (by kernel_rfl) (by kernel_rfl) (by kernel_rfl) (by rfl) HRf.out ?_ ?_; rotate_left
        · (intro V' hSw; obtain ⟨y0, y1, y2, y3, y4⟩ := HV.out V' hSw; go_simp; all_goals (with_reducible rfl))
        (try simp only [Act.put, List.setIfInBounds_toArray, List.set_cons_zero, List.set_cons_succ])
        refine doneX (by kernel_rfl) ?_ _
        simp only [calmV]
        have c4 : V.drew.cell? ⟨w12.heap.size + 1, 0, none⟩ = some (.int .i64 (j : Nat)) := HC4.out
        have f4 : V.drew.frozen? ⟨w12.heap.size + 1, 0, none⟩ = false := HF.out
        gi_wp2
        have hset := keepsY_cell (w := V.drew) (g := w12.heap.size + 1) (i := 0) (.int .i64 ((j : Int) + 1))
        refine ⟨kpThen (Below.keeps (Below.refl _ V).drew _) (fun k e => .inl (by omega)) hset, kpThen (kpThen HKp.out (fun k e => .inl e) (Below.keeps (Below.refl _ V).drew _)) (fun k e => .inl e) hset, ?_, ?_⟩
        · rw [show ((j + 1 : Nat) : Int) = (j : Int) + 1 by omega]
          exact World.cell?_setCell_same' V _ _ (by rw [HC4.out]; rfl)
        · show (V.setCell _ _).frozen? _ = false
          rw [World.frozen?_setCell]
          exact HF.out
    case refine'_8 =>
      rintro V ⟨hkp, c4, f4⟩ hD hlt
      rw [hwl] at c4
      have hsV := hkp.size
      have hb12V : Below w12.heap.size w12 V := HB1K.out.trans (hkp.below (by omega) (fun k (e : k = w12.heap.size + 1) => by omega))
      obtain ⟨b0', b1', b2'⟩ := HBx.out V (HB12.out.trans (hb12V.mono HB12.out.size))
      have c3 : V.cell? ⟨w12.heap.size, 0, none⟩ = some (.slice wa_ wn wc) := (World.cell?_of_block (a := ⟨w12.heap.size, 0, none⟩) (hkp.block w12.heap.size (by omega) (by omega))).trans HK3.out
      have hset := keepsY_cell (w := V) (g := w.heap.size + 1) (i := 0) (.bool true)
      have HD := hide ((hset.block wK.heap.size hlt (by omega)).trans hD)
      have HC := hide (World.cell?_setCell_same' V ⟨w.heap.size + 1, 0, none⟩ (.bool true) (by rw [b1']; rfl))
      have HK := hide (kpThen (kpThen (hkp.wider (fun k e => (.inr e : k = w.heap.size + 1 ∨ k = w12.heap.size + 1))) (fun k e => .inl (.inl e)) hset) (fun k (e : k = wK.heap.size) => .inr (by omega)) (kp_put (V.setCell ⟨w.heap.size + 1, 0, none⟩ (.bool true)) wK.heap.size (.deferred none)))
      clear hD hset hkp f4
      gi_wp2
      refine ⟨by simp, .inl ⟨_, _, rfl, run_takeDeferred HD.out, ?_⟩⟩
      refine ⟨_, res_cellT rfl ?_, rfl, HBV.out _ HK.out⟩
      exact (World.cell?_of_block (a := ⟨w.heap.size + 1, 0, none⟩) (World.putObj_heap_other (by show w.heap.size + 1 ≠ wK.heap.size; omega))).trans HC.out
    case refine'_9 =>
      rintro V ⟨h1, h2⟩ hD hlt
      have HD := hide hD
      have HK := hide (kpThen h1 (fun k (e : k = wK.heap.size) => .inr (by omega)) (kp_put V wK.heap.size (.deferred none)))
      clear hD
      gi_wp2
      refine ⟨by simp, .inl ⟨_, _, rfl, run_takeDeferred HD.out, ?_⟩⟩
      refine ⟨_, res_cellT rfl ?_, rfl, HBV.out _ HK.out⟩
      exact (World.cell?_of_block (a := ⟨w.heap.size + 1, 0, none⟩) (World.putObj_heap_other (by show w.heap.size + 1 ≠ wK.heap.size; omega))).trans h2

end Go.Proofs.Ytfldiapdfpkdaaa
