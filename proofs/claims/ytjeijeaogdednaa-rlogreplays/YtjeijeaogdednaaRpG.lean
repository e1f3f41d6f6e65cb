/- All records: the reference's Replay. RlogReplays. -/
import Derived.Test.YtjeijeaogdednaaRpF
import Derived.Test.YtjeijeaogdednaaSame8
namespace Go.Proofs.Ytjeijeaogdednaa
open Go.RowKit NumMath
set_option linter.unusedVariables false
set_option maxRecDepth 100000

/-- the reference's hard state at block H, its log at p; block N: the answer -/
structure XPast (w0 : World) (N H p : Nat) (h : Int × Int) (M : LogS) (wr : World) : Prop where
  box : Box2 wr H (.int .u64 h.1) (.int .u64 h.2)
  log : IsL (fun k => SB 4 wr p k ∨ k = N ∨ k = H) wr N p M
  off : ∀ k, SB 4 wr p k → N < k ∧ k ≠ H
  hH : N < H
  bl : Below (N + 1) w0 wr
  sz : N + 1 ≤ wr.heap.size

theorem XPast.at {w0 : World} {N H p : Nat} {h : Int × Int} {M : LogS} {wr : World} (P : XPast w0 N H p h M wr) : H < wr.heap.size := World.block_lt_of_cell? _ ⟨H, 0, none⟩ P.box.1

theorem XPast.lt {w0 : World} {N H p : Nat} {h : Int × Int} {M : LogS} {wr : World} (P : XPast w0 N H p h M wr) : ∀ k, (SB 4 wr p k ∨ k = N ∨ k = H) → k < wr.heap.size ∧ N ≤ k := by
  have := P.at
  have := P.hH
  have := P.sz
  rintro k (hk | hk | hk)
  · have := P.log.lt hk
    omega
  · omega
  · omega

theorem XPast.step {w0 : World} {N H p : Nat} {h : Int × Int} {M M' : LogS} {wr w5 : World} (P : XPast w0 N H p h M wr) (hp : SPost 4 wr p w5) (hL : IsL (fun k => (SB 4 wr p k ∨ k = N ∨ k = H) ∨ SB 4 w5 p k) w5 N p M') : XPast w0 N H p h M' w5 := by
  have hat := P.at
  have hH := P.hH
  have hsz := P.sz
  refine ⟨P.box.same (hp.1.block H hat (fun hs => (P.off H hs).2 rfl)), hL.more (fun k hk => .inl (hk.elim .inr (fun h => .inl (.inr h)))) (fun k hk => .inl hk), fun k hk => ?_, hH, P.bl.trans (hp.below hsz (fun k hk => (P.off k hk).1)), Nat.le_trans hsz hp.size⟩
  rcases hp.2 k hk with h1 | h1
  · exact P.off k h1
  · omega

theorem XPast.keep {w0 : World} {N H p : Nat} {h : Int × Int} {M : LogS} {wr w5 : World} (P : XPast w0 N H p h M wr) (hb : Below wr.heap.size wr w5) : XPast w0 N H p h M w5 := by
  refine P.step (SPost.of_below P.log.at hb) ((P.log.keep hb).more (fun k hk => .inl ?_) (fun k hk => .inr hk))
  exact hk.elim id (fun h1 => .inl (h1.same (hb.block p P.log.at)))

theorem XPast.hard {w0 : World} {N H p : Nat} {h : Int × Int} {M : LogS} {wr : World} (P : XPast w0 N H p h M wr) (t v : Int) : XPast w0 N H p (t, v) M ((wr.setCell ⟨H, 0, none⟩ (.int .u64 t)).setCell ⟨H, 1, none⟩ (.int .u64 v)) := by
  have kk : Keeps (fun k => k = H) wr ((wr.setCell ⟨H, 0, none⟩ (.int .u64 t)).setCell ⟨H, 1, none⟩ (.int .u64 v)) := ((Keeps.self _ wr).also _).also _
  have hH := P.hH
  have hpH : p ≠ H := (P.off p SB.at).2
  have eP := kk.block p P.log.at hpH
  have hS : ∀ k, SB 4 ((wr.setCell ⟨H, 0, none⟩ (.int .u64 t)).setCell ⟨H, 1, none⟩ (.int .u64 v)) p k → SB 4 wr p k := fun k hk => hk.same eP
  refine ⟨(P.box.set0 _).set1 _, ?_, fun k hk => P.off k (hS k hk), hH, P.bl.trans (kk.below P.sz (fun k e => by omega)), Nat.le_trans P.sz kk.size⟩
  exact (P.log.lies kk (fun k e => .inr (.inr e)) (fun k hk e => (P.off k hk).2 e)).more (fun k hk => .inl (hk.imp (hS k) id)) (fun k hk => .inl hk)

/-- the log is cleaned, the answer laid -/
theorem XPast.fin {w0 : World} {N H p : Nat} {h : Int × Int} {M : LogS} {wr : World} (P : XPast w0 N H p h M wr) (u0 u1 : Value) (V : World) (hV : V = ((((wr.setCell ⟨p, 5, none⟩ (.int .u64 0)).setCell ⟨p, 6, none⟩ (.bool false)).setCell ⟨N, 0, none⟩ u0).setCell ⟨N, 1, none⟩ u1)) : IsL (fun k => SB 4 V p k) V N p M.clean ∧ Below N w0 V := by
  obtain ⟨hL, hp⟩ := isL_clean P.log
  have P2 := P.step hp (isL_wide hL)
  clear hL hp
  subst hV
  generalize (wr.setCell ⟨p, 5, none⟩ (.int .u64 0)).setCell ⟨p, 6, none⟩ (.bool false) = W at *
  have kk : Keeps (fun k => k = N) W ((W.setCell ⟨N, 0, none⟩ u0).setCell ⟨N, 1, none⟩ u1) := ((Keeps.self _ W).also _).also _
  have hpN : p ≠ N := by have := (P2.off p SB.at).1; omega
  have eP := kk.block p P2.log.at hpN
  have hS : ∀ k, SB 4 ((W.setCell ⟨N, 0, none⟩ u0).setCell ⟨N, 1, none⟩ u1) p k → SB 4 W p k := fun k hk => hk.same eP
  refine ⟨(P2.log.lies kk (fun k e => .inr (.inl e)) (fun k hk e => by have := (P2.off k hk).1; omega)).more (fun k hk => .inl (.inl (hS k hk))) (fun k hk => hk), (P2.bl.mono (by omega)).trans (kk.below (by have := P2.sz; omega) (fun k e => by omega))⟩

theorem xpast_new {w : World} {w1 : World} {p : Nat} {M : LogS} {o : Obj} {ty : TypeId} (hL : IsL (fun k => k = w.heap.size ∨ k = p) w1 (w.heap.size + 1) p M) (hb : Below (w.heap.size + 1) (w.alloc o) w1) (hs : w.heap.size + 1 ≤ w1.heap.size) (t v : Int) : XPast (w.alloc o) w.heap.size w1.heap.size p (t, v) M (w1.alloc (.cells #[.int .u64 t, .int .u64 v] ty)) := by
  have hp := hL.at
  have hbl := new_below w1 (.cells #[.int .u64 t, .int .u64 v] ty)
  have hL2 := hL.keep hbl
  have hS : ∀ k, SB 4 (w1.alloc (.cells #[.int .u64 t, .int .u64 v] ty)) p k → k = p := fun k hk => (hL2.lt hk).2.2.elim (fun h => by have := (hL2.lt hk).2.1; omega) id
  have hp1 := (hL.lt (k := p) SB.at).2.1
  refine ⟨box2_new w1 _ _ ty _ rfl, ?_, fun k hk => by rw [hS k hk]; omega, by omega, hb.trans (hbl.mono hs), by simp; omega⟩
  refine ((IsL.keep (hL.more (Y := fun k => k = p ∨ k = w.heap.size ∨ k = w1.heap.size) (fun k hk => ?_) (fun k hk => (hL.lt hk).2.2.elim (fun h => .inr (.inl h)) .inl)) hbl).more (fun k hk => .inl (hk.imp (hS k) id)) (fun k hk => .inl hk)).mono (by omega)
  rcases hk with h | h | h
  · exact .inl (.inr h)
  · exact .inl (.inl h)
  · exact .inr (by omega)

set_option maxHeartbeats 400000 in
theorem xreplayAll_any (a : Option Addr) (len cap : Nat) (ts : List (List Int)) (w : World) (h : IsTexts w a len cap ts) (hl : len ≤ 20) (ht : ∀ t ∈ ts, t.length ≤ 300) :
    Calls Try.prog 31 #[.slice a len cap] w fun e w' => AllPost w (repL (0, 0) log0 ts) e w' := by
  have H := hide h
  have hlen := h.1
  have HLn := hide hlen
  have HT := hide ht
  have HAre := hide h.are
  have HA := hide (box2_new w (.int .u64 0) (.int .u64 0) 48 _ rfl)
  have HWA := hide (new_below w (.cells #[.int .u64 0, .int .u64 0] 48))
  have HNew := hide (fun (W : World) => xnew_any (fun k => k = w.heap.size) 0 0 none 0 0 [] none 0 0 [] W ⟨isNums_nil W, .inl rfl⟩ ⟨⟨rfl, Nat.le_refl _, Nat.zero_le _, by simp, .inl rfl⟩, .inl rfl⟩)
  clear h hlen ht
  go_enter Try.func31, Try.ntmps31
  go_wp2_with (first
    | (go_at_call 11; go_must (refine (HNew.out _).mono ?_); rintro e w1 ⟨p, rfl, hp, hL1, hb1⟩; have HL1 := hide hL1; have HB1 := hide hb1; clear hp hL1 hb1))
  have hs1 : w.heap.size + 1 ≤ w1.heap.size := by have := HB1.out.size; simp at this; omega
  have HP1 := hide (xpast_new (o := .cells #[.int .u64 0, .int .u64 0] 48) (ty := 48) (by simpa using HL1.out) (by simpa using HB1.out) hs1 0 0)
  have HWm := hide (fun (W : World) (hW : Below (w.heap.size + 1) (w.alloc (.cells #[.int .u64 0, .int .u64 0] 48)) W) => (show Below w.heap.size w W from HWA.out.trans (hW.mono (by omega))))
  have HBA := hide (fun (W : World) (hW : Below (w.heap.size + 1) (w.alloc (.cells #[.int .u64 0, .int .u64 0] 48)) W) => HA.out.same (hW.block w.heap.size (by omega)))
  have H0 : Hid (repL (0, 0) log0 ts = repL (0, 0) log0 (ts.drop 0)) := by show _ = _; rw [List.drop_zero]
  have hgl := hide good_log0
  go_loopw [16] (fun i wr => ∃ (j : Nat) (h : Int × Int) (L M : LogS), j ≤ len ∧ i = .int .i64 j ∧ XPast (w.alloc (.cells #[.int .u64 0, .int .u64 0] 48)) w.heap.size w1.heap.size p h M wr ∧ Alike L M ∧ (0 ≤ M.dirty ∧ M.dirty ≤ 18446744073709551615) ∧ L.Good ∧ L.es.length ≤ j ∧ repL (0, 0) log0 ts = repL h L (ts.drop j)) (fun i _ => len - (intOf i).toNat)
  case atStart => exact ⟨0, (0, 0), log0, log0, Nat.zero_le _, rfl, HP1.out, ⟨rfl, rfl⟩, ⟨by decide, by decide⟩, hgl.out, Nat.le_refl _, H0.out⟩
  case round =>
    clear HP1 HL1 HB1 H0 hgl HNew
    obtain ⟨j, ⟨g1, g2⟩, L, M, hj, rfl, hP, hAl, hy, hG, hLn, hEq⟩ := hrel
    have HP := hide hP
    have HG := hide hG
    have HEq := hide hEq
    have HAl := hide hAl
    have Hw := hide (HWm.out _ hP.bl)
    have HGM := hide (good_alike hG hAl hy.1 hy.2)
    have HMl : Hid (M.es.length ≤ 40000) := by show _ ≤ _; rw [hAl.2]; omega
    obtain ⟨x0, x1, -⟩ := hP.box
    clear hP hG hEq hAl hy
    by_cases hlt : j < len
    · obtain ⟨g, off, tb, tn, tc, rfl, hg, hcell, hI⟩ := H.out.at hlt
      have hc' := (Hw.out.cell (p := ⟨g, off + j, none⟩) hg).trans hcell
      have htj : ts.getD j [] ∈ ts := by
        have hj2 : j < ts.length := by rw [HLn.out]; exact hlt
        have : ts.getD j [] = ts[j] := by simp [List.getD, List.getElem?_eq_getElem hj2]
        rw [this]; exact List.getElem_mem hj2
      have ht3 := HT.out _ htj
      have HGr := hide (good_rec (h := (g1, g2)) (L := L) (bs := ts.getD j []) HG.out (by omega) (HAre.out _ htj) (by omega))
      have HSt := hide (repL_step (h := (g1, g2)) (L := L) (ts := ts) (j := j) (by rw [HLn.out]; exact hlt))
      have HAr := hide (alike_rec (h := (g1, g2)) HAl.out (ts.getD j []))
      have hqt : tn ≠ 0 → ∀ x, tb = some x → x.block < w.heap.size := fun h0 x hx => by
        rcases hI.2.2.2.2 with h | ⟨g', off', e, hg', _⟩
        · exact absurd h h0
        · rw [hx] at e; cases e; exact hg'
      have HOne := hide (one_any (fun k => SB 4 wr p k ∨ k = w.heap.size ∨ k = w1.heap.size) wr w.heap.size p g1 g2 M tb tn tc (ts.getD j []) HP.out.log HP.out.lt HGM.out HMl.out (hI.keep Hw.out) hqt (by omega))
      clear hI hcell htj ht3 hqt HMl HGM HAl
      generalize recL (g1, g2) M (ts.getD j []) = rm at *
      generalize recL (g1, g2) L (ts.getD j []) = rr at *
      obtain ⟨er, h', L'⟩ := rr
      obtain ⟨er', h'', M'⟩ := rm
      dsimp only at *
      obtain ⟨ar1, ar2, ar3⟩ := HAr.out
      have HAr3 := hide ar3
      subst ar1
      subst ar2
      clear ar3 HAr
      obtain ⟨z, hz⟩ : ∃ z : Bool, (er' == 0) = z := ⟨_, rfl⟩
      cases z
      · have hne : ¬ er' = 0 := by simpa using hz
        have HFin := hide (HEq.out.trans (HSt.out.trans (if_neg hne)))
        clear HSt HGr HEq
        go_wp2_with (first
          | (go_at_call 72; go_must (refine HOne.out.mono ?_); rintro e w5 ⟨hp5, t, v, rfl, -⟩; have HB5 := hide ((HP.out.bl.trans (hp5.below HP.out.sz (fun k hk => (HP.out.off k hk).1))).trans ((new_below w5 (.cells #[.int .u64 t, .int .u64 v] 48)).mono (Nat.le_trans HP.out.sz hp5.size))); obtain ⟨a0, a1, af⟩ := HBA.out _ HB5.out; have a0f := af 0; have a1f := af 1; clear hp5 af))
        have HR := hide (((HBA.out _ HB5.out).set0 (.int .u64 0)).set1 (.int .u64 0))
        obtain ⟨n0, n1, -⟩ := HR.out
        rw [HFin.out]
        refine bodyPost_ret (v := .tuple #[.agg #[.int .u64 0, .int .u64 0], .pointer none, .int .i64 er']) (by simp [results, Try.results31, go_sem, n0, n1]) rfl ⟨((HWm.out _ HB5.out).setCell (p := ⟨w.heap.size, 0, none⟩) (Nat.le_refl _) _).setCell (p := ⟨w.heap.size, 1, none⟩) (Nat.le_refl _) _, .inl ⟨hne, rfl⟩⟩
      · have her : er' = 0 := by simpa using hz
        subst her
        have HFin := hide (HEq.out.trans (HSt.out.trans (if_pos rfl)))
        clear HSt HEq
        go_wp2_with (first
          | (go_at_call 72; go_must (refine HOne.out.mono ?_); rintro e w5 ⟨hp5, t, v, rfl, hx5⟩; obtain ⟨ht5, L5, hA5, hy5, hL5⟩ := hx5 rfl; have HT5 := hide ht5; have HA5 := hide hA5; have HY5 := hide hy5; have HP6 := hide ((HP.out.step hp5 hL5).keep (new_below w5 (.cells #[.int .u64 t, .int .u64 v] 48))); obtain ⟨k0, k1, kf⟩ := HP6.out.box; have k0f := kf 0; have k1f := kf 1; have HP7 := hide (HP6.out.hard t v); clear hp5 hx5 ht5 hA5 hy5 hL5 kf))
        go_roundw
        case rel => exact ⟨j + 1, (t, v), L', L5, by omega, by go_num, HP7.out, ⟨HA5.out.1.trans HAr3.out.1, HA5.out.2.trans HAr3.out.2⟩, HY5.out, HGr.out.1, by have := HGr.out.2; omega, by rw [HFin.out, HT5.out]⟩
        case measure => simp [intOf]; omega
    · have hjn : j = len := by omega
      subst hjn
      have HFin : Hid (repL (0, 0) log0 ts = (0, (g1, g2), L)) := by
        show _ = _
        rw [HEq.out, List.drop_of_length_le (by rw [HLn.out]; exact Nat.le_refl _)]
        rfl
      obtain ⟨ma, mn, mc, da, dn, dc, ea, en, ec, ms, -, -, -, -, -, c5, c6, hf, -⟩ := HP.out.log
      have c5f := hf 5
      have c6f := hf 6
      obtain ⟨a0, a1, af⟩ := HBA.out _ HP.out.bl
      have a0f := af 0
      have a1f := af 1
      have hoff := HP.out.off p SB.at
      have hNH := HP.out.hH
      have e1 : ¬ p = w.heap.size := by omega
      have e2 : ¬ w.heap.size = p := by omega
      have e3 : ¬ p = w1.heap.size := hoff.2
      have e4 : ¬ w1.heap.size = p := fun e => hoff.2 e.symm
      have e5 : ¬ w.heap.size = w1.heap.size := by omega
      have e6 : ¬ w1.heap.size = w.heap.size := by omega
      have hk : Keeps (fun k => k = p) wr ((wr.setCell ⟨p, 5, none⟩ (.int .u64 0)).setCell ⟨p, 6, none⟩ (.bool false)) := ((Keeps.self _ wr).also _).also _
      have HR := hide ((((HBA.out _ HP.out.bl).same (hk.block w.heap.size (by have := HP.out.sz; omega) e2)).set0 (.int .u64 g1)).set1 (.int .u64 g2))
      have HF := hide (HP.out.fin (.int .u64 g1) (.int .u64 g2) _ rfl)
      have HCl := hide (clean_alike HAl.out)
      clear hf af hk hoff hNH
      go_wp2
      obtain ⟨n0, n1, -⟩ := HR.out
      rw [HFin.out]
      refine bodyPost_ret (v := .tuple #[.agg #[.int .u64 g1, .int .u64 g2], .pointer (some ⟨p, 0, none⟩), .int .i64 0]) (by simp [results, Try.results31, go_sem, n0, n1]) rfl ⟨HWA.out.trans HF.out.2, .inr ⟨rfl, p, rfl, ?_⟩⟩
      have hF := HF.out.1
      rw [HCl.out] at hF
      exact hF

end Go.Proofs.Ytjeijeaogdednaa

namespace Go.Proofs.Ytjeijeaogdednaa
open Go.RowKit NumMath
set_option linter.unusedVariables false
set_option maxRecDepth 100000

theorem same_nil (w : World) : Calls Try.prog 18 #[.pointer none, .pointer none] w fun e w' => e = .returned (.bool true) ∧ w' = w := by
  go_enter Try.func18, Try.ntmps18
  go_wp2
  go_ret
  exact ⟨rfl, rfl⟩

theorem all_bad {w : World} {x : Int × (Int × Int) × LogS} {f : Nat} {args : Array Value} (h : Calls Try.prog f args w fun e w' => AllPost w x e w') (hx : ¬ x.1 = 0) : Calls Try.prog f args w fun e w' => e = .returned (.tuple #[.agg #[.int .u64 0, .int .u64 0], .pointer none, .int .i64 x.1]) ∧ Below w.heap.size w w' := by
  refine h.mono ?_
  rintro e w' ⟨hb, ⟨_, he⟩ | ⟨h0, _⟩⟩
  · exact ⟨he, hb⟩
  · exact absurd h0 hx

theorem all_ok {w : World} {x : Int × (Int × Int) × LogS} {f : Nat} {args : Array Value} (h : Calls Try.prog f args w fun e w' => AllPost w x e w') (hx : x.1 = 0) : Calls Try.prog f args w fun e w' => ∃ p, e = .returned (.tuple #[.agg #[.int .u64 x.2.1.1, .int .u64 x.2.1.2], .pointer (some ⟨p, 0, none⟩), .int .i64 0]) ∧ IsL (fun k => SB 4 w' p k) w' w.heap.size p x.2.2.clean ∧ Below w.heap.size w w' := by
  refine h.mono ?_
  rintro e w' ⟨hb, ⟨h0, _⟩ | ⟨_, p, he, hL⟩⟩
  · exact absurd hx h0
  · exact ⟨p, he, hL, hb⟩

set_option maxHeartbeats 400000 in
theorem rlreplays_any (a : Option Addr) (len cap : Nat) (ts : List (List Int)) (w : World) (h : IsTexts w a len cap ts) :
    Calls Try.prog 5 #[.slice a len cap] w fun e w' => e = .returned (.bool true) ∧ Below w.heap.size w w' := by
  have H := hide h
  have hlen := h.1
  have HLn := hide hlen
  have HAre := hide h.are
  have hm1 : (len : Int) ≤ 9223372036854775807 := by have := h.2.1; have := h.2.2.1; unfold maxLen at this; omega
  clear h hlen
  by_cases g1 : (20 : Int) < (len : Int)
  · go_enter Try.func5, Try.ntmps5
    go_wp2_with (first
      | (go_at_call 8; refine (rlawake_any _).mono ?_; rintro e wa ⟨rfl, hba⟩))
    go_ret
    exact ⟨rfl, hba⟩
  have hl20 : len ≤ 20 := by omega
  go_enter Try.func5, Try.ntmps5
  go_wp2_with (first
    | (go_at_call 8; refine (rlawake_any _).mono ?_; rintro e wa ⟨rfl, hba⟩; have HBa := hide hba; clear hba))
  go_loopw [18] (fun i wr => ∃ j : Nat, j ≤ len ∧ i = .int .i64 j ∧ (∀ t ∈ ts.take j, t.length ≤ 300) ∧ wr = wa) (fun i _ => len - (intOf i).toNat)
  case atStart => exact ⟨0, Nat.zero_le _, rfl, by simp, rfl⟩
  case round =>
    obtain ⟨j, hj, rfl, hT, rfl⟩ := hrel
    have HT := hide hT
    clear hT
    by_cases hlt : j < len
    · obtain ⟨g, off, tb, tn, tc, rfl, hg, hcell, hI⟩ := H.out.at hlt
      have hc' := (HBa.out.cell (p := ⟨g, off + j, none⟩) hg).trans hcell
      have HI := hide hI
      have htn : (tn : Int) ≤ 9223372036854775807 := by have := hI.2.1; have := hI.2.2.1; unfold maxLen at this; omega
      have hj2 : j < ts.length := by rw [HLn.out]; exact hlt
      have HJ2 := hide hj2
      clear hcell hI hj2
      by_cases g3 : (300 : Int) < (tn : Int)
      · go_wp2
        go_ret
        exact ⟨rfl, HBa.out⟩
      · go_wp2
        go_roundw
        case rel =>
          refine ⟨j + 1, by omega, by go_num, ?_, by first | rfl | trivial⟩
          intro t ht
          rw [List.take_add_one, List.getElem?_eq_getElem HJ2.out] at ht
          rcases List.mem_append.1 ht with h | h
          · exact HT.out t h
          · have e : t = ts.getD j [] := by simpa [List.getD, List.getElem?_eq_getElem HJ2.out] using h
            rw [e, HI.out.1]
            omega
        case measure => simp [intOf]; omega
    · have hjn : j = len := by omega
      subst hjn
      have hall : ∀ t ∈ ts, t.length ≤ 300 := fun t ht => HT.out t (by rw [List.take_of_length_le (by rw [HLn.out]; exact Nat.le_refl _)]; exact ht)
      have HR1 := hide (fun (W : World) (hW : Below w.heap.size w W) => replayAll_any a j cap ts W (H.out.keep hW) hl20 hall)
      have HR2 := hide (fun (W : World) (hW : Below w.heap.size w W) => xreplayAll_any a j cap ts W (H.out.keep hW) hl20 hall)
      have HGd := hide (rep_good ts (0, 0) log0 good_log0 (by show 0 + _ ≤ _; rw [HLn.out]; omega) (fun t ht => ⟨by have := hall t ht; omega, HAre.out t ht⟩))
      have HLn2 : Hid (ts.length = j) := HLn.out
      clear hall HT HLn HAre
      generalize repL (0, 0) log0 ts = rr at *
      obtain ⟨er, ⟨h1, h2⟩, L⟩ := rr
      dsimp only at *
      obtain ⟨z, hz⟩ : ∃ z : Bool, (er == 0) = z := ⟨_, rfl⟩
      cases z
      · have hne : ¬ er = 0 := by simpa using hz
        have HC1 := hide (fun (W : World) (hW : Below w.heap.size w W) => all_bad (HR1.out W hW) hne)
        have HC2 := hide (fun (W : World) (hW : Below w.heap.size w W) => all_bad (HR2.out W hW) hne)
        clear HR1 HR2 HGd
        dsimp only at *
        go_wp2_with (first
          | (go_at_call 30; go_must (refine (HC1.out _ (by exact HBa.out)).mono ?_); rintro e w1 ⟨rfl, hb1⟩; have HB1 := hide ((HBa.out.trans (hb1.mono HBa.out.size)).trans ((new_below w1 (.cells #[.int .u64 0, .int .u64 0] 48)).mono (Nat.le_trans HBa.out.size hb1.size))); have HX1 := hide (box2_new w1 (.int .u64 0) (.int .u64 0) 48 _ rfl); clear hb1)
          | (go_at_call 31; go_must (refine (HC2.out _ (by exact HB1.out)).mono ?_); rintro e w2 ⟨rfl, hb2⟩; have HB2 := hide ((HB1.out.trans (hb2.mono HB1.out.size)).trans ((new_below w2 (.cells #[.int .u64 0, .int .u64 0] 48)).mono (Nat.le_trans HB1.out.size hb2.size))); obtain ⟨x0, x1, -⟩ := (HX1.out.same (hb2.block _ (by simp))).same ((new_below w2 (.cells #[.int .u64 0, .int .u64 0] 48)).block w1.heap.size (by have := hb2.size; simp at this; omega)); clear hb2)
          | (go_at_call 18; go_must (refine (same_nil _).mono ?_); rintro e w' ⟨rfl, hw⟩; have hw := hw.symm; subst hw))
        go_ret
        exact ⟨rfl, HB2.out⟩
      · have her : er = 0 := by simpa using hz
        subst her
        have HC1 := hide (fun (W : World) (hW : Below w.heap.size w W) => all_ok (HR1.out W hW) rfl)
        have HC2 := hide (fun (W : World) (hW : Below w.heap.size w W) => all_ok (HR2.out W hW) rfl)
        have HGG := hide (HGd.out rfl)
        clear HR1 HR2 HGd
        dsimp only at *
        go_wp2_with (first
          | (go_at_call 30; go_must (refine (HC1.out _ (by exact HBa.out)).mono ?_); rintro e w1 ⟨p, rfl, hL1, hb1⟩; have HL1 := hide (hL1.keep (new_below w1 (.cells #[.int .u64 h1, .int .u64 h2] 48))); have HB1 := hide ((HBa.out.trans (hb1.mono HBa.out.size)).trans ((new_below w1 (.cells #[.int .u64 h1, .int .u64 h2] 48)).mono (Nat.le_trans HBa.out.size hb1.size))); have HX1 := hide (box2_new w1 (.int .u64 h1) (.int .u64 h2) 48 _ rfl); clear hL1 hb1)
          | (go_at_call 31; go_must (refine (HC2.out _ (by exact HB1.out)).mono ?_); rintro e w2 ⟨q, rfl, hL2, hb2⟩; have HL2 := hide (hL2.keep (new_below w2 (.cells #[.int .u64 h1, .int .u64 h2] 48))); have HLp := hide ((HL1.out.keep hb2).keep (new_below w2 (.cells #[.int .u64 h1, .int .u64 h2] 48))); have HSq : Hid (∀ k, SB 4 w2 q k → k < (w2.alloc (.cells #[.int .u64 h1, .int .u64 h2] 48)).heap.size) := (fun k hk => Nat.lt_of_lt_of_le (hL2.lt hk).1 (by simp)); have HB2 := hide ((HB1.out.trans (hb2.mono HB1.out.size)).trans ((new_below w2 (.cells #[.int .u64 h1, .int .u64 h2] 48)).mono (Nat.le_trans HB1.out.size hb2.size))); obtain ⟨x0, x1, -⟩ := (HX1.out.same (hb2.block _ (by simp))).same ((new_below w2 (.cells #[.int .u64 h1, .int .u64 h2] 48)).block w1.heap.size (by have := hb2.size; simp at this; omega)); clear hL2 hb2)
          | (go_at_call 18; go_must (refine (same_any _ _ _ _ p q L.clean _ HLp.out HL2.out (good_clean HGG.out.1) (by have := HGG.out.2; rw [HLn2.out] at this; show L.es.length ≤ _; have h0 : log0.es.length = 0 := rfl; omega) HSq.out).mono ?_); rintro e w3 ⟨rfl, hb3⟩; have HB3 := hide (HB2.out.trans (hb3.mono HB2.out.size)); clear hb3))
        go_ret
        exact ⟨rfl, HB3.out⟩

end Go.Proofs.Ytjeijeaogdednaa
