/- Small: which commands a law's loops go over. -/
import Derived.Test.YtcgiicmmfleinaaGreatDoorCmA
import Derived.Deep.LoopGhost
namespace Go.Proofs.YtcgiicmmfleinaaGreatDoor
open Go.RowKit NumMath Go.ChangeShapes Go.WideShapes Go.Deep
set_option linter.unusedVariables false
set_option maxRecDepth 100000

/-- what a law takes of a command -/
structure MCmd.small (m : MCmd) : Prop where
  keys : m.lo.n + m.hi.n + m.lk.ln + m.lk.hn ≤ 200
  txs : m.txs.n ≤ 10
  ws : m.ws.n ≤ 10
  ks : m.ks.n ≤ 10
  cs : m.tb.cs.n ≤ 14
  ix : m.tb.ix.n ≤ 6
  nm : m.tb.nm.length ≤ 100
  wl : ∀ x ∈ m.ws.xs, x.k.n + x.v.n ≤ 300
  kl : ∀ x ∈ m.ks.xs, x.n ≤ 100
  cl : ∀ x ∈ m.tb.cs.xs, x.n.length ≤ 100

theorem at_of {α : Type} {l : List α} {k n : Nat} (h : l.length = n) (hk : k < n) : ∃ x, l[k]? = some x := ⟨_, List.getElem?_eq_getElem (by omega)⟩

theorem all_upto {α : Type} {l : List α} {P : α → Prop} {k : Nat} {x : α} (h : ∀ y ∈ l.take k, P y) (hx : l[k]? = some x) (hp : P x) : ∀ y ∈ l.take (k + 1), P y := by
  intro y hy
  rw [List.take_add_one, hx] at hy
  rcases List.mem_append.1 hy with h1 | h1
  · exact h y h1
  · simp at h1
    subst h1
    exact hp

theorem all_whole {α : Type} {l : List α} {P : α → Prop} {k n : Nat} (e : l.length = n) (hk : k = n) (h : ∀ y ∈ l.take k, P y) : ∀ y ∈ l, P y := by
  rw [List.take_of_length_le (by omega)] at h
  exact h

theorem wp_newL {α : Type} (L : Lay α) {ops : Array Oper} {rest : List Oper} {o : Oper} {a : Act} {Q : Exit → Act → World → Prop} (w : World) (t : TypeId) (ht : L.e = t) (m : α) (cs : Array Value) (hcs : (L.cells m).toArray = cs) (c : Array Value) (hs : c.size = L.k) (hgd : o.guard = none) (x y : Operand) (ho : o.op = .store t x y) (hx : a.eval x = .pointer (some ⟨w.heap.size, 0, none⟩)) (hy : a.eval y = .agg cs)
    (h : wpList Tryz.prog ops Q rest (a.put o.dst undef) (w.alloc (.cells cs t))) : wpList Tryz.prog ops Q (o :: rest) a (w.alloc (.cells c t)) := by
  subst hcs ht
  refine wp_newY w L.e c (L.cells m).toArray (by rw [List.size_toArray, L.len]; exact L.size) (by rw [hs, List.size_toArray, L.len]) ?_ hgd x y ho hx hy h
  rw [List.all_toArray, List.all_eq_true]
  exact L.one m

theorem le10 {a : Nat} (h : ¬ (10 : Int) < (a : Int)) : a ≤ 10 := by omega
theorem le14 {a : Nat} (h : ¬ (14 : Int) < (a : Int)) : a ≤ 14 := by omega
theorem le6 {a : Nat} (h : ¬ (6 : Int) < (a : Int)) : a ≤ 6 := by omega
theorem le100 {a : Nat} (h : ¬ (100 : Int) < (a : Int)) : a ≤ 100 := by omega
theorem le300 {a c : Nat} (h : ¬ (300 : Int) < (a : Int) + (c : Int)) : a + c ≤ 300 := by omega
theorem le200 {a c d e : Nat} (h : ¬ (200 : Int) < (a : Int) + (c : Int) + (d : Int) + (e : Int)) : a + c + d + e ≤ 200 := by omega
theorem msr6 {k n : Nat} (h : k < n) : n - (k + 1) < n - k := by omega

/-- what Small tells -/
def SmallPost (w : World) (ms : List MCmd) (n : Nat) (e : Ending) (w' : World) : Prop := ∃ z, e = .returned (.bool z) ∧ (z = true → (∀ m ∈ ms, m.small) ∧ n ≤ 40) ∧ Below w.heap.size w w'

set_option maxHeartbeats 8000000 in
theorem small_any (a : Option Addr) (n c : Nat) (ms : List MCmd) (w : World) (h : IsY layCm w a n c ms) (hh : ∀ m ∈ ms, m.handed w) (hn : n * 320 ≤ 140737488355328) :
    Calls Tryz.prog 7 #[.slice a n c] w (SmallPost w ms n) := by
  have HY := hide h
  have HH := hide hh
  have hnm : (n : Int) ≤ 9223372036854775807 := by omega
  clear h hh hn
  go_enter Tryz.func7, Tryz.ntmps7
  go_wp2
  go_loopg [13] n (fun gk ix wr => ∃ k : Nat, gk = n - k ∧ ix = .int .i64 k ∧ k ≤ n ∧ (∀ m ∈ ms.take k, m.small) ∧ Below w.heap.size w wr)
  case atStart => exact ⟨0, rfl, rfl, Nat.zero_le _, by simp, Below.refl _ _⟩
  case round =>
    obtain ⟨k, rfl, rfl, hk, hA, hB⟩ := hrel
    have HA := hide hA
    have HB := hide hB
    clear hA hB
    obtain ⟨wo, hwo⟩ : ∃ wo, wo = wr := ⟨_, rfl⟩
    subst hwo
    by_cases hlt : k < n
    · have hlt' : (k : Int) < (n : Int) := by omega
      obtain ⟨m, hm⟩ := at_of HY.out.1 hlt
      obtain ⟨g, off, rfl, hg, hC⟩ := (HY.out.keep HB.out).at hlt
      obtain ⟨cl, sq, kd, tx, ts, fl, ⟨⟨ltx, llv, lmd, llo, lhi⟩, lka, lkn, lkc, hka, hkn, hkc⟩, ⟨lot, loa, lon, loc⟩, ⟨hit, hia, hin, hic⟩, ⟨ta, tn, tc, txs⟩, ⟨wa, wn, wc, ws⟩, ⟨ka, kn, kc, ks⟩, ⟨id, nm, ⟨ca, cn, cc, cs⟩, ky, ⟨ia, ixn, ic, ix⟩⟩⟩ := m
      have HM := hide hm
      have HD := hide ((HH.out _ (List.mem_of_getElem? hm)))
      have HWs : Hid (IsY layWr w wa wn wc ws) := HD.out.ws
      have HWk : Hid (∀ x ∈ ws, x.handed w) := HD.out.wok
      have HKs : Hid (IsY layT w ka kn kc ks) := HD.out.ks
      have HCs : Hid (IsY layCo w ca cn cc cs) := HD.out.tb.1.cs
      have b1 : (lon : Int) ≤ 140737488355328 := by have := HD.out.lo.2; dsimp only at this; omega
      have b2 : (hin : Int) ≤ 140737488355328 := by have := HD.out.hi.2; dsimp only at this; omega
      have b3 : (lkn : Int) ≤ 140737488355328 := by have := HD.out.lk.1.2.2.1; dsimp only at this; omega
      have b4 : (hkn : Int) ≤ 140737488355328 := by have := HD.out.lk.1.2.2.2; dsimp only at this; omega
      obtain ⟨W2, hW2⟩ : ∃ W2, W2 = (wo.alloc (.cells #[.int .u64 cl, .int .u64 sq, .int .i64 kd, .int .u64 tx, .int .u64 ts, .bool fl, .int .u64 ltx, .int .i64 llv, .int .i64 lmd, .slice lka lkn lkc, .slice hka hkn hkc, .slice loa lon loc, .slice hia hin hic, .slice ta tn tc, .slice wa wn wc, .slice ka kn kc, .int .i64 id, .string (strB nm), .slice ca cn cc, .int .i64 ky, .slice ia ixn ic] 50)) := ⟨_, rfl⟩
      have HBn : Hid (Below wo.heap.size wo W2) := by subst hW2; exact new_below _ _
      have HQ0 : Hid (∀ V, Below W2.heap.size W2 V → Box21 V wo.heap.size ⟨cl, sq, kd, tx, ts, fl, ⟨⟨ltx, llv, lmd, llo, lhi⟩, lka, lkn, lkc, hka, hkn, hkc⟩, ⟨lot, loa, lon, loc⟩, ⟨hit, hia, hin, hic⟩, ⟨ta, tn, tc, txs⟩, ⟨wa, wn, wc, ws⟩, ⟨ka, kn, kc, ks⟩, ⟨id, nm, ⟨ca, cn, cc, cs⟩, ky, ⟨ia, ixn, ic, ix⟩⟩⟩) := by subst hW2; exact box21_new wo ⟨cl, sq, kd, tx, ts, fl, ⟨⟨ltx, llv, lmd, llo, lhi⟩, lka, lkn, lkc, hka, hkn, hkc⟩, ⟨lot, loa, lon, loc⟩, ⟨hit, hia, hin, hic⟩, ⟨ta, tn, tc, txs⟩, ⟨wa, wn, wc, ws⟩, ⟨ka, kn, kc, ks⟩, ⟨id, nm, ⟨ca, cn, cc, cs⟩, ky, ⟨ia, ixn, ic, ix⟩⟩⟩ 50
      have HW2e := hide hW2
      clear hW2
      have hns : ((strB nm).size : Int) = nm.length := by rw [strB_size]
      have HR0 : Hid (wo.rangeAt g (off + k * 21) (layCm.cells ⟨cl, sq, kd, tx, ts, fl, ⟨⟨ltx, llv, lmd, llo, lhi⟩, lka, lkn, lkc, hka, hkn, hkc⟩, ⟨lot, loa, lon, loc⟩, ⟨hit, hia, hin, hic⟩, ⟨ta, tn, tc, txs⟩, ⟨wa, wn, wc, ws⟩, ⟨ka, kn, kc, ks⟩, ⟨id, nm, ⟨ca, cn, cc, cs⟩, ky, ⟨ia, ixn, ic, ix⟩⟩⟩)) := hC k _ hm
      clear hC hm
      go_upto_region 4 with (first
        | (refine wp_loadY layCm _ _ Tryz.underlying50 rfl rfl (.tmp 15) rfl g (off + k * 21) ⟨cl, sq, kd, tx, ts, fl, ⟨⟨ltx, llv, lmd, llo, lhi⟩, lka, lkn, lkc, hka, hkn, hkc⟩, ⟨lot, loa, lon, loc⟩, ⟨hit, hia, hin, hic⟩, ⟨ta, tn, tc, txs⟩, ⟨wa, wn, wc, ws⟩, ⟨ka, kn, kc, ks⟩, ⟨id, nm, ⟨ca, cn, cc, cs⟩, ky, ⟨ia, ixn, ic, ix⟩⟩⟩ #[.int .u64 cl, .int .u64 sq, .int .i64 kd, .int .u64 tx, .int .u64 ts, .bool fl, .int .u64 ltx, .int .i64 llv, .int .i64 lmd, .slice lka lkn lkc, .slice hka hkn hkc, .slice loa lon loc, .slice hia hin hic, .slice ta tn tc, .slice wa wn wc, .slice ka kn kc, .int .i64 id, .string (strB nm), .slice ca cn cc, .int .i64 ky, .slice ia ixn ic] rfl rfl HR0.out ?_)
        | (refine wp_newL layCm wo 50 rfl ⟨cl, sq, kd, tx, ts, fl, ⟨⟨ltx, llv, lmd, llo, lhi⟩, lka, lkn, lkc, hka, hkn, hkc⟩, ⟨lot, loa, lon, loc⟩, ⟨hit, hia, hin, hic⟩, ⟨ta, tn, tc, txs⟩, ⟨wa, wn, wc, ws⟩, ⟨ka, kn, kc, ks⟩, ⟨id, nm, ⟨ca, cn, cc, cs⟩, ky, ⟨ia, ixn, ic, ix⟩⟩⟩ #[.int .u64 cl, .int .u64 sq, .int .i64 kd, .int .u64 tx, .int .u64 ts, .bool fl, .int .u64 ltx, .int .i64 llv, .int .i64 lmd, .slice lka lkn lkc, .slice hka hkn hkc, .slice loa lon loc, .slice hia hin hic, .slice ta tn tc, .slice wa wn wc, .slice ka kn kc, .int .i64 id, .string (strB nm), .slice ca cn cc, .int .i64 ky, .slice ia ixn ic] rfl _ rfl rfl (.tmp 4) (.tmp 16) rfl rfl rfl ?_))
      rw [← HW2e.out]
      clear HW2e HR0
      obtain ⟨q0, q1, q2, q3, q4, q5, q6, q7, q8, q9, q10, q11, q12, q13, q14, q15, q16, q17, q18, q19, q20⟩ := HQ0.out W2 (Below.refl _ _)
      by_cases h1 : (200 : Int) < lon + hin + lkn + hkn
      · as_aux_lemma =>
          go_wp2
          refine bodyPost_ret (v := .bool false) (by simp [results, Tryz.results7, go_sem]) rfl ⟨false, rfl, by simp, HB.out.trans (HBn.out.mono HB.out.size)⟩
      · skip
        by_cases h2 : (10 : Int) < tn
        · as_aux_lemma =>
            go_wp2
            refine bodyPost_ret (v := .bool false) (by simp [results, Tryz.results7, go_sem]) rfl ⟨false, rfl, by simp, HB.out.trans (HBn.out.mono HB.out.size)⟩
        · skip
          by_cases h3 : (10 : Int) < wn
          · as_aux_lemma =>
              go_wp2
              refine bodyPost_ret (v := .bool false) (by simp [results, Tryz.results7, go_sem]) rfl ⟨false, rfl, by simp, HB.out.trans (HBn.out.mono HB.out.size)⟩
          · skip
            by_cases h4 : (10 : Int) < kn
            · as_aux_lemma =>
                go_wp2
                refine bodyPost_ret (v := .bool false) (by simp [results, Tryz.results7, go_sem]) rfl ⟨false, rfl, by simp, HB.out.trans (HBn.out.mono HB.out.size)⟩
            · skip
              by_cases h5 : (14 : Int) < cn
              · as_aux_lemma =>
                  go_wp2
                  refine bodyPost_ret (v := .bool false) (by simp [results, Tryz.results7, go_sem]) rfl ⟨false, rfl, by simp, HB.out.trans (HBn.out.mono HB.out.size)⟩
              · skip
                by_cases h6 : (6 : Int) < ixn
                · as_aux_lemma =>
                    go_wp2
                    refine bodyPost_ret (v := .bool false) (by simp [results, Tryz.results7, go_sem]) rfl ⟨false, rfl, by simp, HB.out.trans (HBn.out.mono HB.out.size)⟩
                · skip
                  by_cases h7 : (100 : Int) < nm.length
                  · as_aux_lemma =>
                      go_wp2
                      refine bodyPost_ret (v := .bool false) (by simp [results, Tryz.results7, go_sem]) rfl ⟨false, rfl, by simp, HB.out.trans (HBn.out.mono HB.out.size)⟩
                  · skip
                    have HN1 := hide (le200 h1)
                    have HN2 := hide (le10 h2)
                    have HN3 := hide (le10 h3)
                    have HN4 := hide (le10 h4)
                    have HN5 := hide (le14 h5)
                    have HN6 := hide (le6 h6)
                    have HN7 := hide (le100 h7)
                    go_wp2
                    clear q0 q1 q2 q3 q4 q5 q6 q7 q8 q9 q10 q11 q12 q13 q14 q15 q16 q17 q18 q19 q20 h1 h2 h6 h7 b1 b2 b3 b4 hns
                    go_loopg [77] wn (fun gq iq wq => ∃ q : Nat, gq = wn - q ∧ iq = .int .i64 q ∧ q ≤ wn ∧ (∀ x ∈ (ws).take q, x.k.n + x.v.n ≤ 300) ∧ Below W2.heap.size W2 wq)
                    case atStart => exact ⟨0, rfl, rfl, Nat.zero_le _, by simp, Below.refl _ _⟩
                    case round =>
                      obtain ⟨q, rfl, rfl, hq, hA, hW⟩ := hrel
                      have HAi := hide hA
                      have HW := hide hW
                      clear hA hW
                      by_cases hlq : q < wn
                      · have hlq' : (q : Int) < (wn : Int) := by omega
                        obtain ⟨x, hx⟩ := at_of (HWs.out).1 hlq
                        obtain ⟨g2, o2, rfl, hg2, hC⟩ := ((HWs.out).keep (HB.out.trans ((HBn.out.trans (HW.out.mono HBn.out.size)).mono HB.out.size))).at hlq
                        have HXm := hide hx
                        have hxh := HWk.out x (List.mem_of_getElem? hx)
                        have f1 : (x.k.n : Int) ≤ 140737488355328 := by have := hxh.1.2; omega
                        have f2 : (x.v.n : Int) ≤ 140737488355328 := by have := hxh.2.2; omega
                        have e0 : wr.cell? ⟨g2, o2 + q * 3, none⟩ = some (.slice x.k.a x.k.n x.k.c) := hC q x hx 0 _ rfl
                        have e1 : wr.cell? ⟨g2, o2 + q * 3 + 1, none⟩ = some (.bool x.d) := hC q x hx 1 _ rfl
                        have e2 : wr.cell? ⟨g2, o2 + q * 3 + 2, none⟩ = some (.slice x.v.a x.v.n x.v.c) := hC q x hx 2 _ rfl
                        have HBx := hide (new_below wr (.cells #[.slice x.k.a x.k.n x.k.c, .bool x.d, .slice x.v.a x.v.n x.v.c] 71))
                        clear hx hC hxh
                        by_cases hb : (300 : Int) < x.k.n + x.v.n
                        · as_aux_lemma =>
                            go_wp2
                            refine bodyPost_ret (v := .bool false) (by simp [results, Tryz.results7, go_sem]) rfl ⟨false, rfl, by simp, HB.out.trans ((HBn.out.trans ((HW.out.trans (HBx.out.mono HW.out.size)).mono HBn.out.size)).mono HB.out.size)⟩
                        · as_aux_lemma =>
                            have HCN := hide (le300 hb)
                            go_wp2
                            go_roundg (wn - (q + 1))
                            case measure => exact msr6 hlq
                            case rel => exact ⟨q + 1, rfl, by go_num, hlq, all_upto HAi.out HXm.out HCN.out, HW.out.trans (HBx.out.mono HW.out.size)⟩
                      · obtain rfl : wn = q := by omega
                        have HL1 : Hid (∀ x ∈ ws, x.k.n + x.v.n ≤ 300) := all_whole HWs.out.1 rfl HAi.out
                        have q15 : wr.cell? ⟨wo.heap.size, 15, none⟩ = some (.slice ka kn kc) := (HQ0.out wr HW.out).c15
                        have HWp := hide HW.out
                        go_wp2
                        obtain ⟨wi, hwi⟩ : ∃ wi, wi = wr := ⟨_, rfl⟩
                        subst hwi
                        go_loopg [93] kn (fun gq iq wq => ∃ q : Nat, gq = kn - q ∧ iq = .int .i64 q ∧ q ≤ kn ∧ (∀ x ∈ (ks).take q, x.n ≤ 100) ∧ Below W2.heap.size W2 wq)
                        case atStart => exact ⟨0, rfl, rfl, Nat.zero_le _, by simp, HWp.out⟩
                        case round =>
                          obtain ⟨q, rfl, rfl, hq, hA, hW⟩ := hrel
                          have HAi := hide hA
                          have HW := hide hW
                          clear hA hW
                          by_cases hlq : q < kn
                          · have hlq' : (q : Int) < (kn : Int) := by omega
                            obtain ⟨x, hx⟩ := at_of (HKs.out).1 hlq
                            obtain ⟨g2, o2, rfl, hg2, hC⟩ := ((HKs.out).keep (HB.out.trans ((HBn.out.trans (HW.out.mono HBn.out.size)).mono HB.out.size))).at hlq
                            have HXm := hide hx
                            have e0 : wr.cell? ⟨g2, o2 + q, none⟩ = some (.slice x.a x.n x.c) := by simpa [layT] using hC q x hx 0 _ rfl
                            clear hx hC
                            by_cases hb : (100 : Int) < x.n
                            · as_aux_lemma =>
                                go_wp2
                                refine bodyPost_ret (v := .bool false) (by simp [results, Tryz.results7, go_sem]) rfl ⟨false, rfl, by simp, HB.out.trans ((HBn.out.trans (HW.out.mono HBn.out.size)).mono HB.out.size)⟩
                            · as_aux_lemma =>
                                have HCN := hide (le100 hb)
                                go_wp2
                                go_roundg (kn - (q + 1))
                                case measure => exact msr6 hlq
                                case rel => exact ⟨q + 1, rfl, by go_num, hlq, all_upto HAi.out HXm.out HCN.out, HW.out⟩
                          · obtain rfl : kn = q := by omega
                            have HL2 : Hid (∀ x ∈ ks, x.n ≤ 100) := all_whole HKs.out.1 rfl HAi.out
                            have q18 : wr.cell? ⟨wo.heap.size, 18, none⟩ = some (.slice ca cn cc) := (HQ0.out wr HW.out).c18
                            have HWp := hide HW.out
                            go_wp2
                            obtain ⟨wi2, hwi2⟩ : ∃ wi2, wi2 = wr := ⟨_, rfl⟩
                            subst hwi2
                            go_loopg [105] cn (fun gq iq wq => ∃ q : Nat, gq = cn - q ∧ iq = .int .i64 q ∧ q ≤ cn ∧ (∀ x ∈ (cs).take q, x.n.length ≤ 100) ∧ Below W2.heap.size W2 wq)
                            case atStart => exact ⟨0, rfl, rfl, Nat.zero_le _, by simp, HWp.out⟩
                            case round =>
                              obtain ⟨q, rfl, rfl, hq, hA, hW⟩ := hrel
                              have HAi := hide hA
                              have HW := hide hW
                              clear hA hW
                              by_cases hlq : q < cn
                              · have hlq' : (q : Int) < (cn : Int) := by omega
                                obtain ⟨x, hx⟩ := at_of (HCs.out).1 hlq
                                obtain ⟨g2, o2, rfl, hg2, hC⟩ := ((HCs.out).keep (HB.out.trans ((HBn.out.trans (HW.out.mono HBn.out.size)).mono HB.out.size))).at hlq
                                have HXm := hide hx
                                have hxs : ((strB x.n).size : Int) = x.n.length := by rw [strB_size]
                                have e0 : wr.cell? ⟨g2, o2 + q * 3, none⟩ = some (.string (strB x.n)) := hC q x hx 0 _ rfl
                                have e1 : wr.cell? ⟨g2, o2 + q * 3 + 1, none⟩ = some (.int .i64 x.k) := hC q x hx 1 _ rfl
                                have e2 : wr.cell? ⟨g2, o2 + q * 3 + 2, none⟩ = some (.bool x.nn) := hC q x hx 2 _ rfl
                                have HBx := hide (new_below wr (.cells #[.string (strB x.n), .int .i64 x.k, .bool x.nn] 73))
                                clear hx hC
                                by_cases hb : (100 : Int) < x.n.length
                                · as_aux_lemma =>
                                    go_wp2
                                    refine bodyPost_ret (v := .bool false) (by simp [results, Tryz.results7, go_sem]) rfl ⟨false, rfl, by simp, HB.out.trans ((HBn.out.trans ((HW.out.trans (HBx.out.mono HW.out.size)).mono HBn.out.size)).mono HB.out.size)⟩
                                · as_aux_lemma =>
                                    have HCN := hide (le100 hb)
                                    go_wp2
                                    go_roundg (cn - (q + 1))
                                    case measure => exact msr6 hlq
                                    case rel => exact ⟨q + 1, rfl, by go_num, hlq, all_upto HAi.out HXm.out HCN.out, HW.out.trans (HBx.out.mono HW.out.size)⟩
                              · obtain rfl : cn = q := by omega
                                have HL3 : Hid (∀ x ∈ cs, x.n.length ≤ 100) := all_whole HCs.out.1 rfl HAi.out
                                go_wp2
                                go_roundg (n - (k + 1))
                                case measure => exact msr6 hlt
                                case rel => exact ⟨k + 1, rfl, by go_num, hlt, all_upto HA.out HM.out ⟨HN1.out, HN2.out, HN3.out, HN4.out, HN5.out, HN6.out, HN7.out, HL1.out, HL2.out, HL3.out⟩, HB.out.trans ((HBn.out.trans (HW.out.mono HBn.out.size)).mono HB.out.size)⟩
    · as_aux_lemma =>
      obtain rfl : k = n := by omega
      have HL : Hid (∀ m ∈ ms, m.small) := all_whole HY.out.1 rfl HA.out
      by_cases h40 : (k : Int) ≤ 40
      · skip
        go_wp2
        go_ret
        exact ⟨true, rfl, fun _ => ⟨HL.out, by omega⟩, HB.out⟩
      · skip
        go_wp2
        go_ret
        exact ⟨false, rfl, by simp, HB.out⟩

end Go.Proofs.YtcgiicmmfleinaaGreatDoor
