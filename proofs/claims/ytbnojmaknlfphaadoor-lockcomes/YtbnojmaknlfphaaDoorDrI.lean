/- The law LockComes. -/
import Derived.Test.YtbnojmaknlfphaaDoorDrE

namespace Go.Proofs.YtbnojmaknlfphaaDoor
open Go.RowKit NumMath Go.ChangeShapes Go.WideShapes Go.Deep
set_option linter.unusedVariables false
set_option maxRecDepth 100000

/-- those of other transactions freed -/
def frS (tx : Int) (t : Tab) (d : MQ) : Tab := if d.m.l.tx = tx then t else (freeL t d.m.l.tx).1

def frT (tx : Int) (ds : List MQ) (k : Nat) (t : Tab) : Tab := (ds.take k).foldl (frS tx) t

theorem frT_more {tx : Int} {ds : List MQ} {k : Nat} {d : MQ} {t : Tab} (h : ds[k]? = some d) : frT tx ds (k + 1) t = if d.m.l.tx = tx then frT tx ds k t else (freeL (frT tx ds k t) d.m.l.tx).1 := by
  unfold frT
  rw [List.take_add_one, h, List.foldl_append]
  rfl

theorem TabD.weak {t : Tab} {D E : Int → Prop} {n m : Nat} (h : TabD t D n) (hE : ∀ y, D y → E y) (hn : n ≤ m) : TabD t E m := ⟨fun k hk => hE _ (h.h k hk), fun k hk => hE _ (h.w k hk), Nat.le_trans h.n hn⟩

theorem stT_D (ds : List MQ) : ∀ k, TabD (stT ds k) (fun y => ∃ d ∈ ds, d.m.l.tx = y) k := by
  intro k
  induction k with
  | zero => exact ⟨fun k hk => by simp [stT] at hk, fun k hk => by simp [stT] at hk, by simp [stT]⟩
  | succ k ih =>
    cases hd : ds[k]? with
    | none =>
      have e : stT ds (k + 1) = stT ds k := by
        unfold stT
        have hl := List.getElem?_eq_none_iff.1 hd
        rw [List.take_of_length_le (by omega), List.take_of_length_le hl]
      rw [e]
      exact ih.weak (fun y hy => hy) (by omega)
    | some d =>
      rw [stT_more hd]
      unfold runT
      split
      · exact (ih.free d.m.l.tx).weak (fun y hy => hy) (by omega)
      · exact ih.ask d.m.l ⟨d, List.mem_of_getElem? hd, rfl⟩

theorem asked_D {t : Tab} {ds : List MQ} {n : Nat} (h : TabD t (fun y => ∃ d ∈ ds, d.m.l.tx = y) n) (x : Lck) : TabD (askL t x).1 (fun y => y = x.tx ∨ ∃ d ∈ ds, d.m.l.tx = y) (n + 1) :=
  (h.weak (fun y hy => .inr hy) (Nat.le_refl _)).ask x (.inl rfl)

theorem frT_inv {tx : Int} {ds : List MQ} {D : Int → Prop} {n : Nat} {t : Tab} (hi : TabI t) (h : TabD t D n) {x : Lck} (hx : x ∈ t.wait) (e : x.tx = tx) : ∀ k, TabI (frT tx ds k t) ∧ TabD (frT tx ds k t) (fun y => D y ∧ ∀ d ∈ ds.take k, d.m.l.tx ≠ tx → y ≠ d.m.l.tx) n ∧ x ∈ (frT tx ds k t).wait := by
  intro k
  induction k with
  | zero => exact ⟨hi, h.weak (fun y hy => ⟨hy, fun d hd => by simp at hd⟩) (Nat.le_refl _), hx⟩
  | succ k ih =>
    obtain ⟨i1, i2, i3⟩ := ih
    cases hd : ds[k]? with
    | none =>
      have hl := List.getElem?_eq_none_iff.1 hd
      have e1 : ds.take (k + 1) = ds.take k := by rw [List.take_of_length_le (by omega), List.take_of_length_le hl]
      have e2 : frT tx ds (k + 1) t = frT tx ds k t := by unfold frT; rw [e1]
      rw [e2, e1]
      exact ⟨i1, i2, i3⟩
    | some d =>
      have e1 : ds.take (k + 1) = ds.take k ++ [d] := by rw [List.take_add_one, hd]; rfl
      rw [frT_more hd, e1]
      split
      · rename_i heq
        refine ⟨i1, i2.weak (fun y hy => ⟨hy.1, fun d2 h2 hne => ?_⟩) (Nat.le_refl _), i3⟩
        rcases List.mem_append.1 h2 with h2 | h2
        · exact hy.2 d2 h2 hne
        · rw [List.mem_singleton.1 h2] at hne; exact absurd heq hne
      · rename_i hneq
        refine ⟨i1.free _, (TabD.freed i1 i2 d.m.l.tx).weak (fun y hy => ⟨hy.1.1, fun d2 h2 hne => ?_⟩) (Nat.le_refl _), free_waits i3 (fun e2 => hneq (by rw [← e2, e]))⟩
        rcases List.mem_append.1 h2 with h2 | h2
        · exact hy.1.2 d2 h2 hne
        · rw [List.mem_singleton.1 h2]; exact hy.2

theorem comes_end {x : Lck} {ds : List MQ} {k n : Nat} {t : Tab} (hi : TabI (frT x.tx ds k t)) (h : TabD t (fun y => y = x.tx ∨ ∃ d ∈ ds, d.m.l.tx = y) n) (hx : x ∈ t.wait) (hk : ds.length ≤ k) (hn : n < 400) (ht : TabI t) : (askL (frT x.tx ds k t) x).2 = (true, 0) := by
  obtain ⟨i1, i2, i3⟩ := frT_inv (ds := ds) ht h hx rfl k
  have hall : ∀ y, (((y = x.tx ∨ ∃ d ∈ ds, d.m.l.tx = y)) ∧ ∀ d ∈ ds.take k, d.m.l.tx ≠ x.tx → y ≠ d.m.l.tx) → y = x.tx := by
    intro y hy
    rcases hy.1 with h1 | ⟨d, hd, e⟩
    · exact h1
    · by_cases e2 : d.m.l.tx = x.tx
      · rw [← e, e2]
      · exact absurd e.symm (hy.2 d (by rw [List.take_of_length_le hk]; exact hd) e2)
  exact comes_ok i1 (i2.weak (fun _ _ => trivial) (Nat.le_refl _)) hn x i3 (fun k hk => hall _ (i2.h k hk)) (fun k hk => hall _ (i2.w k hk))

set_option maxHeartbeats 8000000 in
theorem lcomes_any (a : Option Addr) (n c : Nat) (ds : List MQ) (x : ML) (w : World) (h : IsDeeds14 w a n c ds) (hx : x.handed w) (hF : FitW w) :
    Calls Tryd.prog 7 #[.slice a n c, .agg #[.int .u64 x.l.tx, .int .i64 x.l.lv, .int .i64 x.l.md, .slice x.la x.ln x.lc, .slice x.ha x.hn x.hc]] w fun e w' => e = .returned (.bool true) ∧ Below w.heap.size w w' := by
  obtain ⟨wb, hwb⟩ : ∃ W, W = w.alloc (.cells #[.int .u64 x.l.tx, .int .i64 x.l.lv, .int .i64 x.l.md, .slice x.la x.ln x.lc, .slice x.ha x.hn x.hc] 25) := ⟨_, rfl⟩
  have hnb : Below w.heap.size w wb := by rw [hwb]; exact new_below _ _
  have hsb : wb.heap.size = w.heap.size + 1 := by rw [hwb]; simp
  have HXb : Hid (At5 wb w.heap.size 0 x) := by show At5 _ _ _ _; rw [hwb]; exact at5_new w x
  have HAw := hide (awake14_any wb (hF.keep hnb))
  have H := hide (⟨h.1.keep hnb, fun d hd => ⟨(h.2 d hd).1.keep hnb, (h.2 d hd).2⟩⟩ : IsDeeds14 wb a n c ds)
  have HF := hide (hF.keep hnb)
  have HXo := hide (hx.1.keep hnb)
  have HXu := hide hx.2.1
  have HL := hide h.1.1
  have hm : (n : Int) ≤ 9223372036854775807 := by have := h.1.2.1; have := h.1.2.2.1; unfold maxLen at this; omega
  have q1 : (x.ln : Int) ≤ 281474976710656 := by have := hx.2.2.1; omega
  have q2 : (x.hn : Int) ≤ 281474976710656 := by have := hx.2.2.2; omega
  have HNb := hide hnb
  have HSb := hide hsb
  clear h hx hF hnb hsb
  go_enter Tryd.func7, Tryd.ntmps7
  go_upto_region 1 with fail
  rw [← hwb]
  clear hwb
  go_upto_region 3 with (first
    | (go_at_call 9; go_must (refine HAw.out.mono ?_); rintro e w1 ⟨rfl, hb1⟩; have HB1 := hide hb1; clear hb1))
  have HFw := hide (few14_any a n c ds w1 ⟨H.out.1.keep HB1.out, fun d hd => ⟨(H.out.2 d hd).1.keep HB1.out, (H.out.2 d hd).2⟩⟩)
  have HXV := hide (fun V (hV : Below wb.heap.size wb V) => (HXb.out.same (hV.block w.heap.size (by have := HSb.out; omega))).zero)
  cases hsm : (ds.all smallQ && decide (n ≤ 40)) with
  | false =>
    rw [hsm] at HFw
    clear hsm
    go_wp2_with (first
      | (go_at_call 16; go_must (refine HFw.out.mono ?_); rintro e w2 ⟨rfl, hb2⟩; have HB2 := hide hb2; clear hb2))
    go_ret
    exact ⟨rfl, HNb.out.trans ((HB1.out.trans (HB2.out.mono HB1.out.size)).mono (by have := HSb.out; omega))⟩
  | true =>
    rw [hsm] at HFw
    have HSmall := hide (small_at hsm)
    clear hsm
    by_cases hx1 : x.ln ≤ 20
    · have hx1I : ¬ (20 : Int) < (x.ln : Int) := by omega
      have hx1N : ¬ 20 < x.ln := by omega
      by_cases hx2 : x.hn ≤ 20
      · have hx2I : ¬ (20 : Int) < (x.hn : Int) := by omega
        have hx2N : ¬ 20 < x.hn := by omega
        go_upto_region 5 with (first
          | (go_at_call 16; go_must (refine HFw.out.mono ?_); rintro e w2 ⟨rfl, hb2⟩; have HB2 := hide hb2; obtain ⟨x0, x1, x2, x3, x4⟩ := HXV.out w2 (HB1.out.trans (hb2.mono HB1.out.size)); clear hb2))
        have HNb2 := hide (HB1.out.trans (HB2.out.mono HB1.out.size))
        have HN2 := hide (HNb.out.trans (HNb2.out.mono (by have := HSb.out; omega)))
        have HNw := hide (lnew w2 (HF.out.keep HNb2.out))
        have HY2 := hide (H.out.1.keep HNb2.out)
        have HG2 := hide (fun d hd => (⟨(H.out.2 d hd).1.keep HNb2.out, (H.out.2 d hd).2⟩ : ML.got d.m w2))
        have HXo2 := hide (HXo.out.keep HNb2.out)
        have HXV2 := hide (fun V (hV : Below w2.heap.size w2 V) => HXV.out V (HNb2.out.trans (hV.mono HNb2.out.size)))
        clear HAw HFw H HF x0 x1 x2 x3 x4 hx1I hx1N hx2I hx2N
        go_upto_region 6 with (first
          | (go_at_call 17; go_must (refine HNw.out.mono ?_); rintro e w3 ⟨rfl, hT3⟩; have HT3 : Hid (LawT w2 w3 w2.heap.size 0 (stT ds 0)) := hT3; clear hT3))
        go_wp2
        go_loopg [34] n (fun gk i wr => ∃ k : Nat, gk = n - k ∧ i = .int .i64 k ∧ k ≤ n ∧ LawT w2 wr w2.heap.size k (stT ds k))
        case atStart => exact ⟨0, rfl, rfl, Nat.zero_le _, HT3.out⟩
        case round =>
          obtain ⟨k, rfl, rfl, hk, hT⟩ := hrel
          have HT := hide hT
          have hB2r := hT.b
          have hsw := hB2r.size
          clear hT
          by_cases hlt : k < n
          · have hlt' : (k : Int) < (n : Int) := by omega
            obtain ⟨d, hdk⟩ := dq_at (ds := ds) (k := k) (by have := HL.out; omega)
            obtain ⟨g, off, rfl, hg, hC⟩ := HY2.out.at hlt
            obtain ⟨d0, d1, d2, d3, d4, d5⟩ := at6_list (hC.same (hB2r.block g hg)) hdk
            have hmem := List.mem_of_getElem? hdk
            have HDk := hide (HG2.out d hmem)
            have HSm := hide (HSmall.out.1 d hmem)
            have HBN := hide (new_below wr (.cells #[.bool d.fr, .int .u64 d.m.l.tx, .int .i64 d.m.l.lv, .int .i64 d.m.l.md, .slice d.m.la d.m.ln d.m.lc, .slice d.m.ha d.m.hn d.m.hc] 39))
            have HSt := hide (stT_more hdk)
            have h40 := HSmall.out.2
            clear hC hdk hB2r hmem
            by_cases hfr : d.fr = true
            · have HFr := hide hfr
              rw [hfr] at d0 HBN
              have HLf := hide (lfree (HT.out.keep HBN.out) d.m.l.tx)
              clear hfr
              go_wp2_with (first
                | (go_at_call 18; go_must (refine HLf.out.mono ?_); rintro e w5 ⟨rfl, hT5⟩; have HT5 : Hid (LawT w2 w5 w2.heap.size (k + 1) (stT ds (k + 1))) := (by show LawT _ _ _ _ _; rw [HSt.out]; unfold runT; rw [if_pos HFr.out]; exact hT5.mono (by omega)); clear hT5)
        )
              go_roundg (n - (k + 1))
              case measure => omega
              case rel => exact ⟨k + 1, rfl, by go_num, by omega, HT5.out⟩
            · have HFr := hide hfr
              have hfr' : d.fr = false := by simpa using hfr
              rw [hfr'] at d0 HBN
              have HLa := hide (lask (HT.out.keep HBN.out) d.m HDk.out.1 HDk.out.2 HSm.out.1 HSm.out.2 (by omega))
              clear hfr hfr'
              go_wp2_with (first
                | (go_at_call 20; go_must (refine HLa.out.mono ?_); rintro e w5 ⟨rfl, hT5⟩; have HT5 : Hid (LawT w2 w5 w2.heap.size (k + 1) (stT ds (k + 1))) := (by show LawT _ _ _ _ _; rw [HSt.out]; unfold runT; rw [if_neg HFr.out]; exact hT5); clear hT5)
        )
              go_roundg (n - (k + 1))
              case measure => omega
              case rel => exact ⟨k + 1, rfl, by go_num, by omega, HT5.out⟩
          · obtain rfl : k = n := by omega
            obtain ⟨x0, x1, x2, x3, x4⟩ := HXV2.out wr hB2r
            have hk40 : k ≤ 40 := HSmall.out.2
            obtain ⟨T, hT⟩ : ∃ T, T = stT ds k := ⟨_, rfl⟩
            have HTk : Hid (LawT w2 wr w2.heap.size k T) := by show LawT _ _ _ _ _; rw [hT]; exact HT.out
            have HTd : Hid (TabD T (fun y => ∃ d ∈ ds, d.m.l.tx = y) k) := by show TabD _ _ _; rw [hT]; exact stT_D ds k
            have HAsk := hide (lask HTk.out x HXo2.out HXu.out hx1 hx2 (by omega))
            have HHo := hide (ask_holds HTk.out.inv x.l)
            have HD1 := hide (asked_D HTd.out x.l)
            obtain ⟨r, hr⟩ : ∃ r, r = askL T x.l := ⟨_, rfl⟩
            rw [← hr] at HAsk HHo HD1
            obtain ⟨rt, rb, rc⟩ := r
            clear hB2r hr hT
            go_upto_region 14 with (first
              | (go_at_call 20; go_must (refine HAsk.out.mono ?_); rintro e w6 ⟨rfl, hT6⟩; have HT6 := hide hT6; clear hT6))
            have HN6 := hide (HN2.out.trans (HT6.out.b.mono HN2.out.size))
            cases rb with
            | true =>
              go_wp2
              go_ret
              exact ⟨rfl, HN6.out⟩
            | false =>
              by_cases hrc : rc = 0
              · have hrcb : (rc != 0) = false := by simp [hrc]
                have hxw : x.l ∈ rt.wait := by
                  rcases HHo.out with ⟨e1, -⟩ | ⟨e1, -, -⟩ | ⟨-, ⟨e2, -, -⟩ | ⟨-, -, e4⟩⟩
                  · exfalso; have e1 : rc = 1 := e1; omega
                  · exfalso; rcases e1 with e1 | e1
                    · have e1 : rc = 131 := e1; omega
                    · have e1 : rc = 132 := e1; omega
                  · cases e2
                  · exact e4
                have HXw := hide hxw
                have hb26 := HT6.out.b
                have HXV6 := hide (fun V (hV : Below w2.heap.size w2 V) => HXV2.out V hV)
                clear hrc hxw x0 x1 x2 x3 x4 hb26
                go_wp2
                go_loopg [63] k (fun gk i wr => ∃ q : Nat, gk = k - q ∧ i = .int .i64 q ∧ q ≤ k ∧ LawT w2 wr w2.heap.size (k + 1) (frT x.l.tx ds q rt))
                case atStart => exact ⟨0, rfl, rfl, Nat.zero_le _, HT6.out⟩
                case round =>
                  obtain ⟨q, rfl, rfl, hq, hTq⟩ := hrel
                  have HTq := hide hTq
                  have hB2r := hTq.b
                  clear hTq
                  by_cases hql : q < k
                  · have hql' : (q : Int) < (k : Int) := by omega
                    obtain ⟨d, hdk⟩ := dq_at (ds := ds) (k := q) (by have := HL.out; omega)
                    obtain ⟨g, off, rfl, hg, hC⟩ := HY2.out.at hql
                    obtain ⟨d0, d1, d2, d3, d4, d5⟩ := at6_list (hC.same (hB2r.block g hg)) hdk
                    have HBN := hide (new_below wr (.cells #[.bool d.fr, .int .u64 d.m.l.tx, .int .i64 d.m.l.lv, .int .i64 d.m.l.md, .slice d.m.la d.m.ln d.m.lc, .slice d.m.ha d.m.hn d.m.hc] 39))
                    have HSt := hide (frT_more (tx := x.l.tx) (t := rt) hdk)
                    obtain ⟨x0, x1, x2, x3, x4⟩ := HXV6.out _ (hB2r.trans (HBN.out.mono hB2r.size))
                    have HLf := hide (lfree (HTq.out.keep HBN.out) d.m.l.tx)
                    clear hC hdk hB2r
                    by_cases hne : d.m.l.tx = x.l.tx
                    · have hneb : (d.m.l.tx != x.l.tx) = false := by simp [hne]
                      rw [if_pos hne] at HSt
                      clear hne
                      go_wp2
                      go_roundg (k - (q + 1))
                      case measure => omega
                      case rel => exact ⟨q + 1, rfl, by go_num, by omega, by rw [HSt.out]; exact HTq.out.keep HBN.out⟩
                    · have hneb : (d.m.l.tx != x.l.tx) = true := by simp [hne]
                      rw [if_neg hne] at HSt
                      clear hne
                      go_wp2_with (first
                        | (go_at_call 18; go_must (refine HLf.out.mono ?_); rintro e w7 ⟨rfl, hT7⟩; have HT7 := hide hT7; clear hT7))
                      go_roundg (k - (q + 1))
                      case measure => omega
                      case rel => exact ⟨q + 1, rfl, by go_num, by omega, by rw [HSt.out]; exact HT7.out⟩
                  · obtain rfl : q = k := by omega
                    obtain ⟨x0, x1, x2, x3, x4⟩ := HXV6.out wr hB2r
                    have HCo := hide (comes_end (n := q + 1) HTq.out.inv HD1.out HXw.out (show ds.length ≤ q by have := HL.out; omega) (by omega) HT6.out.inv)
                    have HAs2 := hide (lask HTq.out x HXo2.out HXu.out hx1 hx2 (by omega))
                    rw [HCo.out] at HAs2
                    clear hB2r
                    go_wp2_with (first
                      | (go_at_call 20; go_must (refine HAs2.out.mono ?_); rintro e w8 ⟨rfl, hT8⟩; have HT8 := hide hT8; clear hT8))
                    go_ret
                    exact ⟨rfl, HN2.out.trans (HT8.out.b.mono HN2.out.size)⟩
              · have hrcb : (rc != 0) = true := by simp [hrc]
                clear hrc
                go_wp2
                go_ret
                exact ⟨rfl, HN6.out⟩
      · have hx2I : (20 : Int) < (x.hn : Int) := by omega
        have hx2N : 20 < x.hn := by omega
        clear hx1 hx2
        go_wp2_with (first
          | (go_at_call 16; go_must (refine HFw.out.mono ?_); rintro e w2 ⟨rfl, hb2⟩; have HB2 := hide hb2; obtain ⟨x0, x1, x2, x3, x4⟩ := HXV.out w2 (HB1.out.trans (hb2.mono HB1.out.size)); clear hb2))
        go_ret
        exact ⟨rfl, HNb.out.trans ((HB1.out.trans (HB2.out.mono HB1.out.size)).mono (by have := HSb.out; omega))⟩
    · have hx1I : (20 : Int) < (x.ln : Int) := by omega
      have hx1N : 20 < x.ln := by omega
      clear hx1
      go_wp2_with (first
        | (go_at_call 16; go_must (refine HFw.out.mono ?_); rintro e w2 ⟨rfl, hb2⟩; have HB2 := hide hb2; obtain ⟨x0, x1, x2, x3, x4⟩ := HXV.out w2 (HB1.out.trans (hb2.mono HB1.out.size)); clear hb2))
      go_ret
      exact ⟨rfl, HNb.out.trans ((HB1.out.trans (HB2.out.mono HB1.out.size)).mono (by have := HSb.out; omega))⟩

end Go.Proofs.YtbnojmaknlfphaaDoor
