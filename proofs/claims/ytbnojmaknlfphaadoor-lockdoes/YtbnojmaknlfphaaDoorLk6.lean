/- The reference's against and way: what they answer. -/
import Derived.Test.YtbnojmaknlfphaaDoorLk5
namespace Go.Proofs.YtbnojmaknlfphaaDoor
open Go.RowKit NumMath Go.ChangeShapes Go.WideShapes Go.Deep
set_option linter.unusedVariables false
set_option maxRecDepth 100000

/-- the five cells of a lock that lies at o of block g -/
structure At5 (w : World) (g o : Nat) (m : ML) : Prop where
  c0 : w.cell? ⟨g, o, none⟩ = some (.int .u64 m.l.tx)
  c1 : w.cell? ⟨g, o + 1, none⟩ = some (.int .i64 m.l.lv)
  c2 : w.cell? ⟨g, o + 2, none⟩ = some (.int .i64 m.l.md)
  c3 : w.cell? ⟨g, o + 3, none⟩ = some (.slice m.la m.ln m.lc)
  c4 : w.cell? ⟨g, o + 4, none⟩ = some (.slice m.ha m.hn m.hc)

theorem at5_of {w : World} {g o : Nat} {m : ML} (h : w.rangeAt g o #[.int .u64 m.l.tx, .int .i64 m.l.lv, .int .i64 m.l.md, .slice m.la m.ln m.lc, .slice m.ha m.hn m.hc].toList) : At5 w g o m := ⟨h 0 _ rfl, h 1 _ rfl, h 2 _ rfl, h 3 _ rfl, h 4 _ rfl⟩

theorem At5.same {w w' : World} {g o : Nat} {m : ML} (h : At5 w g o m) (e : w'.heap[g]? = w.heap[g]?) : At5 w' g o m :=
  ⟨(World.cell?_of_block (a := ⟨g, o, none⟩) e).trans h.c0, (World.cell?_of_block (a := ⟨g, o + 1, none⟩) e).trans h.c1, (World.cell?_of_block (a := ⟨g, o + 2, none⟩) e).trans h.c2, (World.cell?_of_block (a := ⟨g, o + 3, none⟩) e).trans h.c3, (World.cell?_of_block (a := ⟨g, o + 4, none⟩) e).trans h.c4⟩

theorem at5_new (w : World) (m : ML) : At5 (w.alloc (.cells #[.int .u64 m.l.tx, .int .i64 m.l.lv, .int .i64 m.l.md, .slice m.la m.ln m.lc, .slice m.ha m.hn m.hc] 25)) w.heap.size 0 m := at5_of (rangeY_new w w.heap.size #[.int .u64 m.l.tx, .int .i64 m.l.lv, .int .i64 m.l.md, .slice m.la m.ln m.lc, .slice m.ha m.hn m.hc] 25 rfl)

theorem At5.zero {w : World} {g : Nat} {m : ML} (h : At5 w g 0 m) : w.cell? ⟨g, 0, none⟩ = some (.int .u64 m.l.tx) ∧ w.cell? ⟨g, 1, none⟩ = some (.int .i64 m.l.lv) ∧ w.cell? ⟨g, 2, none⟩ = some (.int .i64 m.l.md) ∧ w.cell? ⟨g, 3, none⟩ = some (.slice m.la m.ln m.lc) ∧ w.cell? ⟨g, 4, none⟩ = some (.slice m.ha m.hn m.hc) :=
  ⟨h.c0, by simpa using h.c1, by simpa using h.c2, by simpa using h.c3, by simpa using h.c4⟩

theorem filter_more {α : Type} (p : α → Bool) {l : List α} {k : Nat} {x : α} (h : l[k]? = some x) : (l.take (k + 1)).filter p = (l.take k).filter p ++ (if p x = true then [x] else []) := by
  rw [List.take_add_one, h, List.filter_append]
  cases hp : p x <;> simp [hp]

theorem ml_at {hs : List ML} {k : Nat} (h : k < hs.length) : ∃ m, hs[k]? = some m := ⟨_, List.getElem?_eq_getElem h⟩

set_option maxHeartbeats 4000000 in
theorem against_any (a : Option Addr) (n c : Nat) (hs : List ML) (x : ML) (w : World) (h : IsY layK w a n c hs) (ho : ∀ m ∈ hs, m.ok w) (hx : x.ok w) (hn : n ≤ 100000) :
    Calls Tryd.prog 61 #[.slice a n c, .agg #[.int .u64 x.l.tx, .int .i64 x.l.lv, .int .i64 x.l.md, .slice x.la x.ln x.lc, .slice x.ha x.hn x.hc]] w fun e w' => ∃ v, e = .returned v ∧ OwnY layK w' w.heap.size v (hs.filter (fun m => standsL x.l m.l)) ∧ Below w.heap.size w w' := by
  have H := hide h
  have HL := hide h.1
  have HO := hide ho
  have HX := hide hx
  have hm : (c : Int) ≤ 9223372036854775807 := by have := h.2.2.1; unfold maxLen at this; omega
  have hnc := h.2.1
  have HX0 := hide (at5_new w x)
  clear h ho hx
  go_enter Tryd.func61, Tryd.ntmps61
  go_wp2
  obtain ⟨w1, hw1⟩ : ∃ w1, w1 = w.alloc (.cells #[.int .u64 x.l.tx, .int .i64 x.l.lv, .int .i64 x.l.md, .slice x.la x.ln x.lc, .slice x.ha x.hn x.hc] 25) := ⟨_, rfl⟩
  rw [← hw1]
  have hb1 : Below w.heap.size w w1 := by rw [hw1]; exact new_below _ _
  have hs1 : w1.heap.size = w.heap.size + 1 := by rw [hw1]; simp
  have HX1 : Hid (At5 w1 w.heap.size 0 x) := by rw [hw1]; exact HX0.out
  have HB1 := hide hb1
  clear HX0 hw1 hb1
  go_loopg [5, 10] n (fun gk v i wr => ∃ k : Nat, gk = n - k ∧ i = .int .i64 k ∧ k ≤ n ∧ OwnY layK wr w1.heap.size v ((hs.take k).filter (fun m => standsL x.l m.l)) ∧ Below w1.heap.size w1 wr)
  case atStart => exact ⟨0, rfl, rfl, Nat.zero_le _, ownY_nil _ _, Below.refl _ _⟩
  case round =>
    obtain ⟨k, rfl, rfl, hk, hO, hB⟩ := hrel
    obtain ⟨va, vn, vc, rfl⟩ := hO.any3
    have hvl := hO.len.1
    have HOw := hide hO
    have HB := hide hB
    clear hO
    by_cases hlt : k < n
    · have hlt' : (k : Int) < (n : Int) := by omega
      obtain ⟨m, hmk⟩ := ml_at (hs := hs) (k := k) (by have := HL.out; omega)
      obtain ⟨g, off, rfl, hg, hC⟩ := H.out.at hlt
      have hbw := HB1.out.trans (hB.mono (by omega))
      have d := at5_of (rangeY_same (hC k m hmk) (hbw.block g hg))
      obtain ⟨d0, d1, d2, d3, d4⟩ := d
      have d0 : wr.cell? ⟨g, off + k * 5, none⟩ = some (.int .u64 m.l.tx) := d0
      have d1 : wr.cell? ⟨g, off + k * 5 + 1, none⟩ = some (.int .i64 m.l.lv) := d1
      have d2 : wr.cell? ⟨g, off + k * 5 + 2, none⟩ = some (.int .i64 m.l.md) := d2
      have d3 : wr.cell? ⟨g, off + k * 5 + 3, none⟩ = some (.slice m.la m.ln m.lc) := d3
      have d4 : wr.cell? ⟨g, off + k * 5 + 4, none⟩ = some (.slice m.ha m.hn m.hc) := d4
      have hbN := new_below wr (.cells #[.int .u64 m.l.tx, .int .i64 m.l.lv, .int .i64 m.l.md, .slice m.la m.ln m.lc, .slice m.ha m.hn m.hc] 25)
      have hsw := hB.size
      have HMok := hide ((HO.out m (List.mem_of_getElem? hmk)).keep (hbw.trans (hbN.mono (by omega))))
      have HXok := hide (HX.out.keep (hbw.trans (hbN.mono (by omega))))
      have HBx : Hid (∀ V, Below (wr.heap.size + 1) (wr.alloc (.cells #[.int .u64 m.l.tx, .int .i64 m.l.lv, .int .i64 m.l.md, .slice m.la m.ln m.lc, .slice m.ha m.hn m.hc] 25)) V → At5 V wr.heap.size 0 m ∧ At5 V w.heap.size 0 x) := fun V hV => ⟨(at5_new wr m).same (hV.block _ (by omega)), HX1.out.same ((hV.block _ (by omega)).trans ((hbN.block _ (by omega)).trans (hB.block _ (by omega))))⟩
      obtain ⟨x0, x1, x2, x3, x4⟩ := (HBx.out _ (Below.refl _ _)).2.zero
      have HFm := hide (filter_more (fun m => standsL x.l m.l) hmk)
      have HBN := hide hbN
      clear hC hmk hB hbw hbN
      have HAp := hide (apart_any m x _ HMok.out HXok.out)
      cases hap : apartL m.l x.l with
      | true =>
        rw [hap] at HAp
        have HF2 : Hid ((hs.take (k + 1)).filter (fun m => standsL x.l m.l) = (hs.take k).filter (fun m => standsL x.l m.l)) := by
          show _ = _
          rw [HFm.out]
          have : standsL x.l m.l = false := by unfold standsL; rw [hap]; rfl
          simp [this]
        clear hap
        go_wp2_with (first
          | (go_at_call 13; go_must (refine HAp.out.mono ?_); rintro e w2 ⟨rfl, hb2⟩; have HB2 := hide hb2; clear hb2))
        go_roundg (n - (k + 1))
        case measure => omega
        case rel =>
          have hbb := HBN.out.trans (HB2.out.mono (by simp))
          exact ⟨k + 1, rfl, by go_num, by omega, by rw [HF2.out]; exact HOw.out.keep hbb, HB.out.trans (hbb.mono hsw)⟩
      | false =>
        rw [hap] at HAp
        obtain ⟨zf, hzf⟩ : ∃ z, fitsL m.l.md x.l.md = z := ⟨_, rfl⟩
        have HFt := fun W => hide (fits_any m.l.md x.l.md W)
        rw [hzf] at HFt
        have HSt : Hid (standsL x.l m.l = !zf) := by show _ = _; unfold standsL; rw [hap, hzf]; rfl
        clear hap hzf
        cases zf with
        | true =>
          have HF2 : Hid ((hs.take (k + 1)).filter (fun m => standsL x.l m.l) = (hs.take k).filter (fun m => standsL x.l m.l)) := by
            show _ = _
            rw [HFm.out, HSt.out]; simp
          go_wp2_with (first
            | (go_at_call 11; go_must (refine (HFt _).out.mono ?_); rintro e w3 ⟨rfl, hw⟩; have hw := hw.symm; subst hw)
            | (go_at_call 13; go_must (refine HAp.out.mono ?_); rintro e w2 ⟨rfl, hb2⟩; have HB2 := hide hb2; obtain ⟨y0, y1, y2, y3, y4⟩ := (HBx.out w2 (hb2.mono (by simp))).1.zero; obtain ⟨z0, z1, z2, z3, z4⟩ := (HBx.out w2 (hb2.mono (by simp))).2.zero; clear hb2))
          go_roundg (n - (k + 1))
          case measure => omega
          case rel =>
            have hbb := HBN.out.trans (HB2.out.mono (by simp))
            exact ⟨k + 1, rfl, by go_num, by omega, by rw [HF2.out]; exact HOw.out.keep hbb, HB.out.trans (hbb.mono hsw)⟩
        | false =>
          have HF2 : Hid ((hs.take (k + 1)).filter (fun m => standsL x.l m.l) = (hs.take k).filter (fun m => standsL x.l m.l) ++ [m]) := by
            show _ = _
            rw [HFm.out, HSt.out]; simp
          have HBig : Hid (((hs.take k).filter (fun m => standsL x.l m.l)).length + [m].length ≤ 1000000000) := by
            show _ ≤ _
            have := List.length_filter_le (fun m : ML => standsL x.l m.l) (hs.take k)
            rw [List.length_take] at this
            simp only [List.length_singleton]; omega
          go_wp2_with (first
            | (at_builtin; go_must (refine wp_joinY layK _ rfl (.tmp 26) (.tmp 28) rfl w1.heap.size _ ((hs.take k).filter (fun m => standsL x.l m.l)) rfl HO4.out (some ⟨w2.heap.size, 0, none⟩) 1 1 [m] rfl HS4.out HBig.out (by simp; omega) ?_); intro v5 w5 hown5 hg5 hat5; have HO5 := hide hown5; have HB5 := hide (HO4.out.grown hg5 (by simp; omega)); obtain ⟨xa, xn, xc, rfl⟩ := hown5.any3; clear hown5 hg5 hat5)
            | (go_at_call 11; go_must (refine (HFt _).out.mono ?_); rintro e w3 ⟨rfl, hw⟩; have hw := hw.symm; subst hw)
            | (go_at_call 13; go_must (refine HAp.out.mono ?_); rintro e w2 ⟨rfl, hb2⟩; have HB2 := hide hb2; obtain ⟨y0, y1, y2, y3, y4⟩ := (HBx.out w2 (hb2.mono (by simp))).1.zero; obtain ⟨z0, z1, z2, z3, z4⟩ := (HBx.out w2 (hb2.mono (by simp))).2.zero; have hs2 := hb2.size; simp only [World.size_alloc] at hs2; have HO4 := hide ((HOw.out.keep (HBN.out.trans (hb2.mono (by simp)))).keep (new_below w2 (.cells #[.int .u64 m.l.tx, .int .i64 m.l.lv, .int .i64 m.l.md, .slice m.la m.ln m.lc, .slice m.ha m.hn m.hc] 25))); have HS4 := hide (ownY_one (L := layK) w2 0 #[.int .u64 m.l.tx, .int .i64 m.l.lv, .int .i64 m.l.md, .slice m.la m.ln m.lc, .slice m.ha m.hn m.hc] m (Nat.zero_le _) rfl).is.src; clear hb2))
          go_roundg (n - (k + 1))
          case measure => omega
          case rel =>
            have hbb := (HBN.out.trans (HB2.out.mono (by simp))).trans ((new_below w2 (.cells #[.int .u64 m.l.tx, .int .i64 m.l.lv, .int .i64 m.l.md, .slice m.la m.ln m.lc, .slice m.ha m.hn m.hc] 25)).mono (by omega))
            exact ⟨k + 1, rfl, by go_num, by omega, by rw [HF2.out]; exact HO5.out, (HB.out.trans (hbb.mono hsw)).trans HB5.out⟩
    · obtain rfl : k = n := by omega
      have ek : hs.take k = hs := List.take_of_length_le (by have := HL.out; omega)
      rw [ek] at HOw
      clear hB
      go_wp2
      go_ret
      exact ⟨_, rfl, HOw.out.mono (by omega), HB1.out.trans (HB.out.mono (by omega))⟩

end Go.Proofs.YtbnojmaknlfphaaDoor
