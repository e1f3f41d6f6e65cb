/- MeshDoes: the program's mesh beside the document's. -/
import Derived.Test.YtodmieehdleohaaMp3
import Derived.Test.YtodmieehdleohaaMsP
import Derived.Test.YtodmieehdleohaaSmE
import Derived.Deep.CutRange
namespace Go.Proofs.Ytodmieehdleohaa
open Go.RowKit NumMath Go.ChangeShapes Go.WideShapes Go.Deep
set_option linter.unusedVariables false
set_option maxRecDepth 100000

theorem infoD : (Try.prog.info? 41).map (·.size) = some 15 := by kernel_rfl

theorem deed_one (p : Deed10) : ∀ u ∈ p.vals, u.oneCell' = true := by
  intro u hu
  rcases List.mem_cons.1 hu with rfl | h
  · rfl
  · exact vals_one _ _ h

theorem wp_loadD {ops : Array Oper} {rest : List Oper} {o : Oper} {a : Act} {Q : Exit → Act → World → Prop} (w : World) (hgd : o.guard = none) (x : Operand) (ho : o.op = .load 41 x) (g f : Nat) (pk : Int) (pm : MMsg) (hx : a.eval x = .pointer (some ⟨g, f, none⟩)) (hc : w.rangeAt g f (Deed10.mk pk pm).vals)
    (h : wpList Try.prog ops Q rest (a.put o.dst (.agg #[.int .i64 pk, .int .i64 pm.k, .int .u64 pm.fr, .int .u64 pm.tt, .int .u64 pm.tm, .int .u64 pm.ix, .int .u64 pm.lt, .int .u64 pm.cm, .int .u64 pm.hn, .bool pm.rj, .slice pm.ea pm.en pm.ec, .int .u64 pm.si, .int .u64 pm.st, .slice pm.ma pm.mn pm.mc, .slice pm.sa pm.sn pm.sc])) w) : wpList Try.prog ops Q (o :: rest) a w := by
  refine wpList_plain hgd fun K hK => ?_
  have hr := run_loadAt_mid (P := Try.prog) w g f 41 (Deed10.mk pk pm).vals _ hc Try.underlying41 rfl (by rw [deed_len]; exact infoD)
  unfold Oper.wp execOp
  simp only [ho, hx, Sem.run_bind, hr, Sem.run_pure, Result.andThen_ok]
  exact hK _ _ h

theorem wp_storeD {ops : Array Oper} {rest : List Oper} {o : Oper} {a : Act} {Q : Exit → Act → World → Prop} (w : World) (hgd : o.guard = none) (x y : Operand) (ho : o.op = .store 41 x y) (g : Nat) (hg : w.heap.size = g) (pk : Int) (pm : MMsg) (hx : a.eval x = .pointer (some ⟨g, 0, none⟩)) (hy : a.eval y = .agg #[.int .i64 pk, .int .i64 pm.k, .int .u64 pm.fr, .int .u64 pm.tt, .int .u64 pm.tm, .int .u64 pm.ix, .int .u64 pm.lt, .int .u64 pm.cm, .int .u64 pm.hn, .bool pm.rj, .slice pm.ea pm.en pm.ec, .int .u64 pm.si, .int .u64 pm.st, .slice pm.ma pm.mn pm.mc, .slice pm.sa pm.sn pm.sc]) (W1 : World) (hW : W1 = w.alloc (.cells #[.int .i64 pk, .int .i64 pm.k, .int .u64 pm.fr, .int .u64 pm.tt, .int .u64 pm.tm, .int .u64 pm.ix, .int .u64 pm.lt, .int .u64 pm.cm, .int .u64 pm.hn, .bool pm.rj, .slice pm.ea pm.en pm.ec, .int .u64 pm.si, .int .u64 pm.st, .slice pm.ma pm.mn pm.mc, .slice pm.sa pm.sn pm.sc] 41))
    (h : wpList Try.prog ops Q rest (a.put o.dst undef) W1) : wpList Try.prog ops Q (o :: rest) a (w.alloc (.cells #[.int .i64 0, .int .i64 0, .int .u64 0, .int .u64 0, .int .u64 0, .int .u64 0, .int .u64 0, .int .u64 0, .int .u64 0, .bool false, .slice none 0 0, .int .u64 0, .int .u64 0, .slice none 0 0, .slice none 0 0] 41)) := by
  subst hg hW
  refine wpList_plain hgd fun K hK => ?_
  have hr := run_storeAt_new (P := Try.prog) w 41 #[.int .i64 0, .int .i64 0, .int .u64 0, .int .u64 0, .int .u64 0, .int .u64 0, .int .u64 0, .int .u64 0, .int .u64 0, .bool false, .slice none 0 0, .int .u64 0, .int .u64 0, .slice none 0 0, .slice none 0 0] #[.int .i64 pk, .int .i64 pm.k, .int .u64 pm.fr, .int .u64 pm.tt, .int .u64 pm.tm, .int .u64 pm.ix, .int .u64 pm.lt, .int .u64 pm.cm, .int .u64 pm.hn, .bool pm.rj, .slice pm.ea pm.en pm.ec, .int .u64 pm.si, .int .u64 pm.st, .slice pm.ma pm.mn pm.mc, .slice pm.sa pm.sn pm.sc] infoD rfl (all_oneCell_toArray (deed_one ⟨pk, pm⟩))
  unfold Oper.wp execOp
  simp only [ho, hx, hy, Sem.run_bind, hr, Sem.run_pure, Result.andThen_ok]
  exact hK _ _ h

/-- a message read whole, where its guard lets it -/
theorem wp_loadGw {ops : Array Oper} {rest : List Oper} {o : Oper} {a : Act} {Q : Exit → Act → World → Prop} (w : World) (hgd : Region.wanted o (yielded ops a.tmps) = true) (x : Operand) (ho : o.op = .load 39 x) (g f : Nat) (m : MMsg) (hx : a.eval x = .pointer (some ⟨g, f, none⟩)) (hc : CellG w g f m)
    (h : wpList Try.prog ops Q rest (a.put o.dst (.agg #[.int .i64 m.k, .int .u64 m.fr, .int .u64 m.tt, .int .u64 m.tm, .int .u64 m.ix, .int .u64 m.lt, .int .u64 m.cm, .int .u64 m.hn, .bool m.rj, .slice m.ea m.en m.ec, .int .u64 m.si, .int .u64 m.st, .slice m.ma m.mn m.mc, .slice m.sa m.sn m.sc])) w) : wpList Try.prog ops Q (o :: rest) a w := by
  refine BigFrame.wpList_want hgd fun K hK => ?_
  unfold Oper.wp execOp
  simp only [ho, hx, Sem.run_bind, run_loadG w g f m hc, Sem.run_pure, Result.andThen_ok]
  exact hK _ _ h

theorem deed_new (w W1 : World) (pk : Int) (pm : MMsg) (hW : W1 = w.alloc (.cells #[.int .i64 pk, .int .i64 pm.k, .int .u64 pm.fr, .int .u64 pm.tt, .int .u64 pm.tm, .int .u64 pm.ix, .int .u64 pm.lt, .int .u64 pm.cm, .int .u64 pm.hn, .bool pm.rj, .slice pm.ea pm.en pm.ec, .int .u64 pm.si, .int .u64 pm.st, .slice pm.ma pm.mn pm.mc, .slice pm.sa pm.sn pm.sc] 41)) : W1.rangeAt w.heap.size 0 (Deed10.mk pk pm).vals := by
  subst hW
  have hh : (w.alloc (.cells #[.int .i64 pk, .int .i64 pm.k, .int .u64 pm.fr, .int .u64 pm.tt, .int .u64 pm.tm, .int .u64 pm.ix, .int .u64 pm.lt, .int .u64 pm.cm, .int .u64 pm.hn, .bool pm.rj, .slice pm.ea pm.en pm.ec, .int .u64 pm.si, .int .u64 pm.st, .slice pm.ma pm.mn pm.mc, .slice pm.sa pm.sn pm.sc] 41)).heap[w.heap.size]? = some (.cells (Deed10.mk pk pm).vals.toArray 41) := (MapKept.heap_alloc w _).1
  intro j u hj
  unfold World.cell?
  rw [hh, Nat.zero_add]
  show (Deed10.mk pk pm).vals.toArray[j]? = _
  rw [List.getElem?_toArray, hj]

theorem deed_at {w : World} {g : Nat} {pk : Int} {pm : MMsg} (h : w.rangeAt g 0 (Deed10.mk pk pm).vals) : w.cell? ⟨g, 0, none⟩ = some (.int .i64 pk) ∧ w.cell? ⟨g, 2, none⟩ = some (.int .u64 pm.fr) ∧ w.cell? ⟨g, 3, none⟩ = some (.int .u64 pm.tt) ∧ w.cell? ⟨g, 10, none⟩ = some (.slice pm.ea pm.en pm.ec) ∧ w.cell? ⟨g, 11, none⟩ = some (.int .u64 pm.si) ∧ w.cell? ⟨g, 12, none⟩ = some (.int .u64 pm.st) ∧ w.cell? ⟨g, 13, none⟩ = some (.slice pm.ma pm.mn pm.mc) ∧ w.cell? ⟨g, 14, none⟩ = some (.slice pm.sa pm.sn pm.sc) := by
  have e : ∀ j u, (Deed10.mk pk pm).vals[j]? = some u → w.cell? ⟨g, j, none⟩ = some u := fun j u hj => by have := h j u hj; rwa [Nat.zero_add] at this
  exact ⟨e 0 _ rfl, e 2 _ rfl, e 3 _ rfl, e 10 _ rfl, e 11 _ rfl, e 12 _ rfl, e 13 _ rfl, e 14 _ rfl⟩

theorem range_same {w w' : World} {g o : Nat} {vs : List Value} (h : w.rangeAt g o vs) (e : w'.heap[g]? = w.heap[g]?) : w'.rangeAt g o vs := fun j u hj => (World.cell?_of_block (a := ⟨g, o + j, none⟩) e).trans (h j u hj)

theorem deed_msg {w : World} {g : Nat} {pk : Int} {pm : MMsg} (h : w.rangeAt g 0 (Deed10.mk pk pm).vals) : CellG w g 1 pm := fun j u hj => by
  have := h (j + 1) u hj
  have e : 0 + (j + 1) = 1 + j := by omega
  rw [e] at this
  exact this

theorem two_new (W w1 w2 : World) (B p : Nat) (cs : Nat → Value) (fa : Option Addr) (fl fc : Nat) (x0 : List (Int × Int)) (hB : W.heap.size ≤ B) (hw : Below W.heap.size W w1) (hB1 : B = w1.heap.size) (hm : IsMesh w2 B p 0 cs x0 (fun _ _ => false) (fun _ => [])) (hb : Below w1.heap.size w1 w2) (q : Nat) (hq : w2.heap.size = q) (ty : TypeId) :
    TwoN W (w2.alloc (.cells #[.slice fa fl fc, .int .i64 0, .int .i64 0, .slice none 0 0, .slice none 0 0] ty)) B p q fa fl fc x0 0 0 := by
  subst hq hB1
  have hk := new_below w2 (.cells #[.slice fa fl fc, .int .i64 0, .int .i64 0, .slice none 0 0, .slice none 0 0] ty)
  have hbs := hb.size
  have hh : (w2.alloc (.cells #[.slice fa fl fc, .int .i64 0, .int .i64 0, .slice none 0 0, .slice none 0 0] ty)).heap[w2.heap.size]? = some (.cells #[.slice fa fl fc, .int .i64 0, .int .i64 0, .slice none 0 0, .slice none 0 0] ty) := (MapKept.heap_alloc w2 _).1
  refine ⟨0, 0, 0, cs, .slice none 0 0, .slice none 0 0, [], [], _, _, ⟨⟨hB, by simp; omega, hm.keep hk, ⟨by simp, by simp, by simp, by simp, by simp, (fun i => by unfold World.frozen?; rw [hh]; simp), ⟨hbs, by simp⟩, seg_nil _ _, seg_nil _ _, (fun b h => by cases h), (fun b h => by cases h), (fun b h => by cases h)⟩, ?_, (fun i m _ _ h => by cases h), (fun y h => by cases h), ?_⟩, rel_new, fun a b _ _ => rfl, by omega, by omega, by omega, by simp, by simp⟩, rfl⟩
  · rintro j hj (h1 | h1 | h1)
    · have := (Spine.lt hm hj).2; omega
    · cases h1
    · cases h1
  · exact hw.trans ((hb.mono hw.size).trans (hk.mono (by have := hw.size; omega)))

theorem same_new (w6 : World) (y1 y2 : MMsg) (hpp : y1.pure = y2.pure) (ho1 : y1.okX (fun _ => False) w6) (ho2 : y2.okX (fun _ => False) w6) (ta tb tc : TypeId) (ga gb : Nat) (hga : w6.heap.size + 1 = ga) (hgb : w6.heap.size + 2 = gb) :
    Calls Try.prog 13 #[.slice (some ⟨ga, 0, none⟩) 1 1, .slice (some ⟨gb, 0, none⟩) 1 1] (((w6.alloc (.cells #[.int .i64 y2.k, .int .u64 y2.fr, .int .u64 y2.tt, .int .u64 y2.tm, .int .u64 y2.ix, .int .u64 y2.lt, .int .u64 y2.cm, .int .u64 y2.hn, .bool y2.rj, .slice y2.ea y2.en y2.ec, .int .u64 y2.si, .int .u64 y2.st, .slice y2.ma y2.mn y2.mc, .slice y2.sa y2.sn y2.sc] ta)).alloc (.cells #[.int .i64 y1.k, .int .u64 y1.fr, .int .u64 y1.tt, .int .u64 y1.tm, .int .u64 y1.ix, .int .u64 y1.lt, .int .u64 y1.cm, .int .u64 y1.hn, .bool y1.rj, .slice y1.ea y1.en y1.ec, .int .u64 y1.si, .int .u64 y1.st, .slice y1.ma y1.mn y1.mc, .slice y1.sa y1.sn y1.sc] tb)).alloc (.cells #[.int .i64 y2.k, .int .u64 y2.fr, .int .u64 y2.tt, .int .u64 y2.tm, .int .u64 y2.ix, .int .u64 y2.lt, .int .u64 y2.cm, .int .u64 y2.hn, .bool y2.rj, .slice y2.ea y2.en y2.ec, .int .u64 y2.si, .int .u64 y2.st, .slice y2.ma y2.mn y2.mc, .slice y2.sa y2.sn y2.sc] tc)) fun e w' => e = .returned (.bool true) ∧ Below w6.heap.size w6 w' := by
  subst hga hgb
  have hb : Below w6.heap.size w6 (((w6.alloc (.cells #[.int .i64 y2.k, .int .u64 y2.fr, .int .u64 y2.tt, .int .u64 y2.tm, .int .u64 y2.ix, .int .u64 y2.lt, .int .u64 y2.cm, .int .u64 y2.hn, .bool y2.rj, .slice y2.ea y2.en y2.ec, .int .u64 y2.si, .int .u64 y2.st, .slice y2.ma y2.mn y2.mc, .slice y2.sa y2.sn y2.sc] ta)).alloc (.cells #[.int .i64 y1.k, .int .u64 y1.fr, .int .u64 y1.tt, .int .u64 y1.tm, .int .u64 y1.ix, .int .u64 y1.lt, .int .u64 y1.cm, .int .u64 y1.hn, .bool y1.rj, .slice y1.ea y1.en y1.ec, .int .u64 y1.si, .int .u64 y1.st, .slice y1.ma y1.mn y1.mc, .slice y1.sa y1.sn y1.sc] tb)).alloc (.cells #[.int .i64 y2.k, .int .u64 y2.fr, .int .u64 y2.tt, .int .u64 y2.tm, .int .u64 y2.ix, .int .u64 y2.lt, .int .u64 y2.cm, .int .u64 y2.hn, .bool y2.rj, .slice y2.ea y2.en y2.ec, .int .u64 y2.si, .int .u64 y2.st, .slice y2.ma y2.mn y2.mc, .slice y2.sa y2.sn y2.sc] tc)) := belA (belA (new_below _ _) _) _
  have h1 := (boxG_new (w6.alloc (.cells #[.int .i64 y2.k, .int .u64 y2.fr, .int .u64 y2.tt, .int .u64 y2.tm, .int .u64 y2.ix, .int .u64 y2.lt, .int .u64 y2.cm, .int .u64 y2.hn, .bool y2.rj, .slice y2.ea y2.en y2.ec, .int .u64 y2.si, .int .u64 y2.st, .slice y2.ma y2.mn y2.mc, .slice y2.sa y2.sn y2.sc] ta)) y1 (w6.heap.size + 1) tb (by simp)).keep (new_below _ (.cells #[.int .i64 y2.k, .int .u64 y2.fr, .int .u64 y2.tt, .int .u64 y2.tm, .int .u64 y2.ix, .int .u64 y2.lt, .int .u64 y2.cm, .int .u64 y2.hn, .bool y2.rj, .slice y2.ea y2.en y2.ec, .int .u64 y2.si, .int .u64 y2.st, .slice y2.ma y2.mn y2.mc, .slice y2.sa y2.sn y2.sc] tc))
  have h2 := boxG_new ((w6.alloc (.cells #[.int .i64 y2.k, .int .u64 y2.fr, .int .u64 y2.tt, .int .u64 y2.tm, .int .u64 y2.ix, .int .u64 y2.lt, .int .u64 y2.cm, .int .u64 y2.hn, .bool y2.rj, .slice y2.ea y2.en y2.ec, .int .u64 y2.si, .int .u64 y2.st, .slice y2.ma y2.mn y2.mc, .slice y2.sa y2.sn y2.sc] ta)).alloc (.cells #[.int .i64 y1.k, .int .u64 y1.fr, .int .u64 y1.tt, .int .u64 y1.tm, .int .u64 y1.ix, .int .u64 y1.lt, .int .u64 y1.cm, .int .u64 y1.hn, .bool y1.rj, .slice y1.ea y1.en y1.ec, .int .u64 y1.si, .int .u64 y1.st, .slice y1.ma y1.mn y1.mc, .slice y1.sa y1.sn y1.sc] tb)) y2 (w6.heap.size + 2) tc (by simp)
  exact (same_any y1 y2 _ hpp (ho1.keep hb) (ho2.keep hb) _ _ h1.c h2.c h1.lt h2.lt).mono (fun e w' h => ⟨h.1, hb.trans (h.2.mono hb.size)⟩)

set_option maxHeartbeats 8000000 in
theorem mdoes_any (a0 : Option Addr) (len0 cap0 : Nat) (x0 : List (Int × Int)) (a1 : Option Addr) (len1 cap1 : Nat) (x1 : List Deed10) (w : World) (w0 : IsF w a0 len0 cap0 x0) (w1 : IsDeeds10 w a1 len1 cap1 x1) :
    Calls Try.prog 3 #[.slice a0 len0 cap0, .slice a1 len1 cap1] w fun e w' => e = .returned (.bool true) ∧ Below w.heap.size w w' := by
  have H0 := hide w0
  have H1 := hide w1
  have hm0 : (len0 : Int) ≤ 9223372036854775807 := by have := w0.2.1; have := w0.2.2.1; unfold maxLen at this; omega
  have hm1 : (len1 : Int) ≤ 9223372036854775807 := by have := w1.2.1; have := w1.2.2.1; unfold maxLen at this; omega
  clear w0 w1
  by_cases g0 : (30 : Int) < (len0 : Int)
  · go_enter Try.func3, Try.ntmps3
    go_wp2_with (first
      | (go_at_call 5; go_must (refine (awake10_any _).mono ?_); rintro e wa ⟨rfl, hba⟩))
    go_ret
    exact ⟨rfl, hba⟩
  by_cases g1 : (60 : Int) < (len1 : Int)
  · go_enter Try.func3, Try.ntmps3
    go_wp2_with (first
      | (go_at_call 5; go_must (refine (awake10_any _).mono ?_); rintro e wa ⟨rfl, hba⟩))
    go_ret
    exact ⟨rfl, hba⟩
  go_enter Try.func3, Try.ntmps3
  go_wp2_with (first
    | (go_at_call 5; go_must (refine (awake10_any _).mono ?_); rintro e wa ⟨rfl, hba⟩; have HA := hide hba; clear hba)
    | (go_at_call 6; go_must (refine (newM_any a0 len0 cap0 x0 _ (H0.out.keep HA.out) (by omega)).mono ?_); rintro e wn ⟨p, cs, rfl, hmn, hbn⟩; have HT := hide (two_new w wa wn wa.heap.size p cs a0 len0 cap0 x0 HA.out.size HA.out rfl hmn hbn _ rfl 31); clear hmn hbn))
  go_loopw [30] (fun i wr => ∃ (k l : Nat), k ≤ len1 ∧ i = .int .i64 k ∧ TwoN w wr wa.heap.size p wn.heap.size a0 len0 cap0 x0 k l) (fun i _ => len1 - (intOf i).toNat)
  case atStart => exact ⟨0, 0, Nat.zero_le _, rfl, HT.out⟩
  case round =>
    clear HT
    obtain ⟨k, l, hk, rfl, hT⟩ := hrel
    have HT := hide hT
    have HB := hide hT.bel
    clear hT
    generalize wn.heap.size = q at *
    by_cases hlt : k < len1
    · obtain ⟨g, off, e1, hg, hc⟩ : ∃ g off, a1 = some ⟨g, off, none⟩ ∧ g < w.heap.size ∧ w.rangeAt g (off + k * 15) (x1.getD k deed0).vals := by
        rcases H1.out.2.2.2.2 with h | ⟨g, off, e, hg, h⟩
        · omega
        · exact ⟨g, off, e, hg, h k hlt⟩
      subst e1
      have hpok := H1.out.2.2.2.1 (x1.getD k deed0) (by have := H1.out.1; have hx : k < x1.length := (by omega); simp [List.getD, List.getElem?_eq_getElem hx])
      have hcw := range_same hc (HB.out.block g hg)
      clear hc
      generalize x1.getD k deed0 = pt at *
      obtain ⟨pk, pm⟩ := pt
      obtain ⟨hpk, hpm⟩ := hpok
      have HC := hide hcw
      have HPm := hide hpm
      obtain ⟨W1, hW1⟩ : ∃ W1, W1 = wr.alloc (.cells #[.int .i64 pk, .int .i64 pm.k, .int .u64 pm.fr, .int .u64 pm.tt, .int .u64 pm.tm, .int .u64 pm.ix, .int .u64 pm.lt, .int .u64 pm.cm, .int .u64 pm.hn, .bool pm.rj, .slice pm.ea pm.en pm.ec, .int .u64 pm.si, .int .u64 pm.st, .slice pm.ma pm.mn pm.mc, .slice pm.sa pm.sn pm.sc] 41) := ⟨_, rfl⟩
      have HD1 := hide (deed_new wr W1 pk pm hW1)
      have HB1 : Hid (Below wr.heap.size wr W1) := by show Below _ _ _; rw [hW1]; exact new_below _ _
      have hg1 : wr.heap.size < W1.heap.size := by rw [hW1]; simp
      obtain ⟨c0, c2, c3, c10, c11, c12, c13, c14⟩ := deed_at HD1.out
      have HBw := hide (HB.out.trans (HB1.out.mono HB.out.size))
      have HEs := hide (hpm.es.keep HBw.out)
      have hk60 : k ≤ 60 := by omega
      dsimp only at hpk
      clear hpm hcw
      subst hW1
      by_cases gM : ¬ SmallM pm.en pm.es
      · go_wp2_with (first
          | (refine wp_loadD _ rfl (.tmp 32) rfl g (off + k * 15) _ pm rfl HC.out ?_)
          | (refine wp_storeD wr rfl (.tmp 8) (.tmp 33) rfl wr.heap.size rfl _ pm rfl rfl _ rfl ?_)
          | (go_at_call 7; go_must (refine (small_no _ pm.ea pm.en pm.ec pm.es _ HEs.out gM).mono ?_); rintro e ws ⟨rfl, hbs⟩))
        go_ret
        exact ⟨rfl, HBw.out.trans (hbs.mono HBw.out.size)⟩
      have HSm := hide (Classical.not_not.1 gM)
      clear gM
      by_cases gS : ¬ ((pm.mn : Int) ≤ 9 ∧ (pm.sn : Int) ≤ 200)
      · go_wp2_with (first
          | (refine wp_loadD _ rfl (.tmp 32) rfl g (off + k * 15) _ pm rfl HC.out ?_)
          | (refine wp_storeD wr rfl (.tmp 8) (.tmp 33) rfl wr.heap.size rfl _ pm rfl rfl _ rfl ?_)
          | (go_at_call 7; go_must (refine (small_yes _ pm.ea pm.en pm.ec pm.es _ HEs.out HSm.out).mono ?_); rintro e ws ⟨rfl, hbs⟩; have HBs := hide ((HB1.out.trans (hbs.mono HB1.out.size))); have HDs := hide (range_same HD1.out (hbs.block wr.heap.size hg1)); obtain ⟨s0, s2, s3, s10, s11, s12, s13, s14⟩ := deed_at HDs.out; have hgs := Nat.lt_of_lt_of_le hg1 hbs.size; clear hbs)
          | (go_at_call 8; go_must (refine (smallS_no pm.si pm.st pm.ma pm.mn pm.mc pm.sa pm.sn pm.sc _ gS).mono ?_); rintro e wt ⟨rfl, hbt⟩))
        go_ret
        exact ⟨rfl, HB.out.trans ((HBs.out.trans (hbt.mono HBs.out.size)).mono HB.out.size)⟩
      have gS := Classical.not_not.1 gS
      have HSl : Hid pm.small := ⟨by have := HSm.out.1; omega, fun e he => by have := HSm.out.2 e he; omega, by omega, by omega⟩
      by_cases h0 : pk = 0
      · subst h0
        go_wp2_with (first
          | (refine wp_loadD _ rfl (.tmp 32) rfl g (off + k * 15) _ pm rfl HC.out ?_)
          | (refine wp_storeD wr rfl (.tmp 8) (.tmp 33) rfl wr.heap.size rfl _ pm rfl rfl _ rfl ?_)
          | (go_at_call 7; go_must (refine (small_yes _ pm.ea pm.en pm.ec pm.es _ HEs.out HSm.out).mono ?_); rintro e ws ⟨rfl, hbs⟩; have HBs := hide ((HB1.out.trans (hbs.mono HB1.out.size))); have HDs := hide (range_same HD1.out (hbs.block wr.heap.size hg1)); obtain ⟨s0, s2, s3, s10, s11, s12, s13, s14⟩ := deed_at HDs.out; have hgs := Nat.lt_of_lt_of_le hg1 hbs.size; clear hbs)
          | (go_at_call 8; go_must (refine (smallS_yes pm.si pm.st pm.ma pm.mn pm.mc pm.sa pm.sn pm.sc _ gS.1 gS.2).mono ?_); rintro e wt ⟨rfl, hbt⟩; have HBt := hide (HBs.out.trans (hbt.mono HBs.out.size)); have HDt := hide (range_same HDs.out (hbt.block wr.heap.size hgs)); obtain ⟨t0, t2, t3, -⟩ := deed_at HDt.out; have hgt := Nat.lt_of_lt_of_le hgs hbt.size; have hnt : ¬ wr.heap.size = wt.heap.size := (by omega); have hnt2 : ¬ wt.heap.size = wr.heap.size := (by omega); clear hbt)
          | (refine wp_loadG _ rfl (.tmp 73) rfl wr.heap.size 1 pm rfl (deed_msg HDt.out) ?_)
          | (refine wp_loadG _ rfl (.tmp 78) rfl wr.heap.size 1 pm rfl (deed_msg HD5.out) ?_)
          | (go_at_call 9; go_must (refine (two_send1 HT.out hk60 pm HPm.out HSl.out _ (by exact belA HBt.out _) wt.heap.size HBt.out.size (by exact isG_one wt pm _ _ rfl)).mono ?_); rintro e w5 ⟨rfl, hH5, hK5⟩; have HH5 := hide hH5; have HD5 := hide (range_same (range_same HDt.out ((new_below wt (.cells #[.int .i64 pm.k, .int .u64 pm.fr, .int .u64 pm.tt, .int .u64 pm.tm, .int .u64 pm.ix, .int .u64 pm.lt, .int .u64 pm.cm, .int .u64 pm.hn, .bool pm.rj, .slice pm.ea pm.en pm.ec, .int .u64 pm.si, .int .u64 pm.st, .slice pm.ma pm.mn pm.mc, .slice pm.sa pm.sn pm.sc] 39)).block wr.heap.size hgt)) (hK5.block wr.heap.size (by rw [World.size_alloc]; omega) (by omega))); clear hH5 hK5)
          | (go_at_call 10; go_must (refine (two_send2 HH5.out hk60 H0.out (by omega) HPm.out _ (by exact new_below w5 _) w5.heap.size (by exact (boxG_new w5 pm _ _ rfl).c)).mono ?_); rintro e w6 ⟨rfl, l', hT6⟩; have HTf := hide hT6; clear hT6)
          | (go_at_call 18; go_must (refine (two_wait1 HTf.out (by omega)).mono ?_); rintro e wx ⟨rfl, hx⟩; have hx := hx.symm; subst hx)
          | (go_at_call 19; go_must (refine (two_wait2 HTf.out).mono ?_); rintro e wx ⟨rfl, hx⟩; have hx := hx.symm; subst hx))
        go_roundw
        case rel => exact ⟨k + 1, l', by omega, by go_num, HTf.out⟩
        case measure => simp [intOf]; omega
      have h0' : (pk == 0) = false := by simp [h0]
      by_cases h1 : pk = 1
      · subst h1
        go_wp2_with (first
          | (refine wp_loadD _ rfl (.tmp 32) rfl g (off + k * 15) _ pm rfl HC.out ?_)
          | (refine wp_storeD wr rfl (.tmp 8) (.tmp 33) rfl wr.heap.size rfl _ pm rfl rfl _ rfl ?_)
          | (go_at_call 7; go_must (refine (small_yes _ pm.ea pm.en pm.ec pm.es _ HEs.out HSm.out).mono ?_); rintro e ws ⟨rfl, hbs⟩; have HBs := hide ((HB1.out.trans (hbs.mono HB1.out.size))); have HDs := hide (range_same HD1.out (hbs.block wr.heap.size hg1)); obtain ⟨s0, s2, s3, s10, s11, s12, s13, s14⟩ := deed_at HDs.out; have hgs := Nat.lt_of_lt_of_le hg1 hbs.size; clear hbs)
          | (go_at_call 8; go_must (refine (smallS_yes pm.si pm.st pm.ma pm.mn pm.mc pm.sa pm.sn pm.sc _ gS.1 gS.2).mono ?_); rintro e wt ⟨rfl, hbt⟩; have HBt := hide (HBs.out.trans (hbt.mono HBs.out.size)); have HDt := hide (range_same HDs.out (hbt.block wr.heap.size hgs)); obtain ⟨t0, t2, t3, -⟩ := deed_at HDt.out; have hgt := Nat.lt_of_lt_of_le hgs hbt.size; have hnt : ¬ wr.heap.size = wt.heap.size := (by omega); have hnt2 : ¬ wt.heap.size = wr.heap.size := (by omega); clear hbt)
          | (go_at_call 11; go_must (refine (two_next1 (HT.out.keep HBt.out)).mono ?_); rintro e w5 ⟨y1, b, rfl, hH5, hz5⟩; have HH5 := hide hH5; have HX5 := hide (boxG_new w5 y1 w5.heap.size 39 rfl); clear hH5)
          | (refine wp_storeN w5 rfl (.tmp 9) (.tmp 87) rfl w5.heap.size rfl y1 rfl rfl ?_)
          | (go_at_call 12; go_must (refine (two_next2 HH5.out hk60 _ (by exact new_below w5 _)).mono ?_); rintro e w6 ⟨y2, rfl, ⟨l', hT6⟩, ho1, ho2, hpp, hK6⟩; have HT6 := hide hT6; have HO1 := hide ho1; have HO2 := hide ho2; have HPP := hide hpp; have HX6 := hide (HX5.out.lies hK6 (by omega)); have HY6 := hide (boxG_new w6 y2 w6.heap.size 39 rfl); have HX7 := hide (HX6.out.keep (new_below w6 (.cells #[.int .i64 y2.k, .int .u64 y2.fr, .int .u64 y2.tt, .int .u64 y2.tm, .int .u64 y2.ix, .int .u64 y2.lt, .int .u64 y2.cm, .int .u64 y2.hn, .bool y2.rj, .slice y2.ea y2.en y2.ec, .int .u64 y2.si, .int .u64 y2.st, .slice y2.ma y2.mn y2.mc, .slice y2.sa y2.sn y2.sc] 39))); clear hT6 ho1 ho2 hpp hK6)
          | (refine wp_storeN w6 rfl (.tmp 11) (.tmp 92) rfl w6.heap.size rfl y2 rfl rfl ?_)
          | (refine wp_loadGw _ (by rfl) (.tmp 9) rfl w5.heap.size 0 y1 rfl HX7.out.c ?_)
          | (refine wp_loadGw _ (by rfl) (.tmp 11) rfl w6.heap.size 0 y2 rfl (HY6.out.keep (by exact new_below _ _)).c ?_)
          | (go_at_call 13; go_must (refine (same_new w6 y1 y2 HPP.out HO1.out HO2.out _ _ _ _ _ (by omega) (by omega)).mono ?_); rintro e w8 ⟨rfl, hb8⟩; have HTf := hide (HT6.out.keep hb8); clear hb8)
          | (go_at_call 18; go_must (refine (two_wait1 HTf.out (by omega)).mono ?_); rintro e wx ⟨rfl, hx⟩; have hx := hx.symm; subst hx)
          | (go_at_call 19; go_must (refine (two_wait2 HTf.out).mono ?_); rintro e wx ⟨rfl, hx⟩; have hx := hx.symm; subst hx))
        go_roundw
        case rel => exact ⟨k + 1, l', by omega, by go_num, HTf.out⟩
        case measure => simp [intOf]; omega
      have h1' : (pk == 1) = false := by simp [h1]
      by_cases h2 : pk = 2
      · subst h2
        go_wp2_with (first
          | (refine wp_loadD _ rfl (.tmp 32) rfl g (off + k * 15) _ pm rfl HC.out ?_)
          | (refine wp_storeD wr rfl (.tmp 8) (.tmp 33) rfl wr.heap.size rfl _ pm rfl rfl _ rfl ?_)
          | (go_at_call 7; go_must (refine (small_yes _ pm.ea pm.en pm.ec pm.es _ HEs.out HSm.out).mono ?_); rintro e ws ⟨rfl, hbs⟩; have HBs := hide ((HB1.out.trans (hbs.mono HB1.out.size))); have HDs := hide (range_same HD1.out (hbs.block wr.heap.size hg1)); obtain ⟨s0, s2, s3, s10, s11, s12, s13, s14⟩ := deed_at HDs.out; have hgs := Nat.lt_of_lt_of_le hg1 hbs.size; clear hbs)
          | (go_at_call 8; go_must (refine (smallS_yes pm.si pm.st pm.ma pm.mn pm.mc pm.sa pm.sn pm.sc _ gS.1 gS.2).mono ?_); rintro e wt ⟨rfl, hbt⟩; have HBt := hide (HBs.out.trans (hbt.mono HBs.out.size)); have HDt := hide (range_same HDs.out (hbt.block wr.heap.size hgs)); obtain ⟨t0, t2, t3, -⟩ := deed_at HDt.out; have hgt := Nat.lt_of_lt_of_le hgs hbt.size; have hnt : ¬ wr.heap.size = wt.heap.size := (by omega); have hnt2 : ¬ wt.heap.size = wr.heap.size := (by omega); clear hbt)
          | (go_at_call 14; go_must (refine (two_tick1 (HT.out.keep HBt.out) hk60).mono ?_); rintro e w5 ⟨rfl, hH5⟩; have HH5 := hide hH5; clear hH5)
          | (go_at_call 15; go_must (refine (two_tick2 HH5.out hk60).mono ?_); rintro e w6 ⟨rfl, l', hT6⟩; have HTf := hide hT6; clear hT6)
          | (go_at_call 18; go_must (refine (two_wait1 HTf.out (by omega)).mono ?_); rintro e wx ⟨rfl, hx⟩; have hx := hx.symm; subst hx)
          | (go_at_call 19; go_must (refine (two_wait2 HTf.out).mono ?_); rintro e wx ⟨rfl, hx⟩; have hx := hx.symm; subst hx))
        go_roundw
        case rel => exact ⟨k + 1, l', by omega, by go_num, HTf.out⟩
        case measure => simp [intOf]; omega
      have h2' : (pk == 2) = false := by simp [h2]
      all_goals
        go_wp2_with (first
          | (refine wp_loadD _ rfl (.tmp 32) rfl g (off + k * 15) _ pm rfl HC.out ?_)
          | (refine wp_storeD wr rfl (.tmp 8) (.tmp 33) rfl wr.heap.size rfl _ pm rfl rfl _ rfl ?_)
          | (go_at_call 7; go_must (refine (small_yes _ pm.ea pm.en pm.ec pm.es _ HEs.out HSm.out).mono ?_); rintro e ws ⟨rfl, hbs⟩; have HBs := hide ((HB1.out.trans (hbs.mono HB1.out.size))); have HDs := hide (range_same HD1.out (hbs.block wr.heap.size hg1)); obtain ⟨s0, s2, s3, s10, s11, s12, s13, s14⟩ := deed_at HDs.out; have hgs := Nat.lt_of_lt_of_le hg1 hbs.size; clear hbs)
          | (go_at_call 8; go_must (refine (smallS_yes pm.si pm.st pm.ma pm.mn pm.mc pm.sa pm.sn pm.sc _ gS.1 gS.2).mono ?_); rintro e wt ⟨rfl, hbt⟩; have HBt := hide (HBs.out.trans (hbt.mono HBs.out.size)); have HDt := hide (range_same HDs.out (hbt.block wr.heap.size hgs)); obtain ⟨t0, t2, t3, -⟩ := deed_at HDt.out; have hgt := Nat.lt_of_lt_of_le hgs hbt.size; have hnt : ¬ wr.heap.size = wt.heap.size := (by omega); have hnt2 : ¬ wt.heap.size = wr.heap.size := (by omega); clear hbt)
          | (go_at_call 16; go_must (refine (two_cut1 HT.out hk60 pm.fr pm.tt HPm.out.fr HPm.out.tt _ _ HBt.out).mono ?_); rintro e w5 ⟨rfl, hH5, hK5⟩; have HH5 := hide hH5; have HD5 := hide (range_same HDt.out (hK5.block wr.heap.size hgt (by omega))); obtain ⟨v0, v2, v3, -⟩ := deed_at HD5.out; clear hH5 hK5)
          | (go_at_call 17; go_must (refine (two_cut2 HH5.out hk60 _ (Below.refl _ _)).mono ?_); rintro e w6 ⟨rfl, l', hT6⟩; have HTf := hide hT6; clear hT6)
          | (go_at_call 18; go_must (refine (two_wait1 HTf.out (by omega)).mono ?_); rintro e wx ⟨rfl, hx⟩; have hx := hx.symm; subst hx)
          | (go_at_call 19; go_must (refine (two_wait2 HTf.out).mono ?_); rintro e wx ⟨rfl, hx⟩; have hx := hx.symm; subst hx))
        go_roundw
        case rel => exact ⟨k + 1, l', by omega, by go_num, HTf.out⟩
        case measure => simp [intOf]; omega
    · have hkn : k = len1 := by omega
      subst hkn
      go_wp2
      go_ret
      exact ⟨rfl, HB.out⟩

end Go.Proofs.Ytodmieehdleohaa
