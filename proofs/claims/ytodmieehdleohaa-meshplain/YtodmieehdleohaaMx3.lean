/- Whether two messages are alike: SameSnap, SameMsgs. -/
import Derived.Test.YtodmieehdleohaaMs8
namespace Go.Proofs.Ytodmieehdleohaa
open Go.RowKit NumMath Go.ChangeShapes Go.WideShapes Go.Deep
set_option linter.unusedVariables false
set_option maxRecDepth 100000

set_option maxHeartbeats 400000 in
theorem sameSn_any (i t : Int) (a1 a2 b1 b2 : Option Addr) (n1 c1 d1 n2 c2 n3 c3 : Nat) (m d : List Int) (w : World) (h1 : IsNums w a1 n1 c1 m) (h2 : IsNums w a2 n1 d1 m) (k1 : IsBytes w b1 n2 c2 d) (k2 : IsBytes w b2 n3 c3 d) :
    Calls Try.prog 28 #[.agg #[.int .u64 i, .int .u64 t, .slice a1 n1 c1, .slice b1 n2 c2], .agg #[.int .u64 i, .int .u64 t, .slice a2 n1 d1, .slice b2 n3 c3]] w fun e w' => e = .returned (.bool true) ∧ Below w.heap.size w w' := by
  have H1 := hide h1
  have H2 := hide h2
  have K1 := hide k1
  have K2 := hide k2
  clear h1 h2 k1 k2
  go_enter Try.func28, Try.ntmps28
  have H0 := hide (fun (o o2 : Obj) => (show Below w.heap.size w ((w.alloc o).alloc o2) from (new_below w o).trans ((new_below _ _).mono (by simp))))
  go_wp2_with (first
    | (go_at_call 32; go_must (refine (sameU_any a1 a2 n1 c1 d1 m _ (H1.out.keep (by exact H0.out _ _)) (H2.out.keep (by exact H0.out _ _))).mono ?_); rintro e w3 ⟨rfl, hb3⟩; have HB3 := hide ((H0.out _ _).trans (hb3.mono (by simp; omega))); have t0 := (hb3.cell (p := ⟨w.heap.size, 3, none⟩) (by simp; omega)).trans (show _ = some (Value.slice b1 n2 c2) by simp); have t1 := (hb3.cell (p := ⟨w.heap.size + 1, 3, none⟩) (by simp)).trans (show _ = some (Value.slice b2 n3 c3) by simp); have k1 := (K1.out.keep HB3.out).conv; have k2 := (K2.out.keep HB3.out).conv; clear hb3))
  go_ret
  exact ⟨rfl, HB3.out⟩

set_option maxHeartbeats 40000000 in
theorem sameMs_one (k fr tt tm ix lt cm hn : Int) (rj : Bool) (si st : Int) (ea ea' : Option Addr) (en ec ec' : Nat) (es es' : List MEnt) (ma ma' : Option Addr) (mn mc mc' : Nat) (mm : List Int) (sa sa' : Option Addr) (sn sn' sc sc' : Nat) (sd : List Int) (ga gb : Nat) (w : World)
    (hx : CellG w ga 0 ⟨k, fr, tt, tm, ix, lt, cm, hn, rj, ea, en, ec, es, si, st, ma, mn, mc, mm, sa, sn, sc, sd⟩) (hy : CellG w gb 0 ⟨k, fr, tt, tm, ix, lt, cm, hn, rj, ea', en, ec', es', si, st, ma', mn, mc', mm, sa', sn', sc', sd⟩)
    (hga : ga < w.heap.size) (hgb : gb < w.heap.size) (he : IsMs (fun _ => False) w ea en ec es) (he' : IsMs (fun _ => False) w ea' en ec' es') (hee : es.map MEnt.e = es'.map MEnt.e) (hm : IsNums w ma mn mc mm) (hm' : IsNums w ma' mn mc' mm) (hs : IsBytes w sa sn sc sd) (hs' : IsBytes w sa' sn' sc' sd) :
    Calls Try.prog 13 #[.slice (some ⟨ga, 0, none⟩) 1 1, .slice (some ⟨gb, 0, none⟩) 1 1] w fun e w' => e = .returned (.bool true) ∧ Below w.heap.size w w' := by
  obtain ⟨x0, x1, x2, x3, x4, x5, x6, x7, x8, x9, x10, x11, x12, x13⟩ := hx.x
  obtain ⟨y0, y1, y2, y3, y4, y5, y6, y7, y8, y9, y10, y11, y12, y13⟩ := hy.x
  simp only [Nat.zero_add] at x0 x1 x2 x3 x4 x5 x6 x7 x8 x9 x10 x11 x12 x13 y0 y1 y2 y3 y4 y5 y6 y7 y8 y9 y10 y11 y12 y13
  have HE := hide (fun W (hW : Below w.heap.size w W) => sameE_any (fun _ => False) (fun _ => False) ea ea' en ec ec' es es' W (he.keep hW) (he'.keep hW) hee)
  have HSn := hide (fun W (hW : Below w.heap.size w W) => sameSn_any si st ma ma' sa sa' mn mc mc' sn sc sn' sc' mm sd W (hm.keep hW) (hm'.keep hW) (hs.keep hW) (hs'.keep hW))
  clear hx hy he he' hee hm hm' hs hs'
  go_enter Try.func13, Try.ntmps13
  go_wp2
  go_loopw [15] (fun i wr => (i = .int .i64 0 ∧ wr = w) ∨ (i = .int .i64 1 ∧ Below w.heap.size w wr)) (fun i _ => 1 - (intOf i).toNat)
  case atStart => exact .inl ⟨rfl, rfl⟩
  case round =>
    rcases hrel with ⟨rfl, rfl⟩ | ⟨rfl, hb⟩
    · go_wp2_with fail
      go_region
      all_goals
        go_wp2_with (first
          | (go_at_call 27; go_must (refine (HE.out _ (by repeat (first | exact Below.refl _ _ | refine belA ?_ _ | refine Below.drew ?_))).mono ?_); rintro e w3 ⟨rfl, hb3⟩; have HB3 := hide (Below.trans (b := _) (B := wr.heap.size) (a := wr) (by repeat (first | exact Below.refl _ _ | refine belA ?_ _ | refine Below.drew ?_)) (hb3.mono (by simp; omega))); have p10 := hb3.cell (p := ⟨wr.heap.size, 10, none⟩) (by simp <;> omega); simp at p10; have p11 := hb3.cell (p := ⟨wr.heap.size, 11, none⟩) (by simp <;> omega); simp at p11; have p12 := hb3.cell (p := ⟨wr.heap.size, 12, none⟩) (by simp <;> omega); simp at p12; have p13 := hb3.cell (p := ⟨wr.heap.size, 13, none⟩) (by simp <;> omega); simp at p13; have r10 := hb3.cell (p := ⟨wr.heap.size + 1, 10, none⟩) (by simp <;> omega); simp at r10; have r11 := hb3.cell (p := ⟨wr.heap.size + 1, 11, none⟩) (by simp <;> omega); simp at r11; have r12 := hb3.cell (p := ⟨wr.heap.size + 1, 12, none⟩) (by simp <;> omega); simp at r12; have r13 := hb3.cell (p := ⟨wr.heap.size + 1, 13, none⟩) (by simp <;> omega); simp at r13; clear hb3)
          | (go_at_call 28; go_must (refine (HSn.out _ HB3.out).mono ?_); rintro e w4 ⟨rfl, hb4⟩; have HB4 := hide (HB3.out.trans (hb4.mono HB3.out.size)); clear hb4))
        go_roundw
        case rel => exact .inr ⟨rfl, HB4.out⟩
        case measure => simp [intOf]
    · go_wp2
      go_ret
      exact ⟨rfl, hb⟩

end Go.Proofs.Ytodmieehdleohaa
