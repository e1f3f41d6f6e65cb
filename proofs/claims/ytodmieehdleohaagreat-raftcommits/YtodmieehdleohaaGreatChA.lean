/- Propose. Change: isList, missing. Change: mayChange, Change. Change. -/
import Derived.Test.YtodmieehdleohaaGreatSt1
import Derived.Test.YtodmieehdleohaaGreatPmA
import Derived.Test.YtodmieehdleohaaGreatSuD
import Derived.Test.YtodmieehdleohaaGreatRpB
namespace Go.Proofs.YtodmieehdleohaaGreat
open Go.RowKit NumMath
set_option linter.unusedVariables false
set_option maxRecDepth 100000

/-- an index, an error's number; the node -/
def TwoPost (X : Nat → Prop) (w : World) (base p z : Nat) (R : Nd → Prop) (e : Ending) (w' : World) : Prop := ∃ i r : Int, e = .returned (.tuple #[.int .u64 i, .int .i64 r]) ∧ NPost X w base p z R w'

theorem two_same {X : Nat → Prop} {w : World} {base p z z' k : Nat} {N : Nd} (i r : Int) (h : IsNd X w base p z N) (hO : N.Ok z) (hz : z ≤ z') (hk : z ≤ k) : TwoPost X w base p z' (Fwd k N) (.returned (.tuple #[.int .u64 i, .int .i64 r])) w :=
  ⟨i, r, rfl, NPost.of (h.mono hz) (Fwd.refl (hO.mono hk)) (Keeps.self _ _)⟩

set_option maxHeartbeats 1000000 in
theorem propose_any (X : Nat → Prop) (base p z : Nat) (N : Nd) (da : Option Addr) (dn dc : Nat) (d : List Int) (w : World) (h : IsNd X w base p z N) (hO : N.Ok z) (hz : z ≤ 38000) (hd : DatB X w da dn dc d) :
    Calls Tryz.prog 24 #[.pointer (some ⟨p, 0, none⟩), .slice da dn dc] w fun e w' => TwoPost X w base p (z + 10) (Fwd (z + 1) N) e w' := by
  have HMd := hide (made_any X base p z N w h)
  have HN := hide h
  have HO := hide hO
  have c4 := h.c.2.2.2.1
  have HD := hide hd
  have hdn : d.length = dn := hd.1.1
  clear h hO hd
  by_cases h1 : (4096 : Int) < (dn : Int)
  · go_enter Tryz.func24, Tryz.ntmps24
    go_wp2_with (first
      | (go_at_call 56; go_must (refine HMd.out.mono ?_); rintro e w' ⟨rfl, hw⟩; have hw := hw.symm; subst hw))
    go_ret2
    exact two_same _ _ HN.out HO.out (by omega) (by omega)
  · by_cases h2 : N.role = 2
    · have g2 : (N.role != 2) = false := by simpa using h2
      have hhg := HO.out.r2 h2
      have HAd := hide (add_any X base p z N 0 da dn dc d w HN.out HO.out (by omega) (by decide) HD.out (by omega))
      have HOa := hide (ok_added (k := 0) (d := d) HO.out (by omega) (by decide) (by omega))
      go_enter Tryz.func24, Tryz.ntmps24
      go_wp2_with (first
        | (go_at_call 67; go_must (refine (agree_any X3 base p (z + 1) (N.added 0 d) _ (HN3.out.mono (by omega)) HOa.out hhg (by omega)).mono ?_); rintro e w4 ⟨rfl, hp4⟩; have HP4 := hide (NPost.then HK3.out HX3.out (hp4.imp (z' := z + 10) (by omega) (R' := Fwd (z + 1) N) (fun N' hc => ⟨(fw_added N 0 d).trans hc.fw, hc.ok HOa.out⟩))); clear hp4)
        | (go_at_call 66; go_must (refine HAd.out.mono ?_); rintro e w3 ⟨rfl, hp3⟩; obtain ⟨X3, hN3, hK3, hX3⟩ := hp3.node; have HN3 := hide hN3; have HK3 := hide hK3; have HX3 := hide hX3; clear hp3 hN3 hK3 hX3)
        | (go_at_call 56; go_must (refine HMd.out.mono ?_); rintro e w' ⟨rfl, hw⟩; have hw := hw.symm; subst hw))
      go_ret2
      exact ⟨_, _, rfl, HP4.out⟩
    · have g2 : (N.role != 2) = true := by simpa using h2
      go_enter Tryz.func24, Tryz.ntmps24
      go_wp2_with (first
        | (go_at_call 56; go_must (refine HMd.out.mono ?_); rintro e w' ⟨rfl, hw⟩; have hw := hw.symm; subst hw))
      go_ret2
      exact two_same _ _ HN.out HO.out (by omega) (by omega)

end Go.Proofs.YtodmieehdleohaaGreat

namespace Go.Proofs.YtodmieehdleohaaGreat
open Go.RowKit NumMath
set_option linter.unusedVariables false
set_option maxRecDepth 100000

set_option maxHeartbeats 2000000 in
theorem isList_any (a : Option Addr) (len cap : Nat) (xs : List Int) (w : World) (h : IsNums w a len cap xs) (hl : len < 50) :
    Calls Tryz.prog 68 #[.slice a len cap] w fun e w' => BoolPost w e w' := by
  have H := hide h
  have hxl := h.1
  clear h
  have HB0 := hide (new_below w (.cells #[.slice a len cap] 25))
  have HSo := hide (sorted_any w.heap.size a len cap xs (w.alloc (.cells #[.slice a len cap] 25)) (by simp) (by simp) (H.out.src.keep HB0.out) hl)
  by_cases h0 : len = 0
  · subst h0
    go_enter Tryz.func68, Tryz.ntmps68
    go_wp2_with (first
      | (go_at_call 120; go_must (refine (vals_any a _ cap _).mono ?_); rintro e w' ⟨rfl, rfl⟩)
      | (go_at_call 119; go_must (refine HSo.out.mono ?_); rintro e w1 ⟨hb1, hp1⟩; have HB1 := hide (HB0.out.trans (hb1.mono HB0.out.size)); rcases hp1 with ⟨hx, rfl⟩ | ⟨g, cap1, ys, rfl, hg, hR1, -, -⟩ <;> first | (rw [hxl] at hR1) | skip))
    all_goals
      go_ret
      exact ⟨false, rfl, HB1.out⟩
  · have g0 : decide ((0 : Int) < (len : Int)) = true := decide_eq_true (by omega)
    have hlp : (0 : Int) < (len : Int) := by omega
    by_cases h9 : (len : Int) ≤ 9
    · go_enter Tryz.func68, Tryz.ntmps68
      go_wp2_with (first
        | (go_at_call 120; go_must (refine (vals_any a len cap _).mono ?_); rintro e w' ⟨rfl, rfl⟩)
        | (go_at_call 121; go_must (refine HC.out.mono ?_); rintro e w2 ⟨n', rfl, hn', -, hK2⟩; have HB2 := hide (HB1.out.trans (hK2.below HB1.out.size (fun k e => by omega))); clear hK2)
        | (go_at_call 119; go_must (refine HSo.out.mono ?_); rintro e w1 ⟨hb1, hp1⟩; have HB1 := hide (HB0.out.trans (hb1.mono HB0.out.size)); rcases hp1 with ⟨hx, rfl⟩ | ⟨g, cap1, ys, rfl, hg, hR1, -, -⟩ <;> first | (exfalso; rw [hx] at hxl; simp at hxl; omega) | (rw [hxl] at hR1; have hglt := hR1.lt; (have hgw : w.heap.size < g := (by simp at hg; omega)); have hc0 := hR1.cell (i := 0) (by omega); have HC := hide (compact_any g len cap1 ys w1 hR1 hR1.cap.1 (by omega)); clear hR1 hb1; generalize ys.getD 0 0 = y0 at hc0)))
      all_goals
        go_ret
        first
        | exact ⟨_, rfl, HB2.out⟩
        | exact ⟨false, rfl, HB1.out⟩
    · go_enter Tryz.func68, Tryz.ntmps68
      go_wp2_with (first
        | (go_at_call 120; go_must (refine (vals_any a len cap _).mono ?_); rintro e w' ⟨rfl, rfl⟩)
        | (go_at_call 121; go_must (refine HC.out.mono ?_); rintro e w2 ⟨n', rfl, hn', -, hK2⟩; have HB2 := hide (HB1.out.trans (hK2.below HB1.out.size (fun k e => by omega))); clear hK2)
        | (go_at_call 119; go_must (refine HSo.out.mono ?_); rintro e w1 ⟨hb1, hp1⟩; have HB1 := hide (HB0.out.trans (hb1.mono HB0.out.size)); rcases hp1 with ⟨hx, rfl⟩ | ⟨g, cap1, ys, rfl, hg, hR1, -, -⟩ <;> first | (exfalso; rw [hx] at hxl; simp at hxl; omega) | (rw [hxl] at hR1; have hglt := hR1.lt; (have hgw : w.heap.size < g := (by simp at hg; omega)); have hc0 := hR1.cell (i := 0) (by omega); have HC := hide (compact_any g len cap1 ys w1 hR1 hR1.cap.1 (by omega)); clear hR1 hb1; generalize ys.getD 0 0 = y0 at hc0)))
      all_goals
        go_ret
        first
        | exact ⟨_, rfl, HB2.out⟩
        | exact ⟨false, rfl, HB1.out⟩

def MissPost (w : World) (n : Nat) (e : Ending) (w' : World) : Prop :=
  ∃ a m c ys, e = .returned (.slice a m c) ∧ IsNums w' a m c ys ∧ m ≤ n ∧ (∀ y, a = some y → w.heap.size ≤ y.block) ∧ Below w.heap.size w w'

set_option maxHeartbeats 2000000 in
theorem missing_any (a : Option Addr) (n c : Nat) (l : List Int) (a2 : Option Addr) (n2 c2 : Nat) (l2 : List Int) (w : World) (h : IsNums w a n c l) (h2 : IsNums w a2 n2 c2 l2) (hn : n ≤ 1000) :
    Calls Tryz.prog 72 #[.slice a n c, .slice a2 n2 c2] w fun e w' => MissPost w n e w' := by
  have H := hide h
  have H2 := hide h2
  have hm : (n : Int) ≤ 9223372036854775807 := by omega
  clear h h2
  go_enter Tryz.func72, Tryz.ntmps72
  go_wp2_with fail
  go_loopw [5, 10] (fun v i wr => ∃ (k : Nat) (ys : List Int), k ≤ n ∧ i = .int .i64 k ∧ ys.length ≤ k ∧ (∀ x ∈ ys, 0 ≤ x ∧ x ≤ 18446744073709551615) ∧ OwnU wr w.heap.size v ys ∧ Below w.heap.size w wr) (fun _ i _ => n - (intOf i).toNat)
  case atStart => exact ⟨0, [], Nat.zero_le _, rfl, Nat.le_refl _, (fun x hx => by cases hx), ownU_nil _ _, Below.refl _ _⟩
  case round =>
    obtain ⟨k, ys, hk, rfl, hyl, hyr, hown, hb⟩ := hrel
    have HO := hide hown
    have HB := hide hb
    have HY := hide hyr
    have HYl := hide hyl
    clear hown hb hyr hyl
    by_cases hlt : k < n
    · obtain ⟨g, off, ha, hg, hc⟩ : ∃ g off, a = some ⟨g, off, none⟩ ∧ g < w.heap.size ∧ w.cell? ⟨g, off + k, none⟩ = some (.int .u64 (l.getD k 0)) := by
        rcases H.out.2.2.2.2 with h0 | ⟨g, off, e, hg, hN⟩
        · omega
        · exact ⟨g, off, e, hg, hN k (by rw [H.out.1]; exact hlt)⟩
      subst ha
      have hx := H.out.2.2.2.1 (l.getD k 0) (getD_mem (by rw [H.out.1]; exact hlt))
      have hcr := (HB.out.cell (p := ⟨g, off + k, none⟩) hg).trans hc
      clear hc
      generalize l.getD k 0 = x at *
      have HX := hide hx
      clear hx
      obtain ⟨va, vn, vc, rfl⟩ : ∃ va vn vc, _ = Value.slice va vn vc := by obtain ⟨va, vn, vc, e, _⟩ := HO.out.is HY.out; exact ⟨va, vn, vc, e⟩
      have HC2 := hide (contains_any a2 n2 c2 l2 x wr (H2.out.keep HB.out))
      by_cases hmem : x ∈ l2
      · have gm : decide (x ∈ l2) = true := decide_eq_true hmem
        clear hmem
        go_wp2_with (first
          | (go_at_call 105; go_must (refine HC2.out.mono ?_); rintro e w' ⟨rfl, hw⟩; have hw := hw.symm; subst hw))
        go_roundw
        case rel => exact ⟨k + 1, ys, by omega, by go_num, by have := HYl.out; omega, HY.out, HO.out, HB.out⟩
        case measure => simp [intOf]; omega
      · have gm : decide (x ∈ l2) = false := decide_eq_false hmem
        clear hmem
        go_wp2_with (first
          | (at_builtin; go_must (refine wp_joinU _ rfl (.tmp 18) (.tmp 20) rfl w.heap.size _ ys rfl (HO.out.keep (new_below _ _)) (some ⟨wr.heap.size, 0, none⟩) 1 1 [x] rfl (srcU_one _ x wr.heap.size (by simp) (by simp)) (by have := HYl.out; simp; omega) (by have := HB.out.size; simp; omega) ?_); intro v1 w1 hown1 hg1 hat1; have HO1 := hide hown1; have HB1 := hide ((HB.out.alloc HB.out.size (.cells #[.int .u64 x] 22)).trans ((HO.out.keep (new_below wr (.cells #[.int .u64 x] 22))).grown hg1 (by have := HB.out.size; simp; omega))); clear hown1 hg1 hat1)
          | (go_at_call 105; go_must (refine HC2.out.mono ?_); rintro e w' ⟨rfl, hw⟩; have hw := hw.symm; subst hw))
        go_roundw
        case rel => exact ⟨k + 1, ys ++ [x], by omega, by go_num, by have := HYl.out; simp; omega, (fun y hy => by rcases List.mem_append.1 hy with h1 | h1; exact HY.out y h1; (rw [List.mem_singleton.1 h1]; exact HX.out)), HO1.out, HB1.out⟩
        case measure => simp [intOf]; omega
    · have hkn : k = n := by omega
      subst hkn
      obtain ⟨va, vn, vc, e, hI, hy⟩ := HO.out.is HY.out
      subst e
      go_wp2
      go_ret
      exact ⟨va, vn, vc, ys, rfl, hI, by have := hI.1; have := HYl.out; omega, fun y e => (hy y e).1, HB.out⟩

end Go.Proofs.YtodmieehdleohaaGreat

namespace Go.Proofs.YtodmieehdleohaaGreat
open Go.RowKit NumMath
set_option linter.unusedVariables false
set_option maxRecDepth 100000

theorem kwrap_i9 (n : Int) (h1 : -9223372036854775808 ≤ n) (h2 : n ≤ 9223372036854775807) : IntKind.i64.wrap n = n := by
  simp [IntKind.wrap, IntKind.bits, IntKind.signed]
  split <;> omega

set_option maxHeartbeats 4000000 in
theorem mayChange_any (X : Nat → Prop) (base p z : Nat) (N : Nd) (a : Option Addr) (n c : Nat) (l : List Int) (w : World) (h : IsNd X w base p z N) (hO : N.Ok z) (hI : IsNums w a n c l) (hn : n ≤ 12) :
    Calls Tryz.prog 69 #[.pointer (some ⟨p, 0, none⟩), .slice a n c] w fun e w' => BoolPost w e w' := by
  have HMe := hide (members_any X base p z N w h hO.good)
  have HN := hide h
  have HI := hide hI
  have hG := hO.good
  have h9 := hO.nine
  have hcm := hO.commit
  have hpl := h.at.2
  clear h hO hI
  go_enter Tryz.func69, Tryz.ntmps69
  go_wp2_with (first
    | (go_at_call 72; have hchk := HB2.out; clear hchk; go_must (refine (missing_any a1 n1 d1 N.mem a n c l _ (HI1.out.keep HB2.out) (HI.out.keep HB02.out) (by omega)).mono ?_); rintro e w3 ⟨a3, n3, d3, ys3, rfl, hI3, hm3, -, hb3⟩; have HB3 := hide hb3; clear hI3 hb3)
    | (go_at_call 72; go_must (refine (missing_any a n c l a1 n1 d1 N.mem _ (HI.out.keep HB1.out) HI1.out (by omega)).mono ?_); rintro e w2 ⟨a2, n2, d2, ys2, rfl, hI2, hm2, -, hb2⟩; have HB2 := hide hb2; have HB02 := hide (HB1.out.trans (hb2.mono HB1.out.size)); clear hI2 hb2)
    | (go_at_call 70; go_must (refine HMe.out.mono ?_); rintro e w1 ⟨v1, rfl, hown1, hok1, hb1⟩; obtain ⟨a1, n1, d1, rfl, hI1, hy1⟩ := hown1.is hok1; have HI1 := hide hI1; have HB1 := hide hb1; (have hn1 : n1 ≤ 9 := (by rw [← hI1.1]; exact h9)); clear hown1 hok1 hb1 hI1 hy1))
  have HB03 := hide (HB02.out.trans (HB3.out.mono HB02.out.size))
  have HN3 := hide (HN.out.keep HB03.out)
  obtain ⟨q, c33, hL3⟩ := HN3.out.log
  have c73 : w3.cell? ⟨p, 7, none⟩ = some (.int .u64 N.commit) := HN3.out.c.2.2.2.2.2.2.1
  have c13 : w3.cell? ⟨p, 1, none⟩ = some (.int .u64 N.term) := HN3.out.c.2.1
  have hp3 : p < w3.heap.size := HN3.out.at.2
  have HTm := hide (fun W (hW : Below w3.heap.size w3 W) => term_any X base q N.L N.commit W (hL3.keep hW) hG hcm.1)
  have HK3 := hide (fun W (hW : Below w3.heap.size w3 W) => And.intro ((hW.cell (p := ⟨p, 3, none⟩) hp3).trans c33) ((hW.cell (p := ⟨p, 7, none⟩) hp3).trans c73))
  have hadd : IntKind.i64.wrap ((n2 : Int) + (n3 : Int)) = (n2 : Int) + (n3 : Int) := kwrap_i9 _ (by omega) (by omega)
  clear hL3
  generalize termL N.L N.commit = tl at *
  obtain ⟨tt, tb⟩ := tl
  go_region_held3 (fun W => W.cell? ⟨p, 3, none⟩ = some (.pointer (some ⟨q, 0, none⟩)) ∧ W.cell? ⟨p, 7, none⟩ = some (.int .u64 N.commit)) (first | exact HK3.out _ HB4.out | exact HK3.out _ (by repeat (first | exact Below.refl _ _ | refine bel_alloc ?_ _ | refine Below.drew ?_))) (first
    | (go_at_call 112; go_must (refine (HTm.out _ (by repeat (first | exact Below.refl _ _ | refine bel_alloc ?_ _ | refine Below.drew ?_))).mono ?_); rintro e w4 ⟨rfl, hb4⟩; have HB4 := hide (Below.trans (b := _) (B := w3.heap.size) (a := w3) (by repeat (first | exact Below.refl _ _ | refine bel_alloc ?_ _ | refine Below.drew ?_)) (hb4.mono (by simp))); have c14 := (HB4.out.cell (p := ⟨p, 1, none⟩) hp3).trans c13; have c74 := (HB4.out.cell (p := ⟨p, 7, none⟩) hp3).trans c73; clear hb4))
  all_goals
    go_wp2
    all_goals
      go_ret
      exact ⟨_, rfl, HB03.out.trans (HB4.out.mono HB03.out.size)⟩

end Go.Proofs.YtodmieehdleohaaGreat

namespace Go.Proofs.YtodmieehdleohaaGreat
open Go.RowKit NumMath
set_option linter.unusedVariables false
set_option maxRecDepth 100000

theorem run_delP (w : World) (b z : Nat) (h : MapP w b z) (key : Int) (hk : U64 key) (ty : TypeId) :
    ∃ w', (Builtin.delete_ #[86, 22] ty #[.map (some b), .int .u64 key]).run Tryz.prog w = .ok (.tuple #[]) w' ∧ MapP w' b z ∧ w.mapTurned w' b := by
  obtain ⟨D, hown⟩ := h
  obtain ⟨w', h1, h2, h3⟩ := hown.drop (Maps.int_keyed Tryz.underlying22) Tryz.underlying86 (keyU hk) ty
  exact ⟨w', h1, ⟨_, h2⟩, h3⟩

set_option maxHeartbeats 4000000 in
theorem change_a (X : Nat → Prop) (base p z : Nat) (N : Nd) (a : Option Addr) (n c : Nat) (l : List Int) (w0 w : World) (h : IsNd X w base p z N) (hO : N.Ok z) (hz : z ≤ 9000) (hB : w0.heap.size ≤ base) (hb0 : Below w0.heap.size w0 w) (hI : IsNums w0 a n c l) (hn : n ≤ 12) (hr : ¬ N.role = 2) :
    Calls Tryz.prog 25 #[.pointer (some ⟨p, 0, none⟩), .slice a n c] w fun e w' => TwoPost X w base p (z + 40) (Fwd (z + 1) N) e w' := by
  have HMd := hide (made_any X base p z N w h)
  have HN := hide h
  have HO := hide hO
  have HI0 := hide hI
  have HIw := hide (hI.keep hb0)
  have HB0w := hide hb0
  have hnl : l.length ≤ 12 := by rw [hI.1]; exact hn
  have c4 := h.c.2.2.2.1
  clear h hO hI hb0
  have g4 : (N.role != 2) = true := by simpa using hr
  go_enter Tryz.func25, Tryz.ntmps25
  go_wp2_with (first
    | (go_at_call 68; go_must (refine (isList_any a n c l _ HIw.out (by omega)).mono ?_); rintro e w1 ⟨b1, rfl, hb1⟩; have HB1 := hide hb1; have c41 := (hb1.cell (p := ⟨p, 4, none⟩) HN.out.at.2).trans c4; clear hb1; cases b1)
    | (go_at_call 56; go_must (refine HMd.out.mono ?_); rintro e wm ⟨rfl, hw⟩; have hw := hw.symm; subst hw))
  all_goals
    go_ret2
    exact ⟨_, _, rfl, NPost.behind (NPost.of (HN.out.mono (by omega)) (Fwd.refl (HO.out.mono (by omega))) (Keeps.self _ _)) HB1.out⟩

set_option maxHeartbeats 16000000 in
theorem change_b (X : Nat → Prop) (base p z : Nat) (N : Nd) (a : Option Addr) (n c : Nat) (l : List Int) (w0 w : World) (h : IsNd X w base p z N) (hO : N.Ok z) (hz : z ≤ 9000) (hB : w0.heap.size ≤ base) (hb0 : Below w0.heap.size w0 w) (hI : IsNums w0 a n c l) (hn : n ≤ 12) (hr : N.role = 2) :
    Calls Tryz.prog 25 #[.pointer (some ⟨p, 0, none⟩), .slice a n c] w fun e w' => TwoPost X w base p (z + 40) (Fwd (z + 1) N) e w' := by
  have HMd := hide (made_any X base p z N w h)
  have HN := hide h
  have HO := hide hO
  have HI0 := hide hI
  have HIw := hide (hI.keep hb0)
  have HB0w := hide hb0
  have hnl : l.length ≤ 12 := by rw [hI.1]; exact hn
  have c4 := h.c.2.2.2.1
  clear h hO hI hb0
  have g4 : (N.role != 2) = false := by simpa using hr
  have hhg : N.hg = true := HO.out.r2 hr
  have HMl := hide (memB_length HIw.out.2.2.2.1)
  have HOa := hide (ok_added (k := 1) (d := memB l) HO.out (by omega) (by decide) (by have := HMl.out; omega))
  have hG := HO.out.good
  have hlsU : 0 ≤ N.last ∧ N.last + 1 ≤ 18446744073709551615 := by have h1 := hG.i0; have h2 := HO.out.i62; have h3 := HO.out.n; show 0 ≤ N.L.s.i + (N.L.es.length : Int) ∧ N.L.s.i + (N.L.es.length : Int) + 1 ≤ _; omega
  have HOffA : Hid (∀ M : Nat → Prop, (∀ k, M k → X k ∨ w.heap.size ≤ k) → n = 0 ∨ ∀ y, a = some y → ¬ M y.block) := by
    intro M hM
    rcases HI0.out.2.2.2.2 with h0 | ⟨g, off, e, hg, _⟩
    · exact .inl h0
    · refine .inr (fun y hy hx => ?_)
      rw [e] at hy
      cases hy
      rcases hM _ hx with h1 | h1
      · have := (HN.out.rng _ h1).1
        dsimp only at this hg
        omega
      · have := HB0w.out.size
        dsimp only at h1 hg
        omega
  go_enter Tryz.func25, Tryz.ntmps25
  go_wp2_with (first
    | (go_at_call 72; have hchk := HK5.out; clear hchk; go_must (refine (missing_any a n c l a3 n3 d3 N.mem _ (HIw.out.lies ((Below.keeps HB4.out X).then (fun _ h => .inl h) HK5.out) (HOffA.out X (fun k h => .inl h))) (HI34.out.lies HK5.out (.inr (fun y hy hx => by have h1 := HY3.out y hy; have h2 := (HN.out.rng _ hx).2; have h3 := HB2.out.size; omega))) (by omega)).mono ?_); rintro e w6 ⟨a6, n6, d6, ys6, rfl, hI6, hm6, hy6, hb6⟩; have HI6 := hide hI6; have HY6 := hide hy6; have HB6 := hide hb6; clear hI6 hy6 hb6)
    | (go_at_call 66; go_must (refine (add_any X base p z N 1 a4 n4 d4 (memB l) _ (HN.out.keep HB4.out) HO.out (by omega) (by decide) ⟨HI4.out, .inr (fun y hy hx => by have h1 := HY4.out y hy; have h2 := (HN.out.rng _ hx).2; have h3 := HB3.out.size; omega)⟩ (by have := HMl.out; omega)).mono ?_); rintro e w5 ⟨rfl, hp5⟩; obtain ⟨X5, hN5, hK5, hX5⟩ := hp5.node; have HN5 := hide hN5; have HK5 := hide hK5; have HX5 := hide hX5; clear hp5 hN5 hK5 hX5)
    | (go_at_call 71; go_must (refine (putmem_any a n c l _ (HIw.out.keep HB3.out) (by omega)).mono ?_); rintro e w4 ⟨v4, rfl, ho4, hb4⟩; obtain ⟨a4, n4, d4, rfl, hI4, hy4⟩ := slice_of_own ho4 (memB_range l); have HI4 := hide hI4; have HY4 := hide hy4; have HB4 := hide (HB3.out.trans (hb4.mono HB3.out.size)); have HI34 := hide (HI3.out.keep hb4); have HZ34 := hide hb4.size; clear ho4 hb4 hI4 hy4)
    | (go_at_call 70; go_must (refine (members_any X base p z N _ (HN.out.keep HB2.out) HO.out.good).mono ?_); rintro e w3 ⟨v3, rfl, hown3, hok3, hb3⟩; obtain ⟨a3, n3, d3, rfl, hI3, hy3⟩ := hown3.is hok3; have HI3 := hide hI3; have HB3 := hide (HB2.out.trans (hb3.mono HB2.out.size)); (have hn3 : n3 ≤ 9 := (by rw [← hI3.1]; exact HO.out.nine)); have HY3 : Hid (∀ y, a3 = some y → w2.heap.size ≤ y.block) := (fun y hy => (hy3 y hy).1); clear hown3 hok3 hb3 hI3 hy3)
    | (go_at_call 69; go_must (refine (mayChange_any X base p z N a n c l _ (HN.out.keep HB1.out) HO.out (HIw.out.keep HB1.out) hn).mono ?_); rintro e w2 ⟨b2, rfl, hb2⟩; have HB2 := hide (HB1.out.trans (hb2.mono HB1.out.size)); clear hb2; cases b2)
    | (go_at_call 68; go_must (refine (isList_any a n c l _ HIw.out (by omega)).mono ?_); rintro e w1 ⟨b1, rfl, hb1⟩; have HB1 := hide hb1; have c41 := (hb1.cell (p := ⟨p, 4, none⟩) HN.out.at.2).trans c4; clear hb1; cases b1)
    | (go_at_call 56; go_must (refine HMd.out.mono ?_); rintro e wm ⟨rfl, hw⟩; have hw := hw.symm; subst hw))
  · go_ret2
    exact ⟨_, _, rfl, NPost.behind (NPost.of (HN.out.mono (by omega)) (Fwd.refl (HO.out.mono (by omega))) (Keeps.self _ _)) HB1.out⟩
  · go_ret2
    exact ⟨_, _, rfl, NPost.behind (NPost.of (HN.out.mono (by omega)) (Fwd.refl (HO.out.mono (by omega))) (Keeps.self _ _)) HB2.out⟩
  obtain ⟨q, va, ga, outv, hI5⟩ := HN5.out
  obtain ⟨b, rfl⟩ : ∃ b, ga = some b := by
    have := hI5.hg
    rw [show (N.added 1 (memB l)).hg = true from hhg] at this
    exact Option.isSome_iff_exists.1 this
  have HI5 := hide hI5
  clear hI5
  have HN6 := hide ((HI5.out.keep HB6.out).mono (z' := z + 1) (by omega))
  have HOff0 := hide (HOffA.out X5 (fun k hk => (HX5.out k hk).imp id (fun h1 => Nat.le_trans HB4.out.size h1)))
  have HOff3 : Hid (n3 = 0 ∨ ∀ y, a3 = some y → ¬ X5 y.block) := by
    rcases HI3.out.2.2.2.2 with h0 | ⟨g, off, e, hg, _⟩
    · exact .inl h0
    · refine .inr (fun y hy hx => ?_)
      have hy3 := HY3.out y hy
      rw [e] at hy
      cases hy
      dsimp only at hy3 hg hx
      rcases HX5.out _ hx with h1 | h1
      · have := (HN.out.rng _ h1).2
        have := HB2.out.size
        omega
      · have := HZ34.out
        omega
  have HM6 := hide ((HIw.out.lies ((Below.keeps HB4.out X).then (fun _ h => .inl h) HK5.out) (HOffA.out X (fun k h => .inl h))).keep HB6.out)
  have HO6 := hide ((HI34.out.lies HK5.out (.inr (fun y hy hx => by have h1 := HY3.out y hy; have h2 := (HN.out.rng _ hx).2; have h3 := HB2.out.size; omega))).keep HB6.out)
  have h6m : (n6 : Int) ≤ 9223372036854775807 := by omega
  go_loopw [46] (fun i wr => ∃ k : Nat, k ≤ n6 ∧ i = .int .i64 k ∧ IsN X5 wr base p (z + 1 + k) (N.added 1 (memB l)) q va (some b) outv ∧ Keeps X5 w6 wr) (fun i _ => n6 - (intOf i).toNat)
  case atStart => exact ⟨0, Nat.zero_le _, rfl, HN6.out, Keeps.self _ _⟩
  case round =>
    obtain ⟨k, hk, rfl, hN, hK⟩ := hrel
    have HNr := hide hN
    have HKr := hide hK
    have c10 : wr.cell? ⟨p, 10, none⟩ = some (.map (some b)) := hN.cell 10 (by decide)
    clear hN hK
    by_cases hlt : k < n6
    · obtain ⟨g, off, ha6, hg, hNm⟩ := HI6.out.at hlt
      have hk' : k < ys6.length := by rw [HI6.out.1]; exact hlt
      have hgX : ¬ X5 g := fun hx => by have h1 := (HI5.out.rng g hx).2; have h2 := HY6.out _ ha6; dsimp only at h2; omega
      have hc := (HKr.out.cell (i := off + k) hg hgX).trans (hNm k hk')
      have hx := HI6.out.2.2.2.1 _ (getD_mem hk')
      obtain ⟨x, hxe⟩ : ∃ x, ys6.getD k 0 = x := ⟨_, rfl⟩
      rw [hxe] at hc hx
      subst ha6
      obtain ⟨w7, hrun, hm7, ht7⟩ := run_setP wr b (z + 1 + k) (HNr.out.gm b rfl).2 (by omega) x (N.last + 1) 0 hx ⟨by omega, by omega⟩ ⟨by decide, by decide⟩
      have HP7 := hide (IsN.turnG HNr.out hm7 ht7 (Nat.le_succ _))
      clear hNm hk' hgX hxe hx hm7 ht7
      go_wp2
      go_roundw
      case rel => exact ⟨k + 1, by omega, by go_num, HP7.out.1, HKr.out.then (fun k h => .inl h) HP7.out.2⟩
      case measure => simp [intOf]; omega
    · have HNa := hide (HNr.out.mono (z' := z + 20) (by omega))
      have hkn : (k : Int) = (n6 : Int) := by omega
      have gk : decide ((k : Int) < (n6 : Int)) = false := decide_eq_false (by omega)
      go_wp2_with (first
        | (go_at_call 72; go_must (refine (missing_any a3 n3 d3 N.mem a n c l _ (HO6.out.lies HKr.out HOff3.out) (HM6.out.lies HKr.out HOff0.out) (by omega)).mono ?_); rintro e w8 ⟨a8, n8, d8, ys8, rfl, hI8, hm8, hy8, hb8⟩; have HI8 := hide hI8; have HY8 := hide hy8; have HB8 := hide hb8; clear hI8 hy8 hb8))
      have HN8 := hide (HNa.out.keep HB8.out)
      have h8m : (n8 : Int) ≤ 9223372036854775807 := by omega
      go_loopw [62] (fun i wq => ∃ j : Nat, j ≤ n8 ∧ i = .int .i64 j ∧ IsN X5 wq base p (z + 20) (N.added 1 (memB l)) q va (some b) outv ∧ Keeps X5 w8 wq) (fun i _ => n8 - (intOf i).toNat)
      case atStart => exact ⟨0, Nat.zero_le _, rfl, HN8.out, Keeps.self _ _⟩
      case round =>
        obtain ⟨j, hj, rfl, hN, hK⟩ := hrel
        have HNq := hide hN
        have HKq := hide hK
        have c10q : World.cell? _ ⟨p, 10, none⟩ = some (Value.map (some b)) := hN.cell 10 (by decide)
        clear hN hK
        by_cases hlt2 : j < n8
        · obtain ⟨g, off, ha8, hg, hNm⟩ := HI8.out.at hlt2
          have hk' : j < ys8.length := by rw [HI8.out.1]; exact hlt2
          have hgX : ¬ X5 g := fun hx => by have h1 := (HNr.out.rng g hx).2; have h2 := HY8.out _ ha8; dsimp only at h2; omega
          have hc := (HKq.out.cell (i := off + j) hg hgX).trans (hNm j hk')
          have hx := HI8.out.2.2.2.1 _ (getD_mem hk')
          obtain ⟨x, hxe⟩ : ∃ x, ys8.getD j 0 = x := ⟨_, rfl⟩
          rw [hxe] at hc hx
          subst ha8
          obtain ⟨w9, hrun, hm9, ht9⟩ := run_delP _ b (z + 20) (HNq.out.gm b rfl).2 x hx 0
          have HP9 := hide (IsN.turnG HNq.out hm9 ht9 (Nat.le_refl _))
          clear hNm hk' hgX hxe hx hm9 ht9
          go_wp2
          go_roundw
          case rel => exact ⟨j + 1, by omega, by go_num, HP9.out.1, HKq.out.then (fun k h => .inl h) HP9.out.2⟩
          case measure => simp [intOf]; omega
        · have gj : decide ((j : Int) < (n8 : Int)) = false := decide_eq_false (by omega)
          go_wp2_with (first
            | (go_at_call 67; go_must (refine (agree_any X5 base p (z + 20) (N.added 1 (memB l)) _ HNq.out.any (HOa.out.mono (by omega)) hhg (by omega)).mono ?_); rintro e w9 ⟨rfl, hp9⟩; have HP9 := hide (NPost.ahead HB4.out (NPost.then HK5.out HX5.out (NPost.then ((Below.keeps HB6.out X5).then (fun _ h => .inl h) (HKr.out.then (fun _ h => .inl h) ((Below.keeps HB8.out X5).then (fun _ h => .inl h) HKq.out))) (fun _ h => .inl h) (hp9.imp (z' := z + 40) (by omega) (R' := Fwd (z + 1) N) (fun N' hc => ⟨(fw_added N 1 (memB l)).trans hc.fw, hc.ok HOa.out⟩))))); clear hp9))
          go_ret2
          exact ⟨_, _, rfl, HP9.out⟩

theorem change_any (X : Nat → Prop) (base p z : Nat) (N : Nd) (a : Option Addr) (n c : Nat) (l : List Int) (w0 w : World) (h : IsNd X w base p z N) (hO : N.Ok z) (hz : z ≤ 9000) (hB : w0.heap.size ≤ base) (hb0 : Below w0.heap.size w0 w) (hI : IsNums w0 a n c l) (hn : n ≤ 12) :
    Calls Tryz.prog 25 #[.pointer (some ⟨p, 0, none⟩), .slice a n c] w fun e w' => TwoPost X w base p (z + 40) (Fwd (z + 1) N) e w' := by
  by_cases hr : N.role = 2
  · exact change_b X base p z N a n c l w0 w h hO hz hB hb0 hI hn hr
  · exact change_a X base p z N a n c l w0 w h hO hz hB hb0 hI hn hr

end Go.Proofs.YtodmieehdleohaaGreat
