/- A message comes: has, lay. -/
import Derived.Test.YtodmieehdleohaaGreatSt2
import Derived.Test.YtodmieehdleohaaGreatKp
namespace Go.Proofs.YtodmieehdleohaaGreat
open Go.RowKit NumMath
set_option linter.unusedVariables false
set_option maxRecDepth 100000

set_option maxHeartbeats 1000000 in
theorem has_any (X : Nat → Prop) (base p z : Nat) (N : Nd) (i t k : Int) (b : Option Addr) (n c : Nat) (w : World) (h : IsNd X w base p z N) (hO : N.Ok z) (hi : 0 ≤ i) :
    Calls Tryz.prog 140 #[.pointer (some ⟨p, 0, none⟩), .agg #[.int .u64 i, .int .u64 t, .int .i64 k, .slice b n c]] w fun e w' => BoolPost w e w' := by
  obtain ⟨q, c3, hL⟩ := h.log
  have hpl := h.at.2
  have hne : ¬ w.heap.size = p := by omega
  have hne2 : ¬ p = w.heap.size := by omega
  have hb0 := new_below w (.cells #[.int .u64 i, .int .u64 t, .int .i64 k, .slice b n c] 76)
  have HT := hide (fun W (hW : Below w.heap.size w W) => term_any X base q N.L i W (hL.keep hW) hO.good hi)
  have c3' : (w.alloc (.cells #[.int .u64 i, .int .u64 t, .int .i64 k, .slice b n c] 76)).cell? ⟨p, 3, none⟩ = some (.pointer (some ⟨q, 0, none⟩)) := (hb0.cell (p := ⟨p, 3, none⟩) hpl).trans c3
  clear h hL hO
  generalize termL N.L i = tl at *
  obtain ⟨tt, is⟩ := tl
  dsimp only at *
  go_enter Tryz.func140, Tryz.ntmps140
  go_wp2_with fail
  go_region_with (first
    | (go_at_call 112; go_must (refine (HT.out _ (by repeat (first | exact Below.refl _ _ | refine bel_alloc ?_ _ | refine Below.drew ?_))).mono ?_); rintro e w3 ⟨rfl, hb3⟩; have HB3 := hide (Below.trans (b := _) (B := w.heap.size) (a := w) (by repeat (first | exact Below.refl _ _ | refine bel_alloc ?_ _ | refine Below.drew ?_)) (hb3.mono (by simp))); have e1 := (hb3.cell (p := ⟨w.heap.size, 1, none⟩) (by simp)).trans (show _ = some (Value.int .u64 t) from by simp); clear hb3))
  all_goals
    cases is
    · go_wp2
      go_ret
      exact ⟨_, rfl, HB3.out⟩
    · obtain ⟨zz, hzz⟩ : ∃ zz : Bool, (tt == t) = zz := ⟨_, rfl⟩
      cases zz
      · go_wp2
        go_ret
        exact ⟨_, rfl, HB3.out⟩
      · go_wp2
        go_ret
        exact ⟨_, rfl, HB3.out⟩

/-- what is laid keeps what is committed -/
theorem fwd_lay {z : Nat} {N : Nd} {es : List Ent} (hO : N.Ok z) (hz : z ≤ 40000) (hes : ∀ e ∈ es, e.ok ∧ e.d.length ≤ 100) (hn : es.length ≤ 12) (hc : es = [] ∨ N.commit < (es.getD 0 ent0).i) : Fwd (z + 12) N { N with L := (appL N.L es).2 } := by
  have hG := good_app (L := N.L) (es := es) hO.good (fun e he => ⟨(hes e he).1, Nat.le_trans (hes e he).2 (by decide)⟩) (by have := hO.n; omega)
  by_cases h0 : es = []
  · subst h0
    rw [appL_nil]
    exact ⟨Fw.same rfl rfl rfl (Int.le_refl _) rfl, hO.mono (by omega)⟩
  · by_cases hF : Fits N.L es
    · rw [appL_yes h0 hF] at hG ⊢
      have hcm := hc.resolve_left h0
      refine ⟨⟨rfl, Int.le_refl _, Int.le_refl _, fun _ _ => rfl, Int.le_refl _, fun e he h1 _ => ?_, fun x => x⟩, ⟨hG, ?_, hO.m9, hO.i62, ?_, hO.r1, hO.r2, hO.id, hO.term, hO.vote, hO.leader, hO.ticks, hO.commit, hO.given⟩⟩
      · show e ∈ N.L.es.take _ ++ es
        apply List.mem_append.2
        left
        obtain ⟨j, hj, rfl⟩ := List.mem_iff_getElem.1 he
        have hat := hO.good.at_ j hj
        have e2 : N.L.es.getD j ent0 = N.L.es[j] := by simp [List.getD, List.getElem?_eq_getElem hj]
        rw [e2] at hat
        rw [hat] at h1
        rw [List.mem_iff_getElem]
        refine ⟨j, by rw [List.length_take]; omega, by simp⟩
      · show (N.L.es.take _ ++ es).length ≤ _
        rw [List.length_append, List.length_take]
        have := hO.n
        omega
      · intro e he
        rcases List.mem_append.1 he with h1 | h1
        · exact hO.d e (List.mem_of_mem_take h1)
        · exact Nat.le_trans (hes e h1).2 (by decide)
    · rw [appL_no h0 hF]
      exact ⟨Fw.same rfl rfl rfl (Int.le_refl _) rfl, hO.mono (by omega)⟩

theorem lay_app (X : Nat → Prop) (base p z : Nat) (N : Nd) (a : Option Addr) (len cap : Nat) (ms : List MEnt) (w0 w : World) (q : Nat) (va ga : Option Nat) (out : Value) (h : IsN X w base p z N q va ga out) (hO : N.Ok z) (hz : z ≤ 38000) (hB : w0.heap.size ≤ base) (hb0 : Below w0.heap.size w0 w) (hE : IsMs (fun _ => False) w0 a len cap ms) (hl : len ≤ 12) (hd : ∀ m ∈ ms, m.n ≤ 100) :
    Calls Tryz.prog 13 #[.pointer (some ⟨q, 0, none⟩), .slice a len cap] w fun e w' => ∃ r, e = .returned (.int .i64 r) ∧ NPost X w base p z (fun N' => N' = { N with L := (appL N.L (ms.map MEnt.e)).2 }) w' := by
  have hq := h.log.lt (k := q) SB.at
  refine (app_any X base q N.L a len cap ms w h.log hO.good ((hE.more (Y := fun k => k = q) (fun k e => .inr (by omega))).keep hb0) ?_ (by omega) (fun m hm => Nat.le_trans (hd m hm) (by decide)) (by have := hO.n; omega) (fun k hk => (h.rng k hk).2) (by have := h.at; omega)).mono ?_
  · rcases hE.2.2.2.2 with h0 | ⟨g, off, rfl, hg, _⟩
    · exact .inl h0
    · exact .inr (fun y hy => by cases hy; show g ≠ q; omega)
  · rintro e w' ⟨rfl, hL, hp⟩
    obtain ⟨h1, h2, h3⟩ := h.logged hL hp
    exact ⟨_, rfl, _, _, h1.any, rfl, h2, h3⟩

theorem getD_map0 (ms : List MEnt) : (ms.map MEnt.e).getD 0 ent0 = (ms.getD 0 ment0).e := getD_map_e ms 0

def LayPost (X : Nat → Prop) (w : World) (base p z : Nat) (N : Nd) (e : Ending) (w' : World) : Prop :=
  ∃ b : Bool, e = .returned (.bool b) ∧ NPost X w base p z (fun N' => (∃ L', N' = { N with L := L' }) ∧ Fwd (z + 12) N N') w'

theorem lay_same {X : Nat → Prop} {w w' : World} {base p z : Nat} {N : Nd} (b : Bool) (h : IsNd X w base p z N) (hO : N.Ok z) (hb : Below w.heap.size w w') : LayPost X w base p z N (.returned (.bool b)) w' :=
  ⟨b, rfl, NPost.behind (NPost.of h ⟨⟨N.L, rfl⟩, Fwd.refl (hO.mono (by omega))⟩ (Keeps.self _ _)) hb⟩

set_option maxHeartbeats 4000000 in
theorem lay_any (X : Nat → Prop) (base p z : Nat) (N : Nd) (bh : Int) (a : Option Addr) (len cap : Nat) (ms : List MEnt) (w0 w : World) (h : IsNd X w base p z N) (hO : N.Ok z) (hz : z ≤ 38000) (hB : w0.heap.size ≤ base) (hb0 : Below w0.heap.size w0 w) (hE : IsMs (fun _ => False) w0 a len cap ms) (hS : SmallM len ms) (hbh : U64 bh) :
    Calls Tryz.prog 115 #[.pointer (some ⟨p, 0, none⟩), .int .u64 bh, .slice a len cap] w fun e w' => LayPost X w base p z N e w' := by
  have HN := hide h
  have HO := hide hO
  have HE := hide hE
  have HLn := hide hE.1
  have HB0 := hide hb0
  have hl12 := hS.1
  have HS := hide hS.2
  have hcap := hE.2.1
  have hcm := hE.2.2.1
  unfold maxLen at hcm
  have hpl := h.at
  clear h hO hE hb0 hS
  go_enter Tryz.func115, Tryz.ntmps115
  go_wp2
  go_loopg [11] len (fun gk i wr => ∃ k : Nat, gk = len - k ∧ k ≤ len ∧ i = .int .i64 k ∧ Below w.heap.size w wr)
  case atStart => exact ⟨0, rfl, Nat.zero_le _, rfl, Below.refl _ _⟩
  case round =>
    obtain ⟨k, rfl, hk, rfl, hb⟩ := hrel
    have HB := hide hb
    have hwr := hb.size
    clear hb
    by_cases hlt : k < len
    · obtain ⟨g, off, rfl, hg, hC⟩ := HE.out.at hlt
      have hk' : k < ms.length := by rw [HLn.out]; exact hlt
      have hgw : g < w.heap.size := Nat.lt_of_lt_of_le hg HB0.out.size
      obtain ⟨d0, d1, d2, d3⟩ := ((hC k hk').same (HB0.out.block g hg)).same (HB.out.block g hgw)
      obtain ⟨y, hy⟩ : ∃ y, ms.getD k ment0 = y := ⟨_, rfl⟩
      rw [hy] at d0 d1 d2 d3
      clear hC hk' hy
      go_wp2
      · go_ret
        exact lay_same false HN.out HO.out (HB.out.alloc hwr _)
      · go_roundg (len - (k + 1))
        case measure => omega
        case rel => exact ⟨k + 1, rfl, by omega, by go_num, HB.out.alloc hwr _⟩
    · go_wp2
      go_loopg [2] len (fun gk s2 wx => ∃ (a' : Option Addr) (n' c' : Nat) (ms' : List MEnt), n' = gk ∧ s2 = .slice a' n' c' ∧ n' ≤ len ∧ IsMs (fun _ => False) w0 a' n' c' ms' ∧ (∀ y ∈ ms', y ∈ ms) ∧ Below w.heap.size w wx)
      case atStart => exact ⟨a, len, cap, ms, rfl, rfl, Nat.le_refl _, HE.out, fun y h => h, HB.out⟩
      case round =>
        obtain ⟨a', n', c', ms', rfl, rfl, hn', hE', hsub, hb2⟩ := hrel
        have HE' := hide hE'
        have HSub := hide hsub
        have HB2 := hide hb2
        have hwx := hb2.size
        have hcc := hE'.2.1
        have hcm' := hE'.2.2.1
        unfold maxLen at hcm'
        clear hE' hsub hb2
        have HNx := hide (HN.out.keep HB2.out)
        by_cases h0 : n' = 0
        · subst h0
          have hnil : ms' = [] := List.length_eq_zero_iff.1 HE'.out.1
          subst hnil
          obtain ⟨q, va, ga, out, hNx⟩ := HNx.out
          have c3 : wr.cell? ⟨p, 3, none⟩ = some (.pointer (some ⟨q, 0, none⟩)) := hNx.cell 3 (by decide)
          have HAp := hide (fun W (hW : Below wr.heap.size wr W) => lay_app X base p z N a' 0 c' [] w0 W q va ga out (hNx.keep hW) HO.out hz hB (HB0.out.trans ((HB2.out.trans (hW.mono hwx)).mono HB0.out.size)) HE'.out (by omega) (by simp))
          have HFw := hide (fwd_lay (es := []) HO.out (by omega) (by simp) (by simp) (.inl rfl))
          clear hNx
          go_wp2_with fail
          go_region
          all_goals
            go_wp2_with (first
              | (go_at_call 13; go_must (refine (HAp.out _ (by repeat (first | exact Below.refl _ _ | refine bel_alloc ?_ _ | refine Below.drew ?_))).mono ?_); rintro e w7 ⟨r, rfl, hp7⟩; have HP7 := hide (NPost.ahead HB2.out (NPost.ahead (w := wr) (w1 := _) (by repeat (first | exact Below.refl _ _ | refine bel_alloc ?_ _ | refine Below.drew ?_)) (hp7.imp (Nat.le_refl _) (R' := fun N' => (∃ L', N' = { N with L := L' }) ∧ Fwd (z + 12) N N') (fun N' e => by rw [e]; exact ⟨⟨_, rfl⟩, HFw.out⟩)))); clear hp7; obtain ⟨zz, hzz⟩ : ∃ zz : Bool, (r == 0) = zz := ⟨_, rfl⟩))
            go_ret
            exact ⟨_, rfl, HP7.out⟩
        · obtain ⟨g, off, rfl, hg, hC⟩ := HE'.out.at (k := 0) (by omega)
          have hk' : 0 < ms'.length := by rw [HE'.out.1]; omega
          have hgw : g < w.heap.size := Nat.lt_of_lt_of_le hg HB0.out.size
          have hcell := ((hC 0 hk').same (HB0.out.block g hg)).same (HB2.out.block g hgw)
          have hmem := HSub.out _ (ment_mem ms' 0 hk')
          have hyok := (HE'.out.2.2.2.1 _ (ment_mem ms' 0 hk')).1
          obtain ⟨y, hy⟩ : ∃ y, ms'.getD 0 ment0 = y := ⟨_, rfl⟩
          rw [hy] at hcell hmem hyok
          have HY := hide hy
          obtain ⟨d0, d1, d2, d3⟩ := hcell
          simp only [Nat.zero_mul, Nat.add_zero] at d0 d1 d2 d3
          have hn0 : (0 : Int) < (n' : Int) := by omega
          have HHas := hide (has_any X base p z N y.e.i y.e.t y.e.k y.b y.n y.c wr HNx.out HO.out hyok.1.1)
          obtain ⟨b8, hcut, hI8⟩ := isM_cutFrom HE'.out 1 (n' - 1) (c' - 1) (by omega) (by omega) .i64 1 rfl
          have HI8 := hide hI8
          clear hC hk' hy hI8
          go_wp2_with (first
            | (go_at_call 140; go_must (refine HHas.out.mono ?_); rintro e w5 ⟨bb, rfl, hb5⟩; have HB5 := hide (HB2.out.trans (hb5.mono HB2.out.size)); cases bb))
          · have hb5s := HB5.out.size
            obtain ⟨q, va, ga, out, hN5⟩ := HN.out.keep HB5.out
            have c3 : w5.cell? ⟨p, 3, none⟩ = some (.pointer (some ⟨q, 0, none⟩)) := hN5.cell 3 (by decide)
            have c7 : w5.cell? ⟨p, 7, none⟩ = some (.int .u64 N.commit) := hN5.cell 7 (by decide)
            have e0 : w5.cell? ⟨g, off, none⟩ = some (.int .u64 y.e.i) := (hb5.cell (p := ⟨g, off, none⟩) (show g < wr.heap.size by omega)).trans d0
            have HAp := hide (fun W (hW : Below w5.heap.size w5 W) => lay_app X base p z N (some ⟨g, off, none⟩) n' c' ms' w0 W q va ga out (hN5.keep hW) HO.out hz hB (HB0.out.trans ((HB5.out.trans (hW.mono hb5s)).mono HB0.out.size)) HE'.out (by omega) (fun m hm => HS.out m (HSub.out m hm)))
            have HFw := hide (fun (hgt : N.commit < y.e.i) => fwd_lay (es := ms'.map MEnt.e) HO.out (by omega) (fun e he => by obtain ⟨x, hx, rfl⟩ := List.mem_map.1 he; exact ⟨(HE'.out.2.2.2.1 x hx).1, by have h1 := HS.out x (HSub.out x hx); have h2 := (HE'.out.2.2.2.1 x hx).2.1.1; omega⟩) (by rw [List.length_map, HE'.out.1]; omega) (.inr (by rw [getD_map0, HY.out]; exact hgt)))
            clear hN5 hb5 d0 d1 d2 d3
            by_cases hle : y.e.i ≤ N.commit
            · go_region
              all_goals
                go_wp2
                go_ret
                exact lay_same false HN.out HO.out (Below.trans HB5.out (Below.mono (B' := w.heap.size) (B := w5.heap.size) (by repeat (first | exact Below.refl _ _ | refine bel_alloc ?_ _ | refine Below.drew ?_)) hb5s))
            · go_region
              all_goals
                go_wp2_with (first
                  | (go_at_call 13; go_must (refine (HAp.out _ (by repeat (first | exact Below.refl _ _ | refine bel_alloc ?_ _ | refine Below.drew ?_))).mono ?_); rintro e w7 ⟨r, rfl, hp7⟩; have HP7 := hide (NPost.ahead HB5.out (NPost.ahead (w := w5) (w1 := _) (by repeat (first | exact Below.refl _ _ | refine bel_alloc ?_ _ | refine Below.drew ?_)) (hp7.imp (Nat.le_refl _) (R' := fun N' => (∃ L', N' = { N with L := L' }) ∧ Fwd (z + 12) N N') (fun N' e => by rw [e]; exact ⟨⟨_, rfl⟩, HFw.out (by omega)⟩)))); clear hp7; obtain ⟨zz, hzz⟩ : ∃ zz : Bool, (r == 0) = zz := ⟨_, rfl⟩))
                go_ret
                exact ⟨_, rfl, HP7.out⟩
          · go_roundg (n' - 1)
            case measure => omega
            case rel => exact ⟨b8, n' - 1, c' - 1, ms'.drop 1, rfl, rfl, by omega, HI8.out, fun x hx => HSub.out x (List.mem_of_mem_drop hx), HB5.out⟩

end Go.Proofs.YtodmieehdleohaaGreat
