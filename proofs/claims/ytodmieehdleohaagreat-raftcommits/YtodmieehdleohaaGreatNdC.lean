/- lastEntry, sendAppend, sendAppends. add: an entry of a leader's. matched, commitMatched, agree. commitMatched, agree. -/
import Derived.Test.YtodmieehdleohaaGreatNdB
import Derived.Test.YtodmieehdleohaaGreatRlA
import Derived.Deep.RegionHeld3
namespace Go.Proofs.YtodmieehdleohaaGreat
open Go.RowKit NumMath
set_option linter.unusedVariables false
set_option maxRecDepth 100000

theorem nlast_any (X : Nat → Prop) (base q : Nat) (L : LogS) (w : World) (h : IsL X w base q L) (hG : L.Good) :
    Calls Tryz.prog 81 #[.pointer (some ⟨q, 0, none⟩)] w fun e w' => e = .returned (.int .u64 (L.s.i + L.es.length)) ∧ w' = w.drew := by
  obtain ⟨ma, mn, mc, da, dn, dc, ea, en, ec, ms, c0, c1, c2, c3, c4, c5, c6, hf, hm, hd, hr, he, _⟩ := h
  have hl : L.es.length = en := by rw [← he, List.length_map, hr.len.1]
  rw [hl]
  exact last_any q L.s.i ea en ec w c0 c4 hG.i0 hG.i1 (by rw [← hl]; exact hG.n)

theorem nfirst_any (X : Nat → Prop) (base q : Nat) (L : LogS) (w : World) (h : IsL X w base q L) (hG : L.Good) :
    Calls Tryz.prog 33 #[.pointer (some ⟨q, 0, none⟩)] w fun e w' => e = .returned (.int .u64 (L.s.i + 1)) ∧ w' = w := by
  obtain ⟨ma, mn, mc, da, dn, dc, ea, en, ec, ms, c0, _⟩ := h
  exact first_any q L.s.i w c0 hG.i0 hG.i1

theorem lastEntry_any (X : Nat → Prop) (base p z : Nat) (N : Nd) (w : World) (h : IsNd X w base p z N) (hG : N.L.Good) :
    Calls Tryz.prog 107 #[.pointer (some ⟨p, 0, none⟩)] w fun e w' => e = .returned (.tuple #[.int .u64 N.last, .int .u64 (termL N.L N.last).1]) ∧ Below w.heap.size w w' := by
  obtain ⟨q, c3, hL⟩ := h.log
  have HL := hide (nlast_any X base q N.L w hL hG)
  have HT := hide (term_any X base q N.L N.last w.drew hL.drew hG (by unfold Nd.last; have := hG.i0; omega))
  have c3' : w.drew.cell? ⟨p, 3, none⟩ = some (.pointer (some ⟨q, 0, none⟩)) := c3
  clear h hL hG
  unfold Nd.last at *
  generalize N.L.s.i + (N.L.es.length : Int) = ls at *
  go_enter Tryz.func107, Tryz.ntmps107
  go_wp2_with (first
    | (go_at_call 81; go_must (refine HL.out.mono ?_); rintro e w2 ⟨rfl, hw⟩; have hw := hw.symm; subst hw)
    | (go_at_call 112; go_must (refine HT.out.mono ?_); rintro e w3 ⟨rfl, hb3⟩; have HB3 := hide hb3; clear hb3))
  go_ret2
  exact ⟨rfl, (Below.refl _ _).drew.trans HB3.out⟩

theorem field0P (u v : Int) (W : World) : (Instr.field 107 (.agg #[.int .u64 u, .int .u64 v]) 0).run Tryz.prog W = .ok (.int .u64 u) W := by rfl

theorem field1P (u v : Int) (W : World) : (Instr.field 107 (.agg #[.int .u64 u, .int .u64 v]) 1).run Tryz.prog W = .ok (.int .u64 v) W := by rfl

set_option maxHeartbeats 2000000 in
theorem sendAppend_any (X : Nat → Prop) (base p z : Nat) (N : Nd) (tt : Int) (w : World) (h : IsNd X w base p z N) (hO : N.Ok z) (hhg : N.hg = true) (hto : U64 tt) (hz : z ≤ 1000000) :
    Calls Tryz.prog 104 #[.pointer (some ⟨p, 0, none⟩), .int .u64 tt] w fun e w' => e = .returned (.tuple #[]) ∧ NPost X w base p (z + 1) (fun N' => N' = N) w' := by
  obtain ⟨q, va, ga, out, h⟩ := h
  have hG := hO.good
  obtain ⟨b, rfl⟩ : ∃ b, ga = some b := by
    have := h.hg
    rw [hhg] at this
    exact Option.isSome_iff_exists.1 this
  have H := hide h
  have c3 : w.cell? ⟨p, 3, none⟩ = some (.pointer (some ⟨q, 0, none⟩)) := h.cell 3 (by decide)
  have c7 : w.cell? ⟨p, 7, none⟩ = some (.int .u64 N.commit) := h.cell 7 (by decide)
  have c10 : w.cell? ⟨p, 10, none⟩ = some (.map (some b)) := h.cell 10 (by decide)
  have HM := hide (h.gm b rfl).2
  have HF := hide (nfirst_any X base q N.L w h.log hG)
  have HSn := hide (snap_any X base q N.L w h.log hG)
  have HTm := hide (fun x hx => term_any X base q N.L x w h.log hG hx)
  have HEn := hide (fun W (hW : Below w.heap.size w W) x (hx : 0 ≤ x) => ents_any X base q N.L x 16 W (h.log.keep hW) hG hx (by omega) (by omega))
  have hpl := h.at.2
  have hi0 := hG.i0
  have hi1 := hG.i1
  have HSd := hide (fun W (hW : Below w.heap.size w W) kd ix lt cm ea en ec si st ma mn mc da dn dc => sendN_any X base p z N kd 0 tt 0 ix lt cm 0 false ea en ec si st ma mn mc da dn dc W q va (some b) out (h.keep hW) hz)
  have HTo := hide hto
  have hcm := hO.commit
  have hf0 := field0P
  clear h hO hto hG
  go_enter Tryz.func104, Tryz.ntmps104
  go_wp2_with (first
    | (at_lookup; go_must (refine wp_lookP _ rfl (.tmp 10) (.tmp 11) rfl b z rfl HM.out tt HTo.out rfl ?_); intro nx mt hnx hmt; have HNx := hide hnx; clear hmt; rcases Int.lt_or_le nx (N.L.s.i + 1) with hlt | hge <;> (first | (have hnl : ¬ nx < N.L.s.i + 1 := (by omega); have hw1 : IntKind.u64.wrap (nx - 1) = nx - 1 := kwrap_u64 _ (by omega) (by omega); clear hnx hge) | (clear hnx)))
    | (go_at_call 33; go_must (refine HF.out.mono ?_); rintro e w2 ⟨rfl, hw⟩; have hw := hw.symm; subst hw)
    | (go_at_call 108; go_must (refine (HSd.out _ HB3.out 5 0 0 0 none 0 0 _ _ _ _ _ _ _ _).mono ?_); rintro e w4 ⟨rfl, X4, out4, hN4, hk4, hx4⟩; have HP4 := hide (NPost.ahead (R := fun N' => N' = N) HB3.out ⟨X4, N, hN4.any, rfl, hk4, hx4⟩); clear hN4 hk4 hx4)
    | (go_at_call 73; go_must (refine HSn.out.mono ?_); rintro e w3 ⟨a1, n1, d1, a2, n2, d2, rfl, hI1, hy1, hI2, hy2, hb3⟩; have HB3 := hide hb3; clear hI1 hy1 hI2 hy2 hb3)
    | (go_at_call 112; go_must (refine (HTm.out _ (by omega)).mono ?_); rintro e w3 ⟨rfl, hb3⟩; have HB3 := hide hb3; have c73 := (hb3.cell (p := ⟨p, 7, none⟩) hpl).trans c7; have c33 := (hb3.cell (p := ⟨p, 3, none⟩) hpl).trans c3; clear hb3))
  · refine bodyPost_ret (results_none rfl _ _ _) rfl ?_
    exact ⟨rfl, HP4.out⟩
  · go_wp2_with fail
    have HNx0 : Hid (0 ≤ nx) := HNx.out.1
    have hp3 : p < w3.heap.size := Nat.lt_of_lt_of_le hpl HB3.out.size
    go_region_held3 (fun W => W.cell? ⟨p, 7, none⟩ = some (.int .u64 N.commit) ∧ W.cell? ⟨p, 3, none⟩ = some (.pointer (some ⟨q, 0, none⟩))) (first | with_reducible exact HK5.out | with_reducible exact HK4.out | go_keep) (first
      | (go_at_call 108; go_must (refine (HSd.out _ HB4.out 3 _ _ _ _ _ _ 0 0 none 0 0 none 0 0).mono ?_); rintro e w5 ⟨rfl, X5, out5, hN5, hk5, hx5⟩; have HK5 := hide (show w5.cell? ⟨p, 7, none⟩ = some (.int .u64 N.commit) ∧ w5.cell? ⟨p, 3, none⟩ = some (.pointer (some ⟨q, 0, none⟩)) from ⟨hN5.cell 7 (by decide), hN5.cell 3 (by decide)⟩); have HP5 := hide (NPost.ahead (R := fun N' => N' = N) HB4.out ⟨X5, N, hN5.any, rfl, hk5, hx5⟩); clear hN5 hk5 hx5)
      | (go_at_call 32; go_must (refine (HEn.out _ (by exact HB3.out.drew) _ HNx0.out).mono ?_); rintro e w4 ⟨b4, n4, d4, ms4, rfl, -, -, -, hb4⟩; have HB4 := hide (HB3.out.drew.trans (hb4.mono HB3.out.drew.size)); have HK4 := hide (show w4.cell? ⟨p, 7, none⟩ = some (.int .u64 N.commit) ∧ w4.cell? ⟨p, 3, none⟩ = some (.pointer (some ⟨q, 0, none⟩)) from ⟨(hb4.cell (p := ⟨p, 7, none⟩) hp3).trans c73, (hb4.cell (p := ⟨p, 3, none⟩) hp3).trans c33⟩); clear hb4))
    all_goals
      go_wp2
      go_end0
      exact ⟨rfl, HP5.out⟩

theorem NPost.node {X : Nat → Prop} {w w' : World} {base p z : Nat} {N : Nd} (h : NPost X w base p z (fun N' => N' = N) w') : ∃ X', IsNd X' w' base p z N ∧ Keeps X w w' ∧ ∀ k, X' k → X k ∨ w.heap.size ≤ k := by
  obtain ⟨X', N', h1, rfl, h2, h3⟩ := h
  exact ⟨X', h1, h2, h3⟩

set_option maxHeartbeats 1000000 in
theorem sendAppends_any (X : Nat → Prop) (base p z : Nat) (N : Nd) (w : World) (h : IsNd X w base p z N) (hO : N.Ok z) (hhg : N.hg = true) (hz : z ≤ 900000) :
    Calls Tryz.prog 57 #[.pointer (some ⟨p, 0, none⟩)] w fun e w' => e = .returned (.tuple #[]) ∧ NPost X w base p (z + 9) (fun N' => N' = N) w' := by
  have HOt := hide (others_any X base p z N w h hO.good)
  have H := hide h
  have HO := hide hO
  have h9 := hO.nine
  clear h hO
  go_enter Tryz.func57, Tryz.ntmps57
  go_wp2_with (first
    | (go_at_call 103; go_must (refine HOt.out.mono ?_); rintro e w1 ⟨a, m, c, l, rfl, hI1, hy1, hm1, -, hb1⟩; have HI1 := hide hI1; have HY1 := hide hy1; clear hy1; have HB1 := hide hb1; clear hI1 hb1))
  have hm9 : m ≤ 9 := by omega
  have HLn := hide HI1.out.1
  have hmx := HI1.out.2.2.1
  have hmc := HI1.out.2.1
  unfold maxLen at hmx
  clear hm1 h9
  go_loopw [7] (fun i wr => ∃ (k : Nat) (Xr : Nat → Prop), k ≤ m ∧ i = .int .i64 k ∧ IsNd Xr wr base p (z + k) N ∧ Keeps X w1 wr ∧ (∀ j, Xr j → X j ∨ w1.heap.size ≤ j)) (fun i _ => m - (intOf i).toNat)
  case atStart => exact ⟨0, X, Nat.zero_le _, rfl, H.out.keep HB1.out, Keeps.self _ _, fun _ h => .inl h⟩
  case round =>
    obtain ⟨k, Xr, hk, rfl, hN, hK, hX⟩ := hrel
    have HN := hide hN
    have HK := hide hK
    have HX := hide hX
    clear hN hK hX
    by_cases hlt : k < m
    · obtain ⟨g, off, rfl, hg, hNm⟩ := HI1.out.at hlt
      have hk' : k < l.length := by rw [HLn.out]; exact hlt
      have hgX : ¬ X g := fun hx => by have h1 := (H.out.rng g hx).2; have h2 : w.heap.size ≤ g := HY1.out _ rfl; omega
      have hc := (HK.out.cell (i := off + k) hg hgX).trans (hNm k hk')
      have hx := HI1.out.2.2.2.1 _ (getD_mem l k hk')
      obtain ⟨x, hxe⟩ : ∃ x, l.getD k 0 = x := ⟨_, rfl⟩
      rw [hxe] at hc hx
      have HSa := hide (sendAppend_any Xr base p (z + k) N x wr HN.out (HO.out.mono (by omega)) hhg hx (by omega))
      clear hNm hk' hgX hxe hx
      go_wp2_with (first
        | (go_at_call 104; go_must (refine HSa.out.mono ?_); rintro e w3 ⟨rfl, hp3⟩; obtain ⟨X3, hN3, hK3, hX3⟩ := hp3.node; have HN3 := hide hN3; have HK3 := hide (HK.out.then HX.out hK3); have HX3 : Hid (∀ j, X3 j → X j ∨ w1.heap.size ≤ j) := (fun j hj => (hX3 j hj).elim (HX.out j) (fun h => .inr (Nat.le_trans HK.out.size h))); clear hp3 hN3 hK3 hX3))
      go_roundw
      case rel => exact ⟨k + 1, X3, by omega, by go_num, HN3.out, HK3.out, HX3.out⟩
      case measure => simp [intOf]; omega
    · have hkm : k = m := by omega
      subst hkm
      go_wp2
      go_end0
      exact ⟨rfl, NPost.ahead HB1.out ⟨Xr, N, HN.out.mono (by omega), rfl, HK.out, HX.out⟩⟩

end Go.Proofs.YtodmieehdleohaaGreat

namespace Go.Proofs.YtodmieehdleohaaGreat
open Go.RowKit NumMath
set_option linter.unusedVariables false
set_option maxRecDepth 100000

/-- the node behind a change of its log -/
theorem IsN.logged {X : Nat → Prop} {w w' : World} {base p z : Nat} {N : Nd} {q : Nat} {va ga : Option Nat} {out : Value} {L' : LogS} (h : IsN X w base p z N q va ga out) (hL : IsL (fun k => X k ∨ SB 4 w' q k) w' base q L') (hp : SPost 4 w q w') :
    IsN (fun k => X k ∨ SB 4 w' q k) w' base p z { N with L := L' } q va ga out ∧ Keeps X w w' ∧ ∀ k, X k ∨ SB 4 w' q k → X k ∨ w.heap.size ≤ k := by
  have e : ∀ k, k < w.heap.size → ¬ SB 4 w q k → w'.heap[k]? = w.heap[k]? := fun k hk hn => hp.1.block k hk hn
  have hpl := h.at.2
  refine ⟨⟨fun i hi => (World.cell?_of_block (a := ⟨p, i, none⟩) (e p hpl h.off)).trans (h.cell i hi), fun i => (World.frozen?_of_block (a := ⟨p, i, none⟩) (e p hpl h.off)).trans (h.fz i), .inl h.xp, ?_, hL, ?_, h.hv, h.hg, ?_, ?_, h.ne, ?_, ?_⟩, hp.1.weaken (fun k hk => (h.log.lt hk).2.2), ?_⟩
  · intro k hk
    rcases hk with hk | hk
    · exact ⟨(h.rng k hk).1, Nat.lt_of_lt_of_le (h.rng k hk).2 hp.size⟩
    · have := hL.lt hk
      exact ⟨this.2.1, this.1⟩
  · intro hs
    rcases hp.2 p hs with h1 | h1
    · exact h.off h1
    · omega
  · intro b hb
    have := h.vm b hb
    exact ⟨.inl this.1, mapU_same this.2 (e b (mapU_lt this.2) (h.vne hb).2.1)⟩
  · intro b hb
    have := h.gm b hb
    exact ⟨.inl this.1, mapP_same this.2 (e b (mapP_lt this.2) (h.gne hb).2.1)⟩
  · exact outR_same h.om (fun g hg => e g ((h.rng g (h.ox g hg).1).2) (h.ox g hg).2.2)
  · intro k hk
    have h1 := h.ox k hk
    refine ⟨.inl h1.1, h1.2.1, fun hs => ?_⟩
    rcases hp.2 k hs with h2 | h2
    · exact h1.2.2 h2
    · have := (h.rng k h1.1).2; omega
  · intro k hk
    rcases hk with hk | hk
    · exact .inl hk
    · rcases hp.2 k hk with h1 | h1
      · exact .inl (h.log.lt h1).2.2
      · exact .inr h1

/-- the entry that a leader adds -/
def Nd.newE (N : Nd) (k : Int) (d : List Int) : Ent := ⟨N.last + 1, N.term, k, d⟩
noncomputable def Nd.added (N : Nd) (k : Int) (d : List Int) : Nd := { N with L := (appL N.L [N.newE k d]).2 }

theorem fits_new (N : Nd) (k : Int) (d : List Int) : Fits N.L [N.newE k d] := by
  refine ⟨?_, ?_, ?_⟩
  · show N.L.s.i + 1 ≤ N.last + 1
    unfold Nd.last
    omega
  · show N.last + 1 ≤ _
    unfold Nd.last
    omega
  · intro j hj
    simp at hj
    subst hj
    simp

theorem added_L (N : Nd) (k : Int) (d : List Int) : (N.added k d).L.s = N.L.s ∧ (N.added k d).L.es = N.L.es ++ [N.newE k d] := by
  unfold Nd.added
  rw [appL_yes (by simp) (fits_new N k d)]
  refine ⟨rfl, ?_⟩
  show N.L.es.take _ ++ _ = _
  rw [List.take_of_length_le]
  show N.L.es.length ≤ (N.last + 1 - (N.L.s.i + 1)).toNat
  unfold Nd.last
  omega

theorem added_dirty (N : Nd) (k : Int) (d : List Int) (h : U64 N.L.dirty) (hi : N.L.s.i + N.L.es.length + 1 ≤ 18446744073709551615) (h0 : 0 ≤ N.L.s.i) : U64 (N.added k d).L.dirty := by
  unfold Nd.added
  rw [appL_yes (by simp) (fits_new N k d)]
  show U64 (if _ then _ else _)
  split
  · show U64 (N.last + 1)
    unfold Nd.last
    exact ⟨by omega, hi⟩
  · exact h

theorem good_added {z : Nat} {N : Nd} {k : Int} {d : List Int} (h : N.Ok z) (hz : z ≤ 40000) (hk : -9223372036854775808 ≤ k ∧ k ≤ 9223372036854775807) (hd : d.length ≤ 5000) : (N.added k d).L.Good := by
  obtain ⟨hs, he⟩ := added_L N k d
  have hG := h.good
  have hn := h.n
  have h62 := h.i62
  refine ⟨by rw [hs]; exact hG.i0, by rw [hs]; exact hG.i1, by rw [hs]; exact hG.t0, by rw [hs]; exact hG.t1, by rw [hs]; exact hG.m0, by rw [hs]; exact hG.m1, by rw [hs]; exact hG.d1, ?_, ?_, ?_, ?_, ?_⟩
  · rw [he, List.length_append]; simp; omega
  · intro j hj
    rw [hs, he]
    rw [he, List.length_append] at hj
    simp at hj
    rcases Nat.lt_or_ge j N.L.es.length with h1 | h1
    · have := hG.at_ j h1
      rw [← this]
      simp [List.getD, List.getElem?_append_left h1]
    · have e : j = N.L.es.length := by omega
      subst e
      simp [List.getD, Nd.newE, Nd.last]
      omega
  · intro e hm
    rw [he] at hm
    rcases List.mem_append.1 hm with h1 | h1
    · exact hG.ok e h1
    · simp at h1
      subst h1
      refine ⟨⟨?_, h.term, hk⟩, Nat.le_trans hd (by decide)⟩
      show 0 ≤ N.last + 1 ∧ N.last + 1 ≤ _
      unfold Nd.last
      have := hG.i0
      omega
  · exact (added_dirty N k d ⟨hG.y0, hG.y1⟩ (by omega) hG.i0).1
  · exact (added_dirty N k d ⟨hG.y0, hG.y1⟩ (by omega) hG.i0).2

theorem ok_added {z : Nat} {N : Nd} {k : Int} {d : List Int} (h : N.Ok z) (hz : z ≤ 40000) (hk : -9223372036854775808 ≤ k ∧ k ≤ 9223372036854775807) (hd : d.length ≤ 5000) : (N.added k d).Ok (z + 1) := by
  obtain ⟨hs, he⟩ := added_L N k d
  refine ⟨good_added h hz hk hd, ?_, by rw [hs]; exact h.m9, by rw [hs]; exact h.i62, ?_, h.r1, h.r2, h.id, h.term, h.vote, h.leader, h.ticks, h.commit, h.given⟩
  · rw [he, List.length_append]
    have := h.n
    simp
    omega
  · intro e hm
    rw [he] at hm
    rcases List.mem_append.1 hm with h1 | h1
    · exact h.d e h1
    · simp at h1
      subst h1
      exact hd

theorem fw_added (N : Nd) (k : Int) (d : List Int) : Fw N (N.added k d) := by
  obtain ⟨hs, he⟩ := added_L N k d
  exact ⟨rfl, Int.le_refl _, Int.le_refl _, fun _ _ => rfl, by rw [hs]; exact Int.le_refl _, fun e hm _ _ => by rw [he]; exact List.mem_append.2 (.inl hm), fun x => by rw [hs]; exact x⟩

set_option maxHeartbeats 2000000 in
theorem add_any (X : Nat → Prop) (base p z : Nat) (N : Nd) (k : Int) (da : Option Addr) (dn dc : Nat) (d : List Int) (w : World) (h : IsNd X w base p z N) (hO : N.Ok z) (hz : z ≤ 40000) (hk : -9223372036854775808 ≤ k ∧ k ≤ 9223372036854775807) (hd : DatB X w da dn dc d) (hdl : d.length ≤ 5000) :
    Calls Tryz.prog 66 #[.pointer (some ⟨p, 0, none⟩), .int .i64 k, .slice da dn dc] w fun e w' => e = .returned (.int .u64 (N.last + 1)) ∧ NPost X w base p z (fun N' => N' = N.added k d) w' := by
  obtain ⟨q, va, ga, out, h⟩ := h
  have H := hide h
  have c1 : w.cell? ⟨p, 1, none⟩ = some (.int .u64 N.term) := h.cell 1 (by decide)
  have c3 : w.cell? ⟨p, 3, none⟩ = some (.pointer (some ⟨q, 0, none⟩)) := h.cell 3 (by decide)
  have hG := hO.good
  have HLa := hide (fun W (hW : Below w.heap.size w W) => nlast_any X base q N.L W (h.log.keep hW) hG)
  have hql := h.log.at
  have hpl := h.at.2
  have hi0 := hG.i0
  have h62 := hO.i62
  have hn := hO.n
  have hls : N.L.s.i + (N.L.es.length : Int) = N.last := rfl
  have hw1 : IntKind.u64.wrap (N.last + 1) = N.last + 1 := kwrap_u64 _ (by omega) (by omega)
  have HlsB : Hid (0 ≤ N.last + 1 ∧ N.last + 1 ≤ 18446744073709551615) := ⟨by omega, by omega⟩
  have HD := hide hd
  have HO := hide hO
  have hdn : d.length = dn := hd.1.1
  have HApp := hide (fun W (hW : IsN X W base p z N q va ga out) g cap (hE : IsMs (fun k => k = q) W (some ⟨g, 0, none⟩) 1 cap [⟨N.newE k d, da, dn, dc⟩]) (hg : g ≠ q) => app_any X base q N.L (some ⟨g, 0, none⟩) 1 cap [⟨N.newE k d, da, dn, dc⟩] W hW.log hG hE (.inr (fun y hy => by cases hy; exact hg)) (by omega) (by intro m hm; simp at hm; subst hm; show dn ≤ 100000; omega) (by omega) (fun k hk => (hW.rng k hk).2) (by have := hW.at; omega))
  clear h hO hd hG
  go_enter Tryz.func66, Tryz.ntmps66
  go_wp2_with fail
  go_region_held3 (fun W => W.cell? ⟨p, 1, none⟩ = some (.int .u64 N.term) ∧ W.cell? ⟨p, 3, none⟩ = some (.pointer (some ⟨q, 0, none⟩))) (first | go_keep) (first
    | (go_at_call 81; go_must (refine (HLa.out _ (by repeat (first | exact Below.refl _ _ | refine bel_alloc ?_ _ | refine Below.drew ?_))).mono ?_); rintro e w2 ⟨rfl, hw⟩; have hw := hw.symm; subst hw))
  all_goals
    have hqs : w.heap.size + 1 ≠ q := by omega
    have hqs2 : w.heap.size ≠ q := by omega
    have hXB : ¬ X w.heap.size := fun hx => by have := (H.out.rng _ hx).2; omega
    have hsz : (w.alloc (.cells #[.int .u64 (N.last + 1), .int .u64 N.term, .int .i64 k, .slice da dn dc] 76)).heap.size = w.heap.size + 1 := by simp
    have HMs : Hid (IsMs (fun k => k = q) ((w.alloc (.cells #[.int .u64 (N.last + 1), .int .u64 N.term, .int .i64 k, .slice da dn dc] 76)).alloc (.cells #[.int .u64 (N.last + 1), .int .u64 N.term, .int .i64 k, .slice da dn dc] 76)).drew.drew.drew (some ⟨w.heap.size + 1, 0, none⟩) 1 1 [⟨N.newE k d, da, dn, dc⟩]) :=
      isMs_one _ _ _ _ (by simp) ((cellM_new _ (N.newE k d) da dn dc _ _ hsz).same rfl) ⟨⟨HlsB.out, HO.out.term, hk⟩, ((HD.out.more (Y := fun k => k = q) (fun k e => .inl (e ▸ (H.out.log.lt SB.at).2.2))).keep (by repeat (first | exact Below.refl _ _ | refine bel_alloc ?_ _ | refine Below.drew ?_)))⟩
    clear hsz
    go_wp2_with fail
    go_region_with (first
      | (go_at_call 13; go_must (refine (HApp.out _ (H.out.keep (by repeat (first | exact Below.refl _ _ | refine bel_alloc ?_ _ | refine Below.drew ?_))) (w.heap.size + 1) 1 HMs.out hqs).mono ?_); rintro e w5 ⟨rfl, hL5, hp5⟩; have HP5 := hide (IsN.logged (H.out.keep (by repeat (first | exact Below.refl _ _ | refine bel_alloc ?_ _ | refine Below.drew ?_))) hL5 hp5); have e5 := (HP5.out.2.1.cell (g := w.heap.size) (i := 0) (by simp; omega) hXB).trans (show _ = some (Value.int .u64 (N.last + 1)) from by simp); clear hL5 hp5))
    all_goals
      go_wp2
      go_ret
      exact ⟨rfl, NPost.behind (NPost.ahead (w1 := _) (by repeat (first | exact Below.refl _ _ | refine bel_alloc ?_ _ | refine Below.drew ?_)) ⟨_, _, HP5.out.1.any, rfl, HP5.out.2.1, HP5.out.2.2⟩) (by repeat (first | exact Below.refl _ _ | refine bel_alloc ?_ _ | refine Below.drew ?_))⟩

end Go.Proofs.YtodmieehdleohaaGreat

namespace Go.Proofs.YtodmieehdleohaaGreat
open Go.RowKit NumMath
set_option linter.unusedVariables false
set_option maxRecDepth 100000

theorem one_of {l S : List Int} {id ls : Int} (hl : S.length = l.length) (h : ∀ j, j < l.length → l.getD j 0 = id → S.getD j 0 = ls) (e : l = [id]) : S = [ls] := by
  subst e
  match S, hl with
  | [x], _ =>
    have := h 0 (by simp) rfl
    simp at this
    rw [this]

set_option maxHeartbeats 2000000 in
theorem matched_any (X : Nat → Prop) (base p z : Nat) (N : Nd) (a : Option Addr) (m c : Nat) (l : List Int) (w : World) (h : IsNd X w base p z N) (hO : N.Ok z) (hhg : N.hg = true) (hz : z ≤ 40000) (hI : IsNums w a m c l) (hm : m ≤ 9) :
    Calls Tryz.prog 141 #[.pointer (some ⟨p, 0, none⟩), .slice a m c] w fun e w' => ∃ u, e = .returned (.int .u64 u) ∧ U64 u ∧ (l = [N.id] → u = N.last) ∧ Below w.heap.size w w' := by
  obtain ⟨q, va, ga, out, h⟩ := h
  have hG := hO.good
  obtain ⟨b, rfl⟩ : ∃ b, ga = some b := by
    have := h.hg
    rw [hhg] at this
    exact Option.isSome_iff_exists.1 this
  have H := hide h
  have hpl := h.at.2
  have HC := hide (fun W (hW : Below w.heap.size w W) => (show W.cell? ⟨p, 0, none⟩ = some (.int .u64 N.id) ∧ W.cell? ⟨p, 3, none⟩ = some (.pointer (some ⟨q, 0, none⟩)) ∧ W.cell? ⟨p, 10, none⟩ = some (.map (some b)) from ⟨(h.keep hW).cell 0 (by decide), (h.keep hW).cell 3 (by decide), (h.keep hW).cell 10 (by decide)⟩))
  have HM := hide (fun W (hW : Below w.heap.size w W) => ((h.keep hW).gm b rfl).2)
  have HLa := hide (fun W (hW : Below w.heap.size w W) => nlast_any X base q N.L W (h.log.keep hW) hG)
  have hls : N.L.s.i + (N.L.es.length : Int) = N.last := rfl
  have HlsU : Hid (U64 N.last) := by have h1 := hG.i0; have h2 := hO.i62; have h3 := hO.n; exact ⟨by omega, by omega⟩
  have HI := hide hI
  have HLn := hide hI.1
  have hmx := hI.2.2.1
  have hmc := hI.2.1
  unfold maxLen at hmx
  have hf1 := field1P
  clear h hO hG hI
  go_enter Tryz.func141, Tryz.ntmps141
  go_wp2
  go_loopg [5, 10] m (fun gk v i wr => ∃ (k : Nat) (S : List Int), gk = m - k ∧ k ≤ m ∧ i = .int .i64 k ∧ OwnU wr w.heap.size v S ∧ S.length = k ∧ (∀ x ∈ S, U64 x) ∧ (∀ j, j < k → l.getD j 0 = N.id → S.getD j 0 = N.last) ∧ Below w.heap.size w wr)
  case atStart => exact ⟨0, [], rfl, Nat.zero_le _, rfl, ownU_nil _ _, rfl, by simp, fun j hj => by omega, Below.refl _ _⟩
  case round =>
    obtain ⟨k, S, rfl, hk, rfl, hO, hSl, hSr, hSj, hb⟩ := hrel
    have HO := hide hO
    have HB := hide hb
    have HSl := hide hSl
    have HSr := hide hSr
    have HSj := hide hSj
    have hwr := hb.size
    obtain ⟨c0, c3, c10⟩ := HC.out _ hb
    have hpr : p < wr.heap.size := by omega
    clear hO hb hSl hSr hSj
    by_cases hlt : k < m
    · obtain ⟨g, off, rfl, hg, hN⟩ := HI.out.at hlt
      have hk' : k < l.length := by rw [HLn.out]; exact hlt
      have hc := (HB.out.cell (p := ⟨g, off + k, none⟩) hg).trans (hN k hk')
      have hxr := HI.out.2.2.2.1 _ (getD_mem l k hk')
      obtain ⟨x, hx⟩ : ∃ x, l.getD k 0 = x := ⟨_, rfl⟩
      rw [hx] at hc hxr
      have HX := hide hx
      have HXr := hide hxr
      obtain ⟨va', n', c', rfl, -, -⟩ := HO.out.is HSr.out
      have HStep : Hid (∀ y, (x = N.id → y = N.last) → ∀ j, j < k + 1 → l.getD j 0 = N.id → (S ++ [y]).getD j 0 = N.last) := by
        intro y hy j hj hid
        rcases Nat.lt_succ_iff_lt_or_eq.1 hj with h1 | h1
        · have := HSj.out j h1 hid
          rw [← this]
          have : j < S.length := by rw [HSl.out]; exact h1
          simp [List.getD, List.getElem?_append_left this]
        · subst h1
          rw [HX.out] at hid
          have e : (S ++ [y]).getD j 0 = y := by rw [← HSl.out]; simp [List.getD]
          rw [e]
          exact hy hid
      have HAdd : Hid (∀ y, U64 y → ∀ u ∈ S ++ [y], U64 u) := by
        intro y hy u hu
        rcases List.mem_append.1 hu with h1 | h1
        · exact HSr.out u h1
        · simp at h1; rw [h1]; exact hy
      clear hN hk' hx hxr
      by_cases he : x = N.id
      · have hz : (x == N.id) = true := by simpa using he
        go_wp2_with (first
          | (go_at_call 81; go_must (refine (HLa.out _ HB.out).mono ?_); rintro e w2 ⟨rfl, hw⟩; have hw := hw.symm; subst hw)
          | (at_builtin; go_must (refine wp_joinU _ rfl (.tmp 20) (.tmp 26) rfl w.heap.size _ S rfl ((HO.out.keep (Below.refl _ _).drew).keep (new_below _ _)) (some ⟨wr.heap.size, 0, none⟩) 1 1 [N.last] rfl (u64_cell _ _ _ rfl) (by have := HSl.out; simp; omega) (by simp; omega) ?_); intro v3 w3 hown3 hg3 hat3; have HO3 := hide hown3; have HB3 := hide ((HB.out.drew.alloc hwr (.cells #[.int .u64 N.last] 22)).trans (((HO.out.keep (Below.refl _ _).drew).keep (new_below _ _)).grown hg3 (by simp; omega))); clear hown3 hg3 hat3))
        go_roundg (m - (k + 1))
        case measure => omega
        case rel => exact ⟨k + 1, S ++ [N.last], rfl, by omega, by go_num, HO3.out, by simp [HSl.out], HAdd.out _ HlsU.out, HStep.out _ (fun _ => rfl), HB3.out⟩
      · have hz : (x == N.id) = false := by simpa using he
        go_wp2_with (first
          | (at_lookup; go_must (refine wp_lookP _ rfl (.tmp 32) (.tmp 33) rfl b z rfl (HM.out _ HB.out) x HXr.out rfl ?_); intro nx mt hnx hmt; have HMt := hide hmt; clear hnx hmt)
          | (at_builtin; go_must (refine wp_joinU _ rfl (.tmp 28) (.tmp 36) rfl w.heap.size _ S rfl (HO.out.keep (new_below _ _)) (some ⟨wr.heap.size, 0, none⟩) 1 1 [mt] rfl (u64_cell _ _ _ rfl) (by have := HSl.out; simp; omega) (by simp; omega) ?_); intro v3 w3 hown3 hg3 hat3; have HO3 := hide hown3; have HB3 := hide ((HB.out.alloc hwr (.cells #[.int .u64 mt] 22)).trans ((HO.out.keep (new_below _ _)).grown hg3 (by simp; omega))); clear hown3 hg3 hat3))
        go_roundg (m - (k + 1))
        case measure => omega
        case rel => exact ⟨k + 1, S ++ [mt], rfl, by omega, by go_num, HO3.out, by simp [HSl.out], HAdd.out _ HMt.out, HStep.out _ (fun e => absurd e he), HB3.out⟩
    · have hkm : k = m := by omega
      subst hkm
      clear c0 c3 c10
      rcases HO.out.form with ⟨rfl, hnil⟩ | ⟨g, cap, rfl, hg, hgl, hlc, hcm, hN⟩
      · have hk0 : k = 0 := by rw [← HSl.out, hnil]; rfl
        subst hk0
        go_wp2
        go_ret
        exact ⟨0, rfl, ⟨by decide, by decide⟩, fun e => by have := HLn.out; rw [e] at this; simp at this, HB.out⟩
      · rw [HSl.out] at hlc
        have HRU : RU wr g k cap S := ⟨HSl.out, by have := HO.out; rw [HSl.out] at this; exact ownU_at this⟩
        have HSt := hide (sort_any g k cap S wr HRU (by omega))
        clear HRU hN
        rw [HSl.out]
        by_cases hk0 : k = 0
        · subst hk0
          go_wp2
          go_ret
          exact ⟨0, rfl, ⟨by decide, by decide⟩, fun e => by have := HLn.out; rw [e] at this; simp at this, HB.out⟩
        · have hk1 : ((k : Int) == 0) = false := by simpa using hk0
          go_wp2_with (first
            | (go_at_call 145; go_must (refine HSt.out.mono ?_); rintro e w5 ⟨rfl, ys, hR5, hSh, -, hK5⟩; have c5 := hR5.cell (i := (k - 1) / 2) (by omega); have HR5 := hide hR5; have HSh := hide hSh; have HK5 := hide hK5; obtain ⟨u, hu⟩ : ∃ u, ys.getD ((k - 1) / 2) 0 = u := ⟨_, rfl⟩; rw [hu] at c5; have HU := hide hu; clear hR5 hSh hK5 hu))
          go_ret
          have hur : u ∈ ys := by rw [← HU.out]; exact getD_mem _ _ (by rw [HR5.out.len]; omega)
          refine ⟨u, rfl, HSr.out u (HSh.out.perm.mem_iff.1 hur), fun e => ?_, HB.out.trans (HK5.out.below hwr (fun j e => by rw [e]; exact hg))⟩
          have hS := one_of (S := S) (l := l) (ls := N.last) (by rw [HSl.out, HLn.out]) (fun j hj => HSj.out j (by rw [HLn.out] at hj; exact hj)) e
          have := HSh.out.perm.mem_iff.1 hur
          rw [hS] at this
          simpa using this

end Go.Proofs.YtodmieehdleohaaGreat

namespace Go.Proofs.YtodmieehdleohaaGreat
open Go.RowKit NumMath
set_option linter.unusedVariables false
set_option maxRecDepth 100000

/-- what the commit rule makes of a node -/
def Commits (N N' : Nd) : Prop := ∃ cm r l, N' = { N with commit := cm, role := r, leader := l } ∧ N.commit ≤ cm ∧ U64 cm ∧ ((r = N.role ∧ l = N.leader) ∨ (r = 0 ∧ l = 0)) ∧
  (N.mem = [N.id] → N.commit < N.last → N.L.s.i + 1 ≤ N.last → (termL N.L N.last).1 = N.term → cm = N.last ∧ r = N.role ∧ l = N.leader)

theorem Commits.fw {N N' : Nd} (h : Commits N N') : Fw N N' := by
  obtain ⟨cm, r, l, rfl, h1, _⟩ := h
  exact Fw.same rfl rfl rfl h1 rfl

theorem Commits.ok {z : Nat} {N N' : Nd} (h : Commits N N') (hO : N.Ok z) : N'.Ok z := by
  obtain ⟨cm, r, l, rfl, h1, h2, h3, _⟩ := h
  refine ⟨hO.good, hO.n, hO.m9, hO.i62, hO.d, ?_, ?_, hO.id, hO.term, hO.vote, ?_, hO.ticks, h2, hO.given⟩
  · intro e
    rcases h3 with ⟨rfl, rfl⟩ | ⟨rfl, rfl⟩
    · exact hO.r1 e
    · cases e
  · intro e
    rcases h3 with ⟨rfl, rfl⟩ | ⟨rfl, rfl⟩
    · exact hO.r2 e
    · cases e
  · rcases h3 with ⟨rfl, rfl⟩ | ⟨rfl, rfl⟩
    · exact hO.leader
    · show U64 0; exact ⟨by decide, by decide⟩

theorem Commits.hg {N N' : Nd} (h : Commits N N') : N'.hg = N.hg ∧ N'.L = N.L ∧ N'.id = N.id ∧ N'.term = N.term := by
  obtain ⟨cm, r, l, rfl, _⟩ := h
  exact ⟨rfl, rfl, rfl, rfl⟩

set_option maxHeartbeats 2000000 in
theorem commitM_any (X : Nat → Prop) (base p z : Nat) (N : Nd) (w : World) (h : IsNd X w base p z N) (hO : N.Ok z) (hhg : N.hg = true) (hz : z ≤ 40000) :
    Calls Tryz.prog 117 #[.pointer (some ⟨p, 0, none⟩)] w fun e w' => e = .returned (.tuple #[]) ∧ NPost X w base p z (Commits N) w' := by
  have HMe := hide (members_any X base p z N w h hO.good)
  have H := hide h
  have HO := hide hO
  have hG := hO.good
  have h9 := hO.nine
  have hpl := h.at.2
  clear h hO
  go_enter Tryz.func117, Tryz.ntmps117
  go_wp2_with (first
    | (go_at_call 141; go_must (refine (matched_any X base p z N a1 n1 d1 N.mem _ (H.out.keep HB1.out) HO.out hhg hz HI1.out (by have := HLn.out; omega)).mono ?_); rintro e w2 ⟨u, rfl, hu, hul, hb2⟩; have HU := hide hu; have HUl := hide hul; have HB2 := hide hb2; clear hu hul hb2)
    | (go_at_call 70; go_must (refine HMe.out.mono ?_); rintro e w1 ⟨v1, rfl, hown1, hok1, hb1⟩; obtain ⟨a1, n1, d1, rfl, hI1, hy1⟩ := hown1.is hok1; have HI1 := hide hI1; have HY1 := hide hy1; have HLn := hide hI1.1; have HB1 := hide hb1; clear hown1 hok1 hb1 hI1 hy1))
  have HBw := hide (HB1.out.trans (HB2.out.mono HB1.out.size))
  have HI2 := hide (HI1.out.keep HB2.out)
  have hi0 := hG.i0
  have hcmU := HO.out.commit
  go_loopg [4] u.toNat (fun gk s4 wr => ∃ i cm : Int, gk = i.toNat ∧ s4 = .int .u64 i ∧ U64 i ∧ i ≤ u ∧ N.commit ≤ cm ∧ U64 cm ∧ (N.commit < u ∧ N.L.s.i + 1 ≤ u ∧ (termL N.L u).1 = N.term → (i = u ∧ cm = N.commit) ∨ cm = u) ∧ IsNd X wr base p z { N with commit := cm } ∧ Keeps X w2 wr)
  case atStart => exact ⟨u, N.commit, rfl, rfl, HU.out, Int.le_refl _, Int.le_refl _, hcmU, fun _ => .inl ⟨rfl, rfl⟩, H.out.keep HBw.out, Keeps.self _ _⟩
  case round =>
    obtain ⟨i, cm, rfl, rfl, hi, hiu, hcm, hcU, hhit, hN, hK⟩ := hrel
    have HN := hide hN
    have HK := hide hK
    have HI := hide hi
    have HHit := hide hhit
    have c0 : wr.cell? ⟨p, 0, none⟩ = some (.int .u64 N.id) := hN.c.1
    have c1 : wr.cell? ⟨p, 1, none⟩ = some (.int .u64 N.term) := hN.c.2.1
    have c7 : wr.cell? ⟨p, 7, none⟩ = some (.int .u64 cm) := hN.c.2.2.2.2.2.2.1
    have f7 := hN.fz 7
    obtain ⟨q, c3, hL⟩ := hN.log
    have HF := hide (nfirst_any X base q N.L wr hL hG)
    have HT := hide (term_any X base q N.L i wr hL hG hi.1)
    have hpr := hN.at.2
    have HCt := hide (fun W (hW : Below wr.heap.size wr W) => contains_any a1 n1 d1 N.mem N.id W ((HI2.out.lies HK.out (.inr (fun y hy hx => by have h1 := (H.out.rng _ hx).2; have h2 := (HY1.out y hy).1; omega))).keep hW))
    have HFo := hide (fun W (hW : Below wr.heap.size wr W) => follow_any X base p z { N with commit := cm } 0 W (hN.keep hW))
    clear hN hK hhit hL
    by_cases hgt : cm < i
    · by_cases hge : N.L.s.i + 1 ≤ i
      · have hw1 : IntKind.u64.wrap (i - 1) = i - 1 := kwrap_u64 _ (by omega) (by omega)
        have hge' : ¬ i < N.L.s.i + 1 := by omega
        by_cases ht : (termL N.L i).1 = N.term
        · have ht' : ((termL N.L i).1 == N.term) = true := by simpa using ht
          go_wp2_with (first
            | (go_at_call 33; go_must (refine HF.out.mono ?_); rintro e w3 ⟨rfl, hw⟩; have hw := hw.symm; subst hw)
            | (go_at_call 112; go_must (refine HT.out.mono ?_); rintro e w4 ⟨rfl, hb4⟩; have HB4 := hide hb4; have c14 := (hb4.cell (p := ⟨p, 1, none⟩) hpr).trans c1; have c74 := (hb4.cell (p := ⟨p, 7, none⟩) hpr).trans c7; have f74 := (hb4.frozen (p := ⟨p, 7, none⟩) hpr).trans f7; clear hb4))
          go_roundg (i - 1).toNat
          case measure => omega
          case rel => exact ⟨i - 1, i, rfl, rfl, ⟨by omega, by omega⟩, by omega, by omega, HI.out, fun hh => (HHit.out hh).elim (fun h1 => .inr h1.1) (fun h1 => by omega), (HN.out.keep HB4.out).set 7 (.int .u64 i) { N with commit := i } (by decide) (fun _ _ _ _ => rfl) rfl rfl rfl, (HK.out.thenBelow HB4.out).thenSet H.out.xp _⟩
        · have ht' : ((termL N.L i).1 == N.term) = false := by simpa using ht
          go_wp2_with (first
            | (go_at_call 33; go_must (refine HF.out.mono ?_); rintro e w3 ⟨rfl, hw⟩; have hw := hw.symm; subst hw)
            | (go_at_call 112; go_must (refine HT.out.mono ?_); rintro e w4 ⟨rfl, hb4⟩; have HB4 := hide hb4; have c14 := (hb4.cell (p := ⟨p, 1, none⟩) hpr).trans c1; have c74 := (hb4.cell (p := ⟨p, 7, none⟩) hpr).trans c7; clear hb4))
          go_roundg (i - 1).toNat
          case measure => omega
          case rel => exact ⟨i - 1, cm, rfl, rfl, ⟨by omega, by omega⟩, by omega, hcm, hcU, fun hh => (HHit.out hh).elim (fun h1 => absurd (by rw [h1.1]; exact hh.2.2) ht) .inr, HN.out.keep HB4.out, HK.out.thenBelow HB4.out⟩
      · have hge' : i < N.L.s.i + 1 := by omega
        have HFin : Hid (N.mem = [N.id] → N.commit < N.last → N.L.s.i + 1 ≤ N.last → (termL N.L N.last).1 = N.term → cm = N.last) := by
          intro e h1 h2 h3
          have hu := HUl.out e
          rcases HHit.out (by rw [hu]; exact ⟨h1, h2, h3⟩) with ⟨e1, e2⟩ | e2
          · exfalso
            rw [hu] at e1
            omega
          · exact e2.trans hu
        by_cases hat : N.at_ ≤ cm
        · by_cases hin : N.id ∈ N.mem
          · have hd : decide (N.id ∈ N.mem) = true := by simpa using hin
            go_wp2_with (first
            | (go_at_call 33; go_must (refine HF.out.mono ?_); rintro e w3 ⟨rfl, hw⟩; have hw := hw.symm; subst hw)
            | (go_at_call 105; go_must (refine (HCt.out _ (Below.refl _ _)).mono ?_); rintro e w5 ⟨rfl, hw⟩; have hw := hw.symm; subst hw))
            go_end0
            exact ⟨rfl, NPost.ahead HBw.out (NPost.of HN.out ⟨cm, N.role, N.leader, rfl, hcm, hcU, .inl ⟨rfl, rfl⟩, fun e h1 h2 h3 => ⟨HFin.out e h1 h2 h3, rfl, rfl⟩⟩ HK.out)⟩
          · have hd : decide (N.id ∈ N.mem) = false := by simpa using hin
            go_wp2_with (first
            | (go_at_call 33; go_must (refine HF.out.mono ?_); rintro e w3 ⟨rfl, hw⟩; have hw := hw.symm; subst hw)
            | (go_at_call 59; go_must (refine (HFo.out _ (Below.refl _ _)).mono ?_); rintro e w6 ⟨rfl, hN6, hK6⟩; have HN6 := hide hN6; have HK6 := hide (HK.out.then (fun k h => .inl h) hK6); clear hN6 hK6)
            | (go_at_call 105; go_must (refine (HCt.out _ (Below.refl _ _)).mono ?_); rintro e w5 ⟨rfl, hw⟩; have hw := hw.symm; subst hw))
            go_end0
            exact ⟨rfl, NPost.ahead HBw.out (NPost.of HN6.out ⟨cm, 0, 0, rfl, hcm, hcU, .inr ⟨rfl, rfl⟩, fun e => absurd (by rw [e]; simp) hin⟩ HK6.out)⟩
        · go_wp2_with (first
            | (go_at_call 33; go_must (refine HF.out.mono ?_); rintro e w3 ⟨rfl, hw⟩; have hw := hw.symm; subst hw))
          go_end0
          exact ⟨rfl, NPost.ahead HBw.out (NPost.of HN.out ⟨cm, N.role, N.leader, rfl, hcm, hcU, .inl ⟨rfl, rfl⟩, fun e h1 h2 h3 => ⟨HFin.out e h1 h2 h3, rfl, rfl⟩⟩ HK.out)⟩
    · have HFin : Hid (N.mem = [N.id] → N.commit < N.last → N.L.s.i + 1 ≤ N.last → (termL N.L N.last).1 = N.term → cm = N.last) := by
        intro e h1 h2 h3
        have hu := HUl.out e
        rcases HHit.out (by rw [hu]; exact ⟨h1, h2, h3⟩) with ⟨e1, e2⟩ | e2
        · exfalso
          rw [hu] at e1
          omega
        · exact e2.trans hu
      by_cases hat : N.at_ ≤ cm
      · by_cases hin : N.id ∈ N.mem
        · have hd : decide (N.id ∈ N.mem) = true := by simpa using hin
          go_wp2_with (first
            | (go_at_call 105; go_must (refine (HCt.out _ (Below.refl _ _)).mono ?_); rintro e w5 ⟨rfl, hw⟩; have hw := hw.symm; subst hw))
          go_end0
          exact ⟨rfl, NPost.ahead HBw.out (NPost.of HN.out ⟨cm, N.role, N.leader, rfl, hcm, hcU, .inl ⟨rfl, rfl⟩, fun e h1 h2 h3 => ⟨HFin.out e h1 h2 h3, rfl, rfl⟩⟩ HK.out)⟩
        · have hd : decide (N.id ∈ N.mem) = false := by simpa using hin
          go_wp2_with (first
            | (go_at_call 59; go_must (refine (HFo.out _ (Below.refl _ _)).mono ?_); rintro e w6 ⟨rfl, hN6, hK6⟩; have HN6 := hide hN6; have HK6 := hide (HK.out.then (fun k h => .inl h) hK6); clear hN6 hK6)
            | (go_at_call 105; go_must (refine (HCt.out _ (Below.refl _ _)).mono ?_); rintro e w5 ⟨rfl, hw⟩; have hw := hw.symm; subst hw))
          go_end0
          exact ⟨rfl, NPost.ahead HBw.out (NPost.of HN6.out ⟨cm, 0, 0, rfl, hcm, hcU, .inr ⟨rfl, rfl⟩, fun e => absurd (by rw [e]; simp) hin⟩ HK6.out)⟩
      · go_wp2
        go_end0
        exact ⟨rfl, NPost.ahead HBw.out (NPost.of HN.out ⟨cm, N.role, N.leader, rfl, hcm, hcU, .inl ⟨rfl, rfl⟩, fun e h1 h2 h3 => ⟨HFin.out e h1 h2 h3, rfl, rfl⟩⟩ HK.out)⟩

end Go.Proofs.YtodmieehdleohaaGreat
