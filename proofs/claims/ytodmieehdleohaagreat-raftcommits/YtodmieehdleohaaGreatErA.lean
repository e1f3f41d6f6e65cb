/- entryRecords: a log's entries as records. records: a log's entries as records, behind what they stand behind. records, whole. -/
import Derived.Test.YtodmieehdleohaaGreatSt1
import Derived.Test.YtodmieehdleohaaGreatBkA
import Derived.Test.YtodmieehdleohaaGreatTxA
namespace Go.Proofs.YtodmieehdleohaaGreat
open Go.RowKit NumMath
set_option linter.unusedVariables false
set_option maxRecDepth 100000

theorem OwnN.mono {w : World} {base base' : Nat} {v : Value} {ts : List (List Int)} (h : OwnN w base v ts) (hb : base' ≤ base) : OwnN w base' v ts := by
  obtain ⟨es, ⟨l1, h1⟩, h2, h3⟩ := h
  refine ⟨es, ⟨l1, ?_⟩, h2, fun i hi => ?_⟩
  · rcases h1 with h1 | ⟨g, cap, cur, e, hg, h4⟩
    · exact .inl h1
    · exact .inr ⟨g, cap, cur, e, Nat.le_trans hb hg, h4⟩
  · obtain ⟨u, e1, b, n, c, rfl, e2, e3⟩ := h3 i hi
    exact ⟨_, e1, b, n, c, rfl, e2, e3.imp id (fun q y hy => ⟨(q y hy).1, Nat.le_trans hb (q y hy).2⟩)⟩

theorem ents_all9 {L : LogS} (hG : L.Good) : entsL L (L.s.i + 1) 9223372036854775807 = L.es := by
  by_cases h0 : L.es.length = 0
  · have hn : L.es = [] := List.length_eq_zero_iff.1 h0
    rw [hn]
    unfold entsL
    split
    · rfl
    · rw [hn]; simp
  · rw [entsL_yes (by omega)]
    have e : (L.s.i + 1 - (L.s.i + 1)).toNat = 0 := by omega
    rw [e, List.drop_zero, List.take_of_length_le]
    have := hG.n
    omega

theorem map_take_succ (es : List Ent) (k : Nat) (h : k < es.length) : (es.take (k + 1)).map entB = (es.take k).map entB ++ [entB (es.getD k ent0)] := by
  rw [List.take_succ_eq_append_getElem h, List.map_append]
  simp [List.getD, List.getElem?_eq_getElem h]

set_option maxHeartbeats 2000000 in
theorem entRec_any (X : Nat → Prop) (base q : Nat) (L : LogS) (w : World) (hL : IsL X w base q L) (hG : L.Good) :
    Calls Tryz.prog 78 #[.pointer (some ⟨q, 0, none⟩), .int .u64 (L.s.i + 1)] w fun e w' => ∃ v, e = .returned v ∧ OwnN w' w.heap.size v (L.es.map entB) ∧ Below w.heap.size w w' := by
  have HF := hide (nfirst_any X base q L w hL hG)
  have HEn := hide (ents_any X base q L (L.s.i + 1) 9223372036854775807 w hL hG (by have := hG.i0; omega) (by decide) (by decide))
  rw [ents_all9 hG] at HEn
  have HG := hide hG
  have hgn := hG.n
  clear hL hG
  go_enter Tryz.func78, Tryz.ntmps78
  go_wp2_with (first
    | (go_at_call 33; go_must (refine HF.out.mono ?_); rintro e w2 ⟨rfl, hw⟩; have hw := hw.symm; subst hw)
    | (go_at_call 32; go_must (refine HEn.out.mono ?_); rintro e w1 ⟨b1, n1, d1, ms, rfl, hE1, hR1, hO1, hb1⟩; have HI1 := hide (hR1.is hO1); have HE1 := hide hE1; have HB1 := hide hb1; clear hE1 hR1 hO1 hb1))
  have HLn := hide HI1.out.1
  have hn1 : n1 = L.es.length := by rw [← HLn.out, ← HE1.out, List.length_map]
  have hmx := HI1.out.2.2.1
  have hmc := HI1.out.2.1
  unfold maxLen at hmx
  have hw1 := HB1.out.size
  have HN1 := hide hn1
  have hn5 : n1 ≤ 100000 := by omega
  clear hn1
  go_loopw [5, 15] (fun v i wr => ∃ k : Nat, k ≤ n1 ∧ i = .int .i64 k ∧ OwnN wr w1.heap.size v ((L.es.take k).map entB) ∧ Below w1.heap.size w1 wr) (fun _ i _ => n1 - (intOf i).toNat)
  case atStart => exact ⟨0, Nat.zero_le _, rfl, ownN_nil _ _, Below.refl _ _⟩
  case round =>
    obtain ⟨k, hk, rfl, hO, hb⟩ := hrel
    have HO := hide hO
    have HB := hide hb
    have hwr := hb.size
    clear hO hb
    by_cases hlt : k < n1
    · obtain ⟨g, off, rfl, hg, hC⟩ := HI1.out.at hlt
      have hk' : k < ms.length := by rw [HLn.out]; exact hlt
      have hke : k < L.es.length := by rw [← HN1.out]; exact hlt
      have hcell := (hC k hk').same (HB.out.block g hg)
      have hyok := (HI1.out.2.2.2.1 _ (ment_mem ms k hk'))
      have hye : (ms.getD k ment0).e = L.es.getD k ent0 := by rw [← getD_map_e, HE1.out]
      have hyd := (HG.out.ok _ (show L.es.getD k ent0 ∈ L.es by simp [List.getD, List.getElem?_eq_getElem hke])).2
      have HSt := hide (map_take_succ L.es k hke)
      rw [← hye] at HSt hyd
      obtain ⟨y, hy⟩ : ∃ y, ms.getD k ment0 = y := ⟨_, rfl⟩
      rw [hy] at hcell hyok HSt hyd
      obtain ⟨d0, d1', d2, d3⟩ := hcell
      have HYo := hide hyok
      have hyn : y.n ≤ 100000 := by rw [← hyok.2.1.1]; exact hyd
      have HPu := hide (fun W (hW : Below w1.heap.size w1 W) => putent_any y.e y.b y.n y.c W hyok.1 (hyok.2.1.keep hW) hyn)
      have HTl : Hid (((L.es.take k).map entB).length ≤ 1000000000) := by show _ ≤ _; rw [List.length_map, List.length_take]; omega
      obtain ⟨va, vn, vc, rfl⟩ := HO.out.ownT.form
      clear hC hk' hke hy hye hyd hyok
      go_wp2_with (first
        | (at_builtin; go_must (refine wp_appN _ rfl (.tmp 19) (.tmp 22) rfl w1.heap.size _ _ rfl ((HO.out.keep HBk.out).keep (new_below _ _)) w4.heap.size a4 n4 c4 (entB y.e) rfl (by simp) (hI4.out.keep (new_below _ _)) (.inr (fun z hz => HOf.out z hz)) HTl.out (by have := HS4.out; simp; omega) ?_); intro v5 w5 hown5 hg5 hb5; have HO5 := hide hown5; have HB5 := hide ((HB4.out.alloc HS4.out (.cells #[.slice a4 n4 c4] 26)).trans hb5); clear hown5 hg5 hb5)
        | (go_at_call 126; go_must (refine (HPu.out _ (by exact HB.out.alloc hwr _)).mono ?_); rintro e w4 ⟨r4, rfl, hown4, hb4⟩; obtain ⟨a4, n4, c4, rfl, hI, hy4⟩ := slice_of_own hown4 (entB_range y.e HYo.out.2.1.2.2.2.1); have hI4 := hide hI; have HB4 := hide ((HB.out.alloc hwr _).trans (hb4.mono (by simp; omega))); have HS4 : Hid (w1.heap.size ≤ w4.heap.size) := HB4.out.size; have HBk := hide (Below.trans (b := _) (B := wr.heap.size) (a := wr) (new_below _ _) (hb4.mono (by simp))); have HOf : Hid (∀ z, a4 = some z → (Value.slice va vn vc).ownBlock ≠ some z.block ∧ w1.heap.size ≤ z.block) := (fun z hz => by have h1 := hy4 z hz; simp at h1; refine ⟨fun hq => ?_, by omega⟩; have := (HO.out.lt _ hq).2; omega); clear hown4 hI hy4 hb4))
      go_roundw
      case rel => exact ⟨k + 1, by omega, by go_num, by rw [HSt.out]; exact HO5.out, HB5.out⟩
      case measure => simp [intOf]; omega
    · have hkn : k = n1 := by omega
      subst hkn
      have HTk : Hid (L.es.take k = L.es) := by show _ = _; rw [List.take_of_length_le (by rw [HN1.out]; exact Nat.le_refl _)]
      go_wp2
      go_ret
      have hO2 := HO.out
      rw [HTk.out] at hO2
      exact ⟨_, rfl, hO2.mono hw1, HB1.out.trans (HB.out.mono hw1)⟩

end Go.Proofs.YtodmieehdleohaaGreat

namespace Go.Proofs.YtodmieehdleohaaGreat
open Go.RowKit NumMath
set_option linter.unusedVariables false
set_option maxRecDepth 100000

/-- one list of texts behind another, as it runs -/
theorem run_joinN (w : World) (ty : TypeId) (base b2 : Nat) (v : Value) (ts : List (List Int)) (hown : OwnN w base v ts) (sa : Option Addr) (m c : Nat) (us : List (List Int)) (hs : OwnN w b2 (.slice sa m c) us) (hv : ∀ k, v.ownBlock = some k → k < b2) (hb2 : base ≤ b2) (hbig : ts.length + us.length ≤ 1000000000) (hbase : base ≤ w.heap.size) :
    ∃ v' w', (Builtin.append_ #[66, 66] ty #[v, .slice sa m c]).run Tryz.prog w = .ok v' w' ∧ OwnN w' base v' (ts ++ us) ∧ w.grownBy w' v.ownBlock := by
  obtain ⟨i0, hi, hz0, hz1, hz2⟩ := info_parts infoSl
  obtain ⟨es, h1, h2, h3⟩ := hown
  obtain ⟨fs, g1, g2, g3⟩ := hs
  have hml : us.length = m := by
    rcases g1.2 with ⟨e, e0⟩ | ⟨g, cap, cur, e, _⟩
    · cases e; omega
    · cases e; rfl
  by_cases h0 : us.length = 0
  · have hu : us = [] := List.length_eq_zero_iff.1 h0
    subst hu
    have hm0 : m = 0 := by rw [← hml]; rfl
    subst hm0
    refine ⟨v, w, run_append_empty w base 66 ty 26 i0 1 Tryz.underlying66 hi v ts.length _ h1 sa c, ?_, ⟨rfl, rfl, rfl, Nat.le_refl _, fun _ _ _ => rfl⟩⟩
    rw [List.append_nil]
    exact ⟨es, h1, h2, h3⟩
  · rcases g1.2 with ⟨e, e0⟩ | ⟨g, cap, cur, e, hg, hcur, hle, hcm, hsz, htk⟩
    · omega
    · cases e
      have hcell : ∀ j u, fs[j]? = some u → w.cell? ((⟨g, 0, none⟩ : Addr).add j) = some u := by
        intro j u hu
        have e2 : (⟨g, 0, none⟩ : Addr).add j = ⟨g, j, none⟩ := by unfold Addr.add; split <;> simp_all
        rw [e2]
        unfold World.cell?
        rw [hcur]
        show cur[j]? = some u
        rw [← htk] at hu
        have hj : j < us.length * 1 := by
          have := (List.getElem?_eq_some_iff.1 hu).1
          rw [List.length_take] at this
          omega
        rw [List.getElem?_take_of_lt hj] at hu
        simpa using hu
      have hone : ∀ u ∈ fs, u.oneCell' = true := by
        intro u hu
        obtain ⟨j, hj, e⟩ := List.mem_iff_getElem.1 hu
        obtain ⟨u', e1, b, n, c', rfl, _⟩ := g3 j (by rw [← g2]; exact hj)
        rw [List.getElem?_eq_getElem hj, e] at e1
        cases e1
        rfl
      obtain ⟨v', w', hr, k1, k2, _, k4⟩ := run_append_own_at (P := Tryz.prog) w base 66 ty 26 i0 (.slice none 0 0) 1 24 Tryz.underlying66 hi hz0 hz1 hz2 rfl (by decide) v ts.length es h1 ⟨g, 0, none⟩ us.length c fs (by rw [g2, Nat.mul_one]) hcell hone (by unfold maxLen; omega) (by omega) hbase
      refine ⟨v', w', hr, ⟨es ++ fs, by rw [List.length_append]; exact k1, by rw [List.length_append, List.length_append, h2, g2], ?_⟩, k2⟩
      have hnew : ∀ b n c' t', IsBytes w b n c' t' → (n = 0 ∨ ∀ y, b = some y → v.ownBlock ≠ some y.block ∧ base ≤ y.block) → ElemN w' base v'.ownBlock (.slice b n c') t' := by
        intro b n c' t' e2 e3
        refine ⟨b, n, c', rfl, e2.lies (Keeps.ofGrown k2) (e3.imp id (fun q y hy => (q y hy).1)), ?_⟩
        rcases e3 with e3 | e3
        · exact .inl e3
        · by_cases hn0 : n = 0
          · exact .inl hn0
          · right
            intro y hy
            refine ⟨?_, (e3 y hy).2⟩
            rcases k4 with k4 | k4
            · rw [k4]; exact (e3 y hy).1
            · rw [k4]
              rcases e2.2.2.2.2 with q | ⟨g', off', ha, hg', _⟩
              · exact absurd q hn0
              · rw [hy] at ha
                cases ha
                intro q
                have := Option.some.inj q
                dsimp only at this
                omega
      intro i hi
      rw [List.length_append] at hi
      by_cases hlt : i < ts.length
      · obtain ⟨u, e1, b, n, c', rfl, e2, e3⟩ := h3 i hlt
        refine ⟨_, by rw [List.getElem?_append_left (by omega)]; exact e1, ?_⟩
        have e : (ts ++ us).getD i [] = ts.getD i [] := by simp [List.getD, List.getElem?_append_left hlt]
        rw [e]
        exact hnew b n c' _ e2 e3
      · obtain ⟨u, e1, b, n, c', rfl, e2, e3⟩ := g3 (i - ts.length) (by omega)
        refine ⟨_, by rw [List.getElem?_append_right (by omega), h2]; exact e1, ?_⟩
        have e : (ts ++ us).getD i [] = us.getD (i - ts.length) [] := by simp [List.getD, List.getElem?_append_right (show ts.length ≤ i by omega)]
        rw [e]
        exact hnew b n c' _ e2 (e3.imp id (fun q y hy => ⟨fun hk => by have h5 := hv _ hk; have h6 := (q y hy).2; omega, Nat.le_trans hb2 (q y hy).2⟩))

theorem step_joinN {ops : Array Oper} {o : Oper} {a : Act} {K : Act → World → Prop} {Q : Exit → Act → World → Prop} {E : Prop} (w : World) (hgd : Region.wanted o (yielded ops a.tmps) = true) (s x : Operand)
    (ho : o.op = .call { callee := .builtin .append, args := #[s, x], argTypes := #[66, 66] }) (base b2 : Nat) (v : Value) (ts : List (List Int)) (hs : a.eval s = v) (hown : OwnN w base v ts)
    (sa : Option Addr) (m c : Nat) (us : List (List Int)) (hx : a.eval x = .slice sa m c) (hu : OwnN w b2 (.slice sa m c) us) (hv : ∀ k, v.ownBlock = some k → k < b2) (hb2 : base ≤ b2) (hbig : ts.length + us.length ≤ 1000000000) (hbase : base ≤ w.heap.size)
    (h : ∀ v' w', OwnN w' base v' (ts ++ us) → w.grownBy w' v.ownBlock → K (a.put o.dst v') w') :
    if Region.wanted o (yielded ops a.tmps) = true then Oper.wp Tryz.prog o a w K Q else E := by
  rw [if_pos hgd]
  obtain ⟨v', w', hr, h1, h2⟩ := run_joinN w o.type base b2 v ts hown sa m c us hu hv hb2 hbig hbase
  unfold Oper.wp execOp
  simp only [ho, resolve, invoke, builtin, Sem.run_bind, Sem.run_pure, Result.andThen_ok, List.map_toArray, List.map_cons, List.map_nil, hs, hx, hr]
  exact h v' w' h1 h2

theorem wp_joinN {ops : Array Oper} {rest : List Oper} {o : Oper} {a : Act} {Q : Exit → Act → World → Prop} (w : World) (hgd : o.guard = none) (s x : Operand)
    (ho : o.op = .call { callee := .builtin .append, args := #[s, x], argTypes := #[66, 66] }) (base b2 : Nat) (v : Value) (ts : List (List Int)) (hs : a.eval s = v) (hown : OwnN w base v ts)
    (sa : Option Addr) (m c : Nat) (us : List (List Int)) (hx : a.eval x = .slice sa m c) (hu : OwnN w b2 (.slice sa m c) us) (hv : ∀ k, v.ownBlock = some k → k < b2) (hb2 : base ≤ b2) (hbig : ts.length + us.length ≤ 1000000000) (hbase : base ≤ w.heap.size)
    (h : ∀ v' w', OwnN w' base v' (ts ++ us) → w.grownBy w' v.ownBlock → wpList Tryz.prog ops Q rest (a.put o.dst v') w') : wpList Tryz.prog ops Q (o :: rest) a w :=
  wpList_step fun K hK => step_joinN w (by simp [Region.wanted, hgd]) s x ho base b2 v ts hs hown sa m c us hx hu hv hb2 hbig hbase (fun v' w' h1 h2 => hK _ _ (h v' w' h1 h2))

/-- one text in a list that was just made -/
theorem ownN_one {w : World} {base : Nat} {a : Option Addr} {n c : Nat} {t : List Int} (hI : IsBytes w a n c t) (hy : ∀ y, a = some y → base ≤ y.block) (hb : base ≤ w.heap.size) (g : Nat) (hg : w.heap.size = g) :
    OwnN (w.alloc (.cells #[.slice a n c] 26)) base (.slice (some ⟨g, 0, none⟩) 1 1) [t] := by
  subst hg
  refine ⟨[.slice a n c], ⟨rfl, .inr ⟨w.heap.size, 1, #[.slice a n c], rfl, hb, (MapKept.heap_alloc w _).1, Nat.le_refl _, by decide, rfl, rfl⟩⟩, rfl, fun i hi => ?_⟩
  have e : i = 0 := by simpa using hi
  subst e
  refine ⟨_, rfl, a, n, c, rfl, hI.keep (new_below _ _), ?_⟩
  by_cases h0 : n = 0
  · exact .inl h0
  · right
    intro y hyy
    refine ⟨?_, hy y hyy⟩
    rcases hI.2.2.2.2 with q | ⟨g', off', ha, hg', _⟩
    · exact absurd q h0
    · rw [hyy] at ha
      cases ha
      intro q
      have := Option.some.inj q
      dsimp only at this
      omega

end Go.Proofs.YtodmieehdleohaaGreat

namespace Go.Proofs.YtodmieehdleohaaGreat
open Go.RowKit NumMath
set_option linter.unusedVariables false
set_option maxRecDepth 100000

def headS (L : LogS) : Snp := ⟨L.s.i, L.s.t, [], []⟩


set_option maxHeartbeats 2000000 in
theorem records_any (X : Nat → Prop) (base q : Nat) (L : LogS) (w : World) (hL : IsL X w base q L) (hG : L.Good) :
    Calls Tryz.prog 143 #[.pointer (some ⟨q, 0, none⟩)] w fun e w' => ∃ v, e = .returned v ∧ OwnN w' w.heap.size v (snapB (headS L) :: L.es.map entB) ∧ Below w.heap.size w w' := by
  have HSn := hide (snap_any X base q L w hL hG)
  have HPs := hide (fun W => putsnap_any (headS L) none 0 0 none 0 0 W ⟨hG.i0, by show L.s.i ≤ _; have := hG.i1; omega⟩ ⟨hG.t0, hG.t1⟩ (isNums_nil W) ⟨rfl, Nat.le_refl _, Nat.zero_le _, by simp [headS], .inl rfl⟩ (by decide) (by decide))
  have HF := hide (fun W (hW : Below w.heap.size w W) => nfirst_any X base q L W (hL.keep hW) hG)
  have HEr := hide (fun W (hW : Below w.heap.size w W) => entRec_any X base q L W (hL.keep hW) hG)
  have hgn := hG.n
  have HRg := hide (snapB_range (headS L) (by simp [headS]))
  clear hL hG
  go_enter Tryz.func143, Tryz.ntmps143
  go_wp2_with (first
    | (at_builtin; go_must (refine wp_joinN _ rfl (.tmp 14) (.tmp 18) rfl w.heap.size (w3.heap.size + 1) _ [snapB (headS L)] rfl HO5.out a5 n5 c5 (L.es.map entB) rfl HU5.out (fun k hk => by cases hk; show w3.heap.size < _; omega) (by have := HS3.out; omega) (by simp; omega) (by have := HS5.out; omega) ?_); intro v6 w6 hown6 hg6; have HO6 := hide hown6; have HB6 := hide (HB5.out.trans (Below.ofGrown hg6 (by have := HS5.out; omega) (fun k hk => by cases hk; exact HS3.out))); clear hown6 hg6)
    | (go_at_call 78; go_must (refine (HEr.out _ (by exact HB4.out)).mono ?_); rintro e w5 ⟨v5, rfl, hu5, hb5⟩; obtain ⟨a5, n5, c5, rfl⟩ := hu5.ownT.form; have HU5 : Hid (OwnN w5 (w3.heap.size + 1) (.slice a5 n5 c5) (L.es.map entB)) := (by have := hu5; simp at this; exact this); have HO5 := hide (HO4.out.keep hb5); have HB5 := hide (HB4.out.trans (hb5.mono HB4.out.size)); have HS5 : Hid (w.heap.size ≤ w5.heap.size) := HB5.out.size; clear hu5 hb5)
    | (go_at_call 33; go_must (refine (HF.out _ (by exact HB4.out)).mono ?_); rintro e w4 ⟨rfl, hw⟩; have hw := hw.symm; subst hw)
    | (go_at_call 76; go_must (refine (HPs.out _).mono ?_); rintro e w3 ⟨r3, rfl, hown3, hb3⟩; obtain ⟨a3, n3, c3, rfl, hI3, hy3⟩ := slice_of_own hown3 HRg.out; have HB3 := hide (HB2.out.trans (hb3.mono HB2.out.size)); have HS3 : Hid (w.heap.size ≤ w3.heap.size) := HB3.out.size; have HO4 := hide (ownN_one (base := w.heap.size) hI3 (fun y hy => Nat.le_trans HB2.out.size (hy3 y hy)) HS3.out w3.heap.size rfl); have HB4 := hide (HB3.out.alloc HS3.out (.cells #[.slice a3 n3 c3] 26)); clear hown3 hb3 hI3 hy3)
    | (go_at_call 73; go_must (refine HSn.out.mono ?_); rintro e w2 ⟨a1, n1, d1, a2, n2, d2, rfl, -, -, -, -, hb2⟩; have HB2 := hide (hb2.alloc hb2.size (.cells #[.int .u64 L.s.i, .int .u64 L.s.t, .slice a1 n1 d1, .slice a2 n2 d2] 28)); clear hb2))
  go_ret
  exact ⟨_, rfl, HO6.out, HB6.out⟩

end Go.Proofs.YtodmieehdleohaaGreat
