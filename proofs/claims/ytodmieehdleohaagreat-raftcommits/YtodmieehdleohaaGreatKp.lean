/- What Append leaves is a log again; the law RlogKeeps, walked. -/
import Derived.Test.YtodmieehdleohaaGreatRlA
import Derived.Test.YtodmieehdleohaaGreatOpen8
import Derived.BigQuiet
namespace Go.Proofs.YtodmieehdleohaaGreat
open Go.RowKit NumMath
set_option linter.unusedVariables false
set_option maxRecDepth 100000

theorem getD_append_l (xs ys : List Ent) (j : Nat) (h : j < xs.length) : (xs ++ ys).getD j ent0 = xs.getD j ent0 := by simp [List.getD, List.getElem?_append_left h]
theorem getD_append_r (xs ys : List Ent) (j : Nat) (h : xs.length ≤ j) : (xs ++ ys).getD j ent0 = ys.getD (j - xs.length) ent0 := by simp [List.getD, List.getElem?_append_right h]
theorem getD_take_e (xs : List Ent) (k j : Nat) (h : j < k) : (xs.take k).getD j ent0 = xs.getD j ent0 := by simp [List.getD, h]
theorem ent_mem (es : List Ent) (k : Nat) (h : k < es.length) : es.getD k ent0 ∈ es := by
  have : es.getD k ent0 = es[k] := by simp [List.getD, List.getElem?_eq_getElem h]
  rw [this]; exact List.getElem_mem h

theorem good_app {L : LogS} {es : List Ent} (hG : L.Good) (hes : ∀ e ∈ es, e.ok ∧ e.d.length ≤ 100000) (hn : L.es.length + es.length ≤ 100000) : (appL L es).2.Good := by
  by_cases h0 : es = []
  · subst h0; rw [appL_nil]; exact hG
  · by_cases hF : Fits L es
    · rw [appL_yes h0 hF]
      obtain ⟨f1, f2, f3⟩ := hF
      have hpos : 0 < es.length := List.length_pos_iff.2 h0
      have ok0 := (hes _ (ent_mem es 0 hpos)).1.1
      obtain ⟨k0, hk0⟩ : ∃ k0 : Nat, (es.getD 0 ent0).i = L.s.i + 1 + k0 := ⟨((es.getD 0 ent0).i - (L.s.i + 1)).toNat, by omega⟩
      have hkn : ((es.getD 0 ent0).i - (L.s.i + 1)).toNat = k0 := by omega
      rw [hkn]
      have hke : k0 ≤ L.es.length := by omega
      have htl : (L.es.take k0).length = k0 := by rw [List.length_take]; omega
      refine ⟨hG.i0, hG.i1, hG.t0, hG.t1, hG.m0, hG.m1, hG.d1, ?_, ?_, ?_, ?_, ?_⟩
      · show (L.es.take k0 ++ es).length ≤ _
        rw [List.length_append, htl]; omega
      · show ∀ j, j < (L.es.take k0 ++ es).length → ((L.es.take k0 ++ es).getD j ent0).i = L.s.i + 1 + j
        intro j hj
        rw [List.length_append, htl] at hj
        by_cases hjk : j < k0
        · rw [getD_append_l _ _ _ (by omega), getD_take_e _ _ _ hjk]
          exact hG.at_ j (by omega)
        · rw [getD_append_r _ _ _ (by omega), htl, f3 (j - k0) (by omega), hk0]
          omega
      · show ∀ e ∈ L.es.take k0 ++ es, _
        intro e he
        rcases List.mem_append.1 he with he | he
        · exact hG.ok e (List.mem_of_mem_take he)
        · exact hes e he
      · dsimp only
        split
        · omega
        · exact hG.y0
      · dsimp only
        split
        · omega
        · exact hG.y1
    · rw [appL_no h0 hF]; exact hG

theorem entsL_all {L : LogS} {most : Int} (h : (L.es.length : Int) ≤ most) (h1 : 1 ≤ most) : entsL L (L.s.i + 1) most = L.es := by
  by_cases h0 : L.es.length = 0
  · rw [entsL_no (.inr (.inl (by omega))), List.length_eq_zero_iff.1 h0]
  · rw [entsL_yes (by omega), Int.sub_self]
    show (L.es.drop 0).take most.toNat = _
    rw [List.drop_zero, List.take_of_length_le (by omega)]

theorem appL_s (L : LogS) (es : List Ent) : (appL L es).2.s = L.s := by
  by_cases h0 : es = []
  · subst h0; rw [appL_nil]
  · by_cases hF : Fits L es
    · rw [appL_yes h0 hF]
    · rw [appL_no h0 hF]

theorem appL_len (L : LogS) (es : List Ent) : (appL L es).2.es.length ≤ L.es.length + es.length := by
  by_cases h0 : es = []
  · subst h0; rw [appL_nil]; simp
  · by_cases hF : Fits L es
    · rw [appL_yes h0 hF]
      show (L.es.take _ ++ es).length ≤ _
      rw [List.length_append, List.length_take]
      omega
    · rw [appL_no h0 hF]
      simp

/-- entries that are small -/
theorem ents_small {X : Nat → Prop} {w : World} {a : Option Addr} {len cap : Nat} {ms : List MEnt} (h : IsMs X w a len cap ms) (hS : SmallM len ms) : ∀ e ∈ ms.map MEnt.e, e.ok ∧ e.d.length ≤ 100000 := by
  intro e he
  obtain ⟨m, hm, rfl⟩ := List.mem_map.1 he
  have h1 := h.2.2.2.1 m hm
  have h2 := hS.2 m hm
  have h3 := h1.2.1.1
  exact ⟨h1.1, by omega⟩

/-- what a call hands out, as the walk wants it -/
theorem outE_is {w w' : World} {E : List Ent} {b : Option Addr} {n c : Nat} {ms' : List MEnt} (hE : ms'.map MEnt.e = E) (hr : RowM w' w.heap.size (.slice b n c) ms') (ho : ∀ m ∈ ms', m.ok (fun k => k < w.heap.size ∨ (Value.slice b n c).ownBlock = some k) w') : IsMs (fun _ => False) w' b n c ms' ∧ n = E.length :=
  ⟨(hr.is ho).more (fun k hk => hk.elim), by rw [← hE, List.length_map, hr.len.1]⟩

end Go.Proofs.YtodmieehdleohaaGreat
