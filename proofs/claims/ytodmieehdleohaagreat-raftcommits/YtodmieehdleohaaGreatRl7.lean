/- The log's Members and Compact. -/
import Derived.Test.YtodmieehdleohaaGreatToA
import Derived.Test.YtodmieehdleohaaGreatKp
namespace Go.Proofs.YtodmieehdleohaaGreat
open Go.RowKit NumMath
set_option linter.unusedVariables false
set_option maxRecDepth 100000

set_option maxHeartbeats 400000 in
theorem mem_any (X : Nat → Prop) (base p : Nat) (L : LogS) (w : World) (h : IsL X w base p L) (hG : L.Good) :
    Calls Tryz.prog 102 #[.pointer (some ⟨p, 0, none⟩)] w fun e w' => ∃ b n c, e = .returned (.tuple #[.slice b n c, .int .u64 (toldL L.s L.es).2]) ∧ OwnU w' w.heap.size (.slice b n c) (toldL L.s L.es).1 ∧ (∀ x ∈ (toldL L.s L.es).1, 0 ≤ x ∧ x ≤ 18446744073709551615) ∧ Below w.heap.size w w' := by
  obtain ⟨ma, mn, mc, da, dn, dc, ea, en, ec, es, c0, c1, c2, c3, c4, c5, c6, hf, hm, hd', hr, he, ho, hp, hn, hx, hx4⟩ := h
  have hen := hr.len.1
  have hel : L.es.length = en := by rw [← he, List.length_map, hen]
  have HC := hide (mb_any X p L.s ma mn mc ea en ec es w c0 c2 hm.1 (by have := hG.m1; have := hm.1.1; omega) (hr.is ho) (by have := hG.n; omega) (fun m hm => by
    have h2 := (hG.ok m.e (by rw [← he]; exact List.mem_map_of_mem hm)).2
    have h3 := (ho m hm).2.1.1
    omega))
  rw [he] at HC
  clear hm hd' hr he ho hn hx hx4 hf hG hen hel
  go_enter Tryz.func102, Tryz.ntmps102
  go_wp2_with (first
    | (go_at_call 36; refine (orE_any p _).mono ?_; rintro e w' ⟨rfl, hw⟩; have hw := hw.symm; subst hw)
    | (go_at_call 124; go_must (refine HC.out.mono ?_); rintro e w2 ⟨b, n, c, rfl, ho2, hr2, hb2⟩))
  go_ret2
  exact ⟨b, n, c, rfl, ho2, hr2, hb2⟩

/-- what Compact answers, and what the log is then -/
def compL (L : LogS) (x : Int) (data : List Int) : Int × LogS :=
  if x < L.s.i + 1 ∨ L.s.i + L.es.length < x then (1, L) else (0, ⟨⟨x, (L.es.getD (x - (L.s.i + 1)).toNat ent0).t, (toldL L.s (L.es.take ((x - (L.s.i + 1)).toNat + 1))).1, data⟩, L.es.drop ((x - (L.s.i + 1)).toNat + 1), L.dirty, true⟩)

theorem compL_no {L : LogS} {x : Int} {data : List Int} (h : x < L.s.i + 1 ∨ L.s.i + L.es.length < x) : compL L x data = (1, L) := by unfold compL; rw [if_pos h]
theorem compL_yes {L : LogS} {x : Int} {data : List Int} (k : Nat) (hk : x = L.s.i + 1 + k) (h : k < L.es.length) : compL L x data = (0, ⟨⟨x, (L.es.getD k ent0).t, (toldL L.s (L.es.take (k + 1))).1, data⟩, L.es.drop (k + 1), L.dirty, true⟩) := by
  unfold compL
  rw [if_neg (by omega), show (x - (L.s.i + 1)).toNat = k by omega]

theorem rdN_rng (most : Int) (st : Option (List Int)) (h : 0 ≤ most) : 0 ≤ (rdN most st).1 ∧ (rdN most st).1 ≤ most := by
  unfold rdN
  split
  · exact ⟨by simp, by simpa using h⟩
  · split
    · exact ⟨by simp, by simpa using h⟩
    · split
      · exact ⟨by simp, by assumption⟩
      · exact ⟨by simp, by simpa using h⟩

/-- numbers that members may be -/
def NumOk (l : List Int) : Prop := l.length ≤ 1000 ∧ ∀ x ∈ l, 0 ≤ x ∧ x ≤ 18446744073709551615

theorem memLoop_ok : ∀ (n : Nat) (last : Int) (st : Option (List Int)) (x : List Int × Option (List Int)), memLoop n last st = some x → x.1.length = n ∧ ∀ z ∈ x.1, 0 ≤ z ∧ z ≤ 18446744073709551615 := by
  intro n
  induction n with
  | zero => intro last st x hx; simp [memLoop] at hx; subst hx; exact ⟨rfl, by simp⟩
  | succ n ih =>
    intro last st x hx
    rw [memLoop] at hx
    split at hx
    · cases hx
    · rw [Option.map_eq_some_iff] at hx
      obtain ⟨y, hy, rfl⟩ := hx
      obtain ⟨h1, h2⟩ := ih _ _ _ hy
      refine ⟨by simp [h1], fun z hz => ?_⟩
      rcases List.mem_cons.1 hz with rfl | hz
      · exact rdN_rng _ _ (by omega)
      · exact h2 z hz

theorem mem_ok {bs l : List Int} (h : memOf bs = some l) : NumOk l := by
  unfold memOf at h
  cases hT : memLoop (rdN 9 (some bs)).1.toNat 0 (rdN 9 (some bs)).2 with
  | none => rw [hT] at h; cases h
  | some y =>
    obtain ⟨l', st⟩ := y
    rw [hT] at h
    obtain ⟨h1, h2⟩ := memLoop_ok _ _ _ _ hT
    by_cases he : rdEnd st = 0
    · rw [memEnd_yes he] at h
      cases h
      have hn := (rdN_rng 9 (some bs) (by omega)).2
      dsimp only at h1 h2
      exact ⟨by omega, h2⟩
    · rw [memEnd_no he] at h; cases h

theorem told_ok (s : Snp) (es : List Ent) (hs : NumOk s.m) : NumOk (toldL s es).1 := by
  have h : ∀ (es : List Ent) (acc : List Int × Int), NumOk acc.1 → NumOk (es.foldl stepT acc).1 := by
    intro es
    induction es with
    | nil => intro acc h; exact h
    | cons e r ih =>
      intro acc h
      rw [List.foldl_cons]
      apply ih
      unfold stepT
      split
      · cases hm : memOf e.d with
        | none => exact h
        | some l => exact mem_ok hm
      · exact h
  exact h es (s.m, s.i) hs

theorem good_comp {L : LogS} {x : Int} {data : List Int} (hG : L.Good) (hd : data.length ≤ 100000) (hi9 : L.s.i + L.es.length ≤ 9000000000000000000) : (compL L x data).2.Good := by
  by_cases h : x < L.s.i + 1 ∨ L.s.i + L.es.length < x
  · rw [compL_no h]; exact hG
  · obtain ⟨k, hk⟩ : ∃ k : Nat, x = L.s.i + 1 + k := ⟨(x - (L.s.i + 1)).toNat, by omega⟩
    have hkl : k < L.es.length := by omega
    rw [compL_yes k hk hkl]
    have hok := (hG.ok _ (ent_mem L.es k hkl)).1.2.1
    have hm := told_ok L.s (L.es.take (k + 1)) ⟨hG.m1, hG.m0⟩
    have hi := (hG.ok _ (ent_mem L.es k hkl)).1.1
    rw [hG.at_ k hkl] at hi
    have hi0 := hG.i0
    have hn := hG.n
    refine ⟨by show 0 ≤ x; omega, ?_, hok.1, hok.2, hm.2, hm.1, hd, ?_, ?_, ?_, hG.y0, hG.y1⟩
    · show x ≤ _; omega
    · show (L.es.drop (k + 1)).length ≤ _
      rw [List.length_drop]; omega
    · show ∀ j, j < (L.es.drop (k + 1)).length → ((L.es.drop (k + 1)).getD j ent0).i = x + 1 + j
      intro j hj
      rw [List.length_drop] at hj
      have e : (L.es.drop (k + 1)).getD j ent0 = L.es.getD (k + 1 + j) ent0 := by simp [List.getD]
      rw [e, hG.at_ (k + 1 + j) (by omega), hk]
      omega
    · intro e he
      exact hG.ok e (List.mem_of_mem_drop he)

end Go.Proofs.YtodmieehdleohaaGreat
