/- The log's Entries and Snap; Small, SmallSnap. -/
import Derived.Test.YtfojpengdpnigaaGreatRl3
namespace Go.Proofs.YtfojpengdpnigaaGreat
open Go.RowKit NumMath
set_option linter.unusedVariables false
set_option maxRecDepth 100000

/-- what Entries tells -/
def entsL (L : LogS) (x : Int) (most : Int) : List Ent := if x < L.s.i + 1 ∨ L.s.i + L.es.length < x ∨ most < 1 then [] else (L.es.drop (x - (L.s.i + 1)).toNat).take most.toNat

theorem entsL_no {L : LogS} {x most : Int} (h : x < L.s.i + 1 ∨ L.s.i + L.es.length < x ∨ most < 1) : entsL L x most = [] := by unfold entsL; rw [if_pos h]
theorem entsL_yes {L : LogS} {x most : Int} (h : ¬ (x < L.s.i + 1 ∨ L.s.i + L.es.length < x ∨ most < 1)) : entsL L x most = (L.es.drop (x - (L.s.i + 1)).toNat).take most.toNat := by unfold entsL; rw [if_neg h]

theorem cutE_at (X : Nat → Prop) (a : Option Addr) (len cap : Nat) (ms : List MEnt) (l n : Nat) (x : Int) (w : World) (h : IsMs X w a len cap ms) (hm : l + n ≤ len) (hx : x = ((l + n : Nat) : Int)) :
    Calls Tryz.prog 39 #[.slice a len cap, .int .i64 (l : Int), .int .i64 x] w fun e w' => ∃ b, e = .returned (.slice b n n) ∧ IsMs X w b n n ((ms.drop l).take n) ∧ w' = w := by
  subst hx
  refine (cutE_any X a len cap ms l (l + n) w h (by omega) hm).mono ?_
  rintro e w' ⟨b, rfl, hI, -, rfl⟩
  rw [Nat.add_sub_cancel_left] at hI ⊢
  exact ⟨b, rfl, hI, rfl⟩

/-- what a list of entries that a call hands out is -/
def OutE (w : World) (E : List Ent) (e : Ending) (w' : World) : Prop := ∃ b n c ms', e = .returned (.slice b n c) ∧ ms'.map MEnt.e = E ∧ RowM w' w.heap.size (.slice b n c) ms' ∧ (∀ m ∈ ms', m.ok (fun k => k < w.heap.size ∨ (Value.slice b n c).ownBlock = some k) w') ∧ Below w.heap.size w w'

theorem outE_nil {w w' : World} (hb : Below w.heap.size w w') : OutE w [] (.returned (.slice none 0 0)) w' := ⟨none, 0, 0, [], rfl, rfl, rowM_nil _ _, by simp, hb⟩

set_option maxHeartbeats 2000000 in
theorem ents_any (X : Nat → Prop) (base p : Nat) (L : LogS) (x most : Int) (w : World) (h : IsL X w base p L) (hG : L.Good) (hx0 : 0 ≤ x) (hm1 : -9223372036854775808 ≤ most) (hm2 : most ≤ 9223372036854775807) :
    Calls Tryz.prog 32 #[.pointer (some ⟨p, 0, none⟩), .int .u64 x, .int .i64 most] w fun e w' => OutE w (entsL L x most) e w' := by
  have hplt := h.at
  obtain ⟨ma, mn, mc, da, dn, dc, ea, en, ec, es, c0, c1, c2, c3, c4, c5, c6, hf, hm, hd', hr, he, ho, hp, hn, hx, hx4⟩ := h
  have hen := hr.len.1
  have hel : L.es.length = en := by rw [← he, List.length_map, hen]
  have i0 := hG.i0
  have i1 := hG.i1
  have hn5 : en ≤ 100000 := by have := hG.n; omega
  have HI := hide (hr.is ho)
  have HEs := hide he
  have HOk := hide hG.ok
  clear hm hd' hr he ho hn hx hx4 hf hp c1 c2 c3 c5 c6 hG
  by_cases g1 : x < L.s.i + 1
  · rw [entsL_no (.inl g1)]
    go_enter Tryz.func32, Tryz.ntmps32
    go_wp2_with (first
      | (go_at_call 36; refine (orE_any p _).mono ?_; rintro e w' ⟨rfl, hw⟩; have hw := hw.symm; subst hw)
      | (go_at_call 38; go_must (refine (has_low p L.s.i x _ c0 i0 i1 g1).mono ?_); rintro e w' ⟨rfl, hw⟩; have hw := hw.symm; subst hw))
    go_ret
    exact outE_nil (Below.refl _ _)
  by_cases g2 : L.s.i + L.es.length < x
  · rw [entsL_no (.inr (.inl g2))]
    have HH := hide (has_in p L.s.i x ea en ec false w c0 c4 i0 i1 hn5 (by omega) (decide_eq_false (by omega)))
    clear hel
    go_enter Tryz.func32, Tryz.ntmps32
    go_wp2_with (first
      | (go_at_call 36; refine (orE_any p _).mono ?_; rintro e w' ⟨rfl, hw⟩; have hw := hw.symm; subst hw)
      | (go_at_call 38; go_must (refine HH.out.mono ?_); rintro e w' ⟨rfl, hw⟩; have hw := hw.symm; subst hw))
    go_ret
    exact outE_nil (Below.refl _ _).drew
  have HH := hide (has_in p L.s.i x ea en ec true w c0 c4 i0 i1 hn5 (by omega) (decide_eq_true (by omega)))
  by_cases g3 : most < 1
  · rw [entsL_no (.inr (.inr g3))]
    clear hel
    go_enter Tryz.func32, Tryz.ntmps32
    go_wp2_with (first
      | (go_at_call 36; refine (orE_any p _).mono ?_; rintro e w' ⟨rfl, hw⟩; have hw := hw.symm; subst hw)
      | (go_at_call 38; go_must (refine HH.out.mono ?_); rintro e w' ⟨rfl, hw⟩; have hw := hw.symm; subst hw))
    go_ret
    exact outE_nil (Below.refl _ _).drew
  have HEnt := hide (entsL_yes (L := L) (x := x) (most := most) (by omega))
  obtain ⟨k, hk⟩ : ∃ k : Nat, x = L.s.i + 1 + k := ⟨(x - (L.s.i + 1)).toNat, by omega⟩
  have hkn : (x - (L.s.i + 1)).toNat = k := by omega
  rw [hkn] at HEnt
  have hke : k < en := by omega
  have HAt := hide (fun (W : World) (hW : W.cell? ⟨p, 0, none⟩ = some (.int .u64 L.s.i)) => at_any p L.s.i x k W hW i0 i1 (by omega) hk)
  obtain ⟨q, hq⟩ : ∃ q : Nat, most = (q : Int) := ⟨most.toNat, by omega⟩
  subst hq
  rw [Int.toNat_natCast] at HEnt
  have hdk : ((k : Int) ≤ en) := by omega
  have HDs : Hid (∀ (j : Nat) m, m ∈ (es.drop k).take j → m.n ≤ 1000000) := fun j m hm => by
    have h1 : m ∈ es := List.mem_of_mem_drop (List.mem_of_mem_take hm)
    have h2 := (HOk.out m.e (by rw [← HEs.out]; exact List.mem_map_of_mem h1)).2
    have h3 := (HI.out.2.2.2.1 m h1).2.1.1
    omega
  have w1 : IntKind.i64.wrap ((en : Int) - (k : Int)) = (en : Int) - (k : Int) := by simp [IntKind.wrap, IntKind.bits, IntKind.signed]; omega
  obtain ⟨j, hj⟩ : ∃ j, j = min (en - k) q := ⟨_, rfl⟩
  have HTk : Hid (((es.drop k).take j).map MEnt.e = (L.es.drop k).take q) := by
    show _ = _
    rw [List.map_take, List.map_drop, HEs.out, hj]
    by_cases g4 : q ≤ en - k
    · rw [Nat.min_eq_right g4]
    · rw [Nat.min_eq_left (by omega), List.take_of_length_le (by rw [List.length_drop, hel]; omega), List.take_of_length_le (by rw [List.length_drop, hel]; omega)]
  have hj5 : j ≤ 100000 := by omega
  by_cases g4 : (en : Int) - (k : Int) < (q : Int)
  · have hA : (IntKind.i64.wrap ((en : Int) - (k : Int)) < (q : Int)) = True := by rw [w1]; exact eq_true g4
    have w2 : IntKind.i64.wrap ((k : Int) + IntKind.i64.wrap ((en : Int) - (k : Int))) = ((k + j : Nat) : Int) := by
      rw [w1]
      simp [IntKind.wrap, IntKind.bits, IntKind.signed]; omega
    have HCut := hide (fun (W : World) (hW : Below w.heap.size w W) => cutE_at X ea en ec es k j _ W (HI.out.keep hW) (by omega) w2)
    clear hel hen hk hkn hm1 g1 g2 w1 w2 hj g4
    go_enter Tryz.func32, Tryz.ntmps32
    go_wp2_with (first
      | (go_at_call 36; refine (orE_any p _).mono ?_; rintro e w' ⟨rfl, hw⟩; have hw := hw.symm; subst hw)
      | (go_at_call 40; refine (HAt.out _ (by exact c0)).mono ?_; rintro e w' ⟨rfl, hw⟩; have hw := hw.symm; subst hw)
      | (go_at_call 38; go_must (refine HH.out.mono ?_); rintro e w' ⟨rfl, hw⟩; have hw := hw.symm; subst hw))
    go_region_held (fun w' => w'.cell? ⟨p, 4, none⟩ = some (.slice ea en ec)) (first | go_keep | exact c4 | exact c47) (first
      | (go_at_call 41; go_must (refine (copyE_at w.heap.size b6 j j _ _ (by rfl) (HI6.out.more (fun k hk => hk.elim)) (by omega) (HDs.out _)).mono ?_); rintro e w7 ⟨b7, n7, c7, ms7, rfl, hE7, hrow7, hok7, hb7⟩; have c47 := (hb7.cell (p := ⟨p, 4, none⟩) hplt).trans c4; have HE7 := hide hE7; have HR7 := hide hrow7; have HO7 := hide hok7; have HB7 := hide hb7; clear hE7 hrow7 hok7 hb7)
      | (go_at_call 39; go_must (refine (HCut.out _ (by exact ((Below.refl _ w).drew).drew)).mono ?_); rintro e w6 ⟨b6, rfl, hI6, hw⟩; have hw := hw.symm; subst hw; have HI6 := hide hI6; clear hI6))
    all_goals
      go_wp2
      go_ret
      rw [HEnt.out]
      exact ⟨b7, n7, c7, ms7, rfl, HE7.out.trans HTk.out, HR7.out, HO7.out, (((Below.refl _ w).drew).drew).trans HB7.out⟩
  · have hA : (IntKind.i64.wrap ((en : Int) - (k : Int)) < (q : Int)) = False := by rw [w1]; exact eq_false g4
    have w2 : IntKind.i64.wrap ((k : Int) + (q : Int)) = ((k + j : Nat) : Int) := by
      simp [IntKind.wrap, IntKind.bits, IntKind.signed]; omega
    have HCut := hide (fun (W : World) (hW : Below w.heap.size w W) => cutE_at X ea en ec es k j _ W (HI.out.keep hW) (by omega) w2)
    clear hel hen hk hkn hm1 g1 g2 w1 w2 hj g4
    go_enter Tryz.func32, Tryz.ntmps32
    go_wp2_with (first
      | (go_at_call 36; refine (orE_any p _).mono ?_; rintro e w' ⟨rfl, hw⟩; have hw := hw.symm; subst hw)
      | (go_at_call 40; refine (HAt.out _ (by exact c0)).mono ?_; rintro e w' ⟨rfl, hw⟩; have hw := hw.symm; subst hw)
      | (go_at_call 38; go_must (refine HH.out.mono ?_); rintro e w' ⟨rfl, hw⟩; have hw := hw.symm; subst hw))
    go_region_held (fun w' => w'.cell? ⟨p, 4, none⟩ = some (.slice ea en ec)) (first | go_keep | exact c4 | exact c47) (first
      | (go_at_call 41; go_must (refine (copyE_at w.heap.size b6 j j _ _ (by rfl) (HI6.out.more (fun k hk => hk.elim)) (by omega) (HDs.out _)).mono ?_); rintro e w7 ⟨b7, n7, c7, ms7, rfl, hE7, hrow7, hok7, hb7⟩; have c47 := (hb7.cell (p := ⟨p, 4, none⟩) hplt).trans c4; have HE7 := hide hE7; have HR7 := hide hrow7; have HO7 := hide hok7; have HB7 := hide hb7; clear hE7 hrow7 hok7 hb7)
      | (go_at_call 39; go_must (refine (HCut.out _ (by exact ((Below.refl _ w).drew).drew)).mono ?_); rintro e w6 ⟨b6, rfl, hI6, hw⟩; have hw := hw.symm; subst hw; have HI6 := hide hI6; clear hI6))
    all_goals
      go_wp2
      go_ret
      rw [HEnt.out]
      exact ⟨b7, n7, c7, ms7, rfl, HE7.out.trans HTk.out, HR7.out, HO7.out, (((Below.refl _ w).drew).drew).trans HB7.out⟩

end Go.Proofs.YtfojpengdpnigaaGreat
