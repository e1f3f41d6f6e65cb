/- The wal: Open, Add, Rewrite, Size of one that somebody made; every call of one that nobody made. -/
import Derived.Test.YtajpamkdcpbabaaWl
namespace Go.Proofs.Ytajpamkdcpbabaa
open Go.RowKit NumMath
set_option linter.unusedVariables false

theorem all_flat {bs : List Int} {L : List (List Int)} (h : AllOf bs L) : (flat L).length ≤ bs.length ∧ bs.take (flat L).length = flat L := by
  obtain ⟨hT, r, rfl, hr⟩ := h
  exact ⟨by rw [List.length_append]; omega, List.take_left⟩

theorem all_self {L : List (List Int)} (h : Texts L) : AllOf (flat L) L := ⟨h, [], by rw [List.append_nil], rfl⟩

/-- where a wal and its disk lie -/
theorem walAt_new {w : World} {base p size : Nat} {bs : List Int} {syn q : Nat} (h : IsD w base p size bs syn) (e : TypeId) (hq : w.heap.size = q) : WalAt (w.alloc (.cells #[.pointer (some ⟨p, 0, none⟩)] e)) q p := by
  subst hq
  refine ⟨by simp, fun hx => ?_⟩
  have := (h.lt (hx.same ((new_below w _).block p h.at))).1
  omega

theorem dcut_all {bs : List Int} {L : List (List Int)} (syn : Nat) (h : AllOf bs L) : dcut bs syn ((flat L).length : Int) = (0, flat L, (flat L).length) := by
  obtain ⟨h1, h2⟩ := all_flat h
  unfold dcut
  rw [if_neg (by omega), Int.toNat_natCast, h2]

set_option maxHeartbeats 400000 in
theorem dleaveS_any (base p size : Nat) (bs : List Int) (syn m : Nat) (w : World) (h : IsD w base p size bs syn) (hm : m ≤ bs.length) (hb : bs.length ≤ 1000000000) :
    Calls Try.prog 42 #[.pointer (some ⟨p, 0, none⟩), .int .i64 (m : Int)] w fun e w' => e = .returned (.tuple #[]) ∧ IsD w' base p size (bs.take m) m ∧ SPost 2 w p w' ∧ ∀ k, SB 2 w' p k → SB 2 w p k := by
  obtain ⟨fa, n, c, h0, h1, h2, h3, hf, ho, hp, hne⟩ := h
  have hn := ho.len
  subst hn
  have hcap := ho.cap
  have hcut := run_cutTo fa bs.length c hcap.1 m hm .i64
  have HP := hide (isD_set2 h0 h1 h2 h3 hf hp hne (ho.take m hm) (Below.grown (Below.refl _ _) _) (fun k hk => .inl (by cases fa <;> exact hk)))
  have HQ := hide (isD_set3 HP.out.1 m)
  have hf2 := hf 2
  have hf3 := hf 3
  clear ho hne hf hcap
  go_enter Try.func42, Try.ntmps42
  go_wp2
  go_end0
  refine ⟨rfl, HQ.out.1, HP.out.2.trans HQ.out.2, ?_⟩
  rintro k (rfl | ⟨v, hv, hk⟩)
  · exact .inl rfl
  · rw [cell_set_off _ _ _ _ _ (by decide), World.cell?_setCell_same _ _ _ h2] at hv
    cases hv
    exact .inr ⟨_, h2, by cases fa <;> exact hk⟩

set_option maxHeartbeats 1000000 in
theorem dcutS_any (base p size : Nat) (bs : List Int) (syn : Nat) (m : Nat) (w : World) (h : IsD w base p size bs syn) (hb : bs.length ≤ 1000000000) (hm : m ≤ bs.length) :
    Calls Try.prog 29 #[.pointer (some ⟨p, 0, none⟩), .int .i64 (m : Int)] w fun e w' => e = .returned (.int .i64 0) ∧ IsD w' base p size (bs.take m) m ∧ SPost 2 w p w' ∧ ∀ k, SB 2 w' p k → SB 2 w p k := by
  have H := hide h
  obtain ⟨fa, m', c, h0, h1, h2, h3, hf, ho, hp, hne⟩ := h
  have hn := ho.len
  subst hn
  clear ho hne hf
  have hlt : ¬ (m : Int) < 0 := by omega
  have hgt : ¬ (bs.length : Int) < (m : Int) := by omega
  go_enter Try.func29, Try.ntmps29
  go_wp2_with (first
    | (go_at_call 34; refine (usable_any p _ h0).mono ?_; rintro e w' ⟨rfl, hw⟩; have hw := hw.symm; subst hw)
    | (go_at_call 42; go_must (refine (dleaveS_any base p size bs syn m _ H.out hm hb).mono ?_); rintro e w2 ⟨rfl, hd2, hp2, hk2⟩))
  go_ret
  exact ⟨rfl, hd2, hp2, hk2⟩

set_option maxHeartbeats 2000000 in
theorem wopen_any (base p size : Nat) (bs : List Int) (syn : Nat) (w : World) (h : IsD w base p size bs syn) (hA : AreB bs) (hb : bs.length ≤ 1000000000) :
    Calls Try.prog 13 #[.pointer (some ⟨p, 0, none⟩)] w fun e w' => ∃ q v L, e = .returned (.tuple #[.pointer (some ⟨q, 0, none⟩), v, .int .i64 0]) ∧ AllOf bs L ∧ OwnN w' w.heap.size v L ∧ IsD w' base p size (flat L) (flat L).length ∧ SPost 2 w p w' ∧ WalAt w' q p ∧ w.heap.size ≤ q ∧ ∀ k, SB 2 w' p k → SB 2 w p k := by
  have H := hide h
  have HA := hide hA
  have HB := hide hb
  clear h hA hb
  go_enter Try.func13, Try.ntmps13
  go_wp2_with (first
    | (go_at_call 29; go_must (refine (dcutS_any base p size bs syn _ w2 (H.out.keep hb2) HB.out (all_flat HL.out).1).mono ?_); rw [(all_flat HL.out).2]; rintro e w3 ⟨rfl, hd3, hp3, hk3⟩; have HD3 := hide hd3; have HP3 := hide hp3; have HK3 := hide hk3; clear hd3 hp3 hk3)
    | (go_at_call 15; go_must (refine (wrecords_any a1 n1 c1 bs _ HI1.out (by rw [← HI1.out.1]; exact HB.out)).mono ?_); rintro e w2 ⟨v, L, rfl, hL, hO, hb2⟩; have HL := hide hL; have HO := hide hO; have hb2 := hb1.trans (hb2.mono hb1.size); have hs2 := hb1.size; clear hL hO)
    | (go_at_call 19; go_must (refine (dbytes_any base p size bs syn _ H.out HB.out).mono ?_); rintro e w1 ⟨v1, rfl, hown1, hb1⟩; obtain ⟨a1, n1, c1, rfl, hi1⟩ := hown1.at HA.out; have HI1 := hide hi1; clear hown1 hi1))
  go_ret3
  have hoff : OwnN w3 w1.heap.size v L := HO.out.lies HP3.out.1 (fun k hk hk' hx => by
    have := (H.out.lt (hx.same (hb2.block p H.out.at))).1
    omega)
  refine ⟨_, v, L, rfl, HL.out, ?_, HD3.out.keep (new_below _ _), ?_, walAt_new HD3.out _ rfl, ?_, fun k hk => (HK3.out k (hk.same ((new_below _ _).block p HD3.out.at))).same (hb2.block p H.out.at)⟩
  · obtain ⟨es, h1, h2, h3⟩ := hoff.keep (new_below w3 _)
    refine ⟨es, ⟨h1.1, ?_⟩, h2, fun i hi => ?_⟩
    · rcases h1.2 with h0 | ⟨g, cap, cur, hv, hg, hr⟩
      · exact .inl h0
      · exact .inr ⟨g, cap, cur, hv, Nat.le_trans hs2 hg, hr⟩
    · obtain ⟨u, e1, b, n, c, rfl, e2, e3⟩ := h3 i hi
      exact ⟨_, e1, b, n, c, rfl, e2, e3.imp id (fun q y hy => ⟨(q y hy).1, Nat.le_trans hs2 (q y hy).2⟩)⟩
  · exact (SPost.ahead H.out.at hb2 HP3.out).behind H.out.at (new_below _ _)
  · have := hb2.size
    have := HP3.out.size
    omega

/-- what Add answers, and what is there then -/
def dadd (size : Nat) (bs : List Int) (syn : Nat) (xs : List Int) : Int × List Int × Nat := if size < bs.length + xs.length then (60, bs, syn) else (0, bs ++ xs, bs.length + xs.length)

set_option maxHeartbeats 2000000 in
theorem wadd_any (base p size : Nat) (bs : List Int) (syn q : Nat) (a : Option Addr) (len cap : Nat) (ts : List (List Int)) (w : World) (h : IsD w base p size bs syn) (hw : WalAt w q p) (ht : IsTexts w a len cap ts) (hT : Texts ts) (hbig : (flat ts).length ≤ 1000000000) (hsz : size ≤ 1000000000) (hbs : bs.length ≤ size) (hbase : base ≤ w.heap.size) :
    Calls Try.prog 21 #[.pointer (some ⟨q, 0, none⟩), .slice a len cap] w fun e w' => e = .returned (.int .i64 (dadd size bs syn (flat ts)).1) ∧ IsD w' base p size (dadd size bs syn (flat ts)).2.1 (dadd size bs syn (flat ts)).2.2 ∧ SPost 2 w p w' := by
  have H := hide h
  have HW := hide hw
  have HF := hide (wframes_any q p a len cap ts w hw.1 ht hT hbig)
  have HB := hide hbig
  have hlt := h.at
  have HS := hide hbs
  clear h hw ht hT hbig
  by_cases hgt : size < bs.length + (flat ts).length
  · have hd : dadd size bs syn (flat ts) = (60, bs, syn) := if_pos hgt
    have hd' : dapp size bs (flat ts) = (60, bs) := if_pos hgt
    rw [hd]
    have HD := hide hd'
    clear hd hd' hgt hbs
    go_enter Try.func21, Try.ntmps21
    go_wp2_with (first
      | (go_at_call 36; refine HF.out.mono ?_; rintro e w1 ⟨v1, rfl, hO1, hb1⟩; obtain ⟨a1, n1, c1, rfl, hS1⟩ := hO1.any; have HS1 := hide hS1; have hc1 := (HW.out.keep hlt hb1).1; clear hO1 hS1)
      | (go_at_call 11; go_must (refine (dapp_any base p size bs syn a1 n1 c1 (flat ts) _ (H.out.keep hb1) HS1.out hsz HS.out (by rw [← HS1.out.1]; exact HB.out) (Nat.le_trans hbase hb1.size)).mono ?_); rw [HD.out]; rintro e w2 ⟨rfl, hd2, hp2⟩; have HD2 := hide hd2; have HP2 := hide hp2; clear hd2 hp2))
    go_ret
    exact ⟨rfl, HD2.out, SPost.ahead hlt hb1 HP2.out⟩
  · have hd : dadd size bs syn (flat ts) = (0, bs ++ flat ts, bs.length + (flat ts).length) := if_neg hgt
    have hd' : dapp size bs (flat ts) = (0, bs ++ flat ts) := if_neg hgt
    rw [hd]
    have HD := hide hd'
    have HLE : Hid ((bs ++ flat ts).length ≤ 1000000000) := by show _ ≤ _; rw [List.length_append]; omega
    clear hd hd' hgt hbs
    go_enter Try.func21, Try.ntmps21
    go_wp2_with (first
      | (go_at_call 36; refine HF.out.mono ?_; rintro e w1 ⟨v1, rfl, hO1, hb1⟩; obtain ⟨a1, n1, c1, rfl, hS1⟩ := hO1.any; have HS1 := hide hS1; have HW1 := hide (HW.out.keep hlt hb1); have hc1 := HW1.out.1; clear hO1 hS1)
      | (go_at_call 11; go_must (refine (dapp_any base p size bs syn a1 n1 c1 (flat ts) _ (H.out.keep hb1) HS1.out hsz HS.out (by rw [← HS1.out.1]; exact HB.out) (Nat.le_trans hbase hb1.size)).mono ?_); rw [HD.out]; rintro e w2 ⟨rfl, hd2, hp2⟩; have HD2 := hide hd2; have HP2 := hide hp2; have hc2 := (HW1.out.next hp2).1; clear hd2 hp2)
      | (go_at_call 37; go_must (refine (dsync_any base p size _ syn _ HD2.out HLE.out).mono ?_); rw [List.length_append]; rintro e w3 ⟨rfl, hd3, hp3⟩; have HD3 := hide hd3; have HP3 := hide hp3; clear hd3 hp3))
    go_ret
    exact ⟨rfl, HD3.out, SPost.ahead hlt hb1 (HP2.out.trans HP3.out)⟩

set_option maxHeartbeats 2000000 in
theorem wrewrite_any (base p size : Nat) (bs : List Int) (syn q : Nat) (a : Option Addr) (len cap : Nat) (ts : List (List Int)) (w : World) (h : IsD w base p size bs syn) (hw : WalAt w q p) (ht : IsTexts w a len cap ts) (hT : Texts ts) (hbig : (flat ts).length ≤ 1000000000) (hbase : base ≤ w.heap.size) :
    Calls Try.prog 23 #[.pointer (some ⟨q, 0, none⟩), .slice a len cap] w fun e w' => e = .returned (.int .i64 (dswap size bs syn (flat ts)).1) ∧ IsD w' base p size (dswap size bs syn (flat ts)).2.1 (dswap size bs syn (flat ts)).2.2 ∧ SPost 2 w p w' := by
  have H := hide h
  have HW := hide hw
  have HF := hide (wframes_any q p a len cap ts w hw.1 ht hT hbig)
  have HB := hide hbig
  have hlt := h.at
  clear h hw ht hT hbig
  go_enter Try.func23, Try.ntmps23
  go_wp2_with (first
    | (go_at_call 36; refine HF.out.mono ?_; rintro e w1 ⟨v1, rfl, hO1, hb1⟩; obtain ⟨a1, n1, c1, rfl, hS1⟩ := hO1.any; have HS1 := hide hS1; have hc1 := (HW.out.keep hlt hb1).1; clear hO1 hS1)
    | (go_at_call 39; go_must (refine (dswap_any base p size bs syn a1 n1 c1 (flat ts) _ (H.out.keep hb1) HS1.out (by rw [← HS1.out.1]; exact HB.out) (Nat.le_trans hbase hb1.size)).mono ?_); rintro e w2 ⟨rfl, hd2, hp2⟩; have HD2 := hide hd2; have HP2 := hide hp2; clear hd2 hp2))
  go_ret
  exact ⟨rfl, HD2.out, SPost.ahead hlt hb1 HP2.out⟩

set_option maxHeartbeats 400000 in
theorem wsize_any (base p size : Nat) (bs : List Int) (syn q : Nat) (w : World) (h : IsD w base p size bs syn) (hw : WalAt w q p) (hb : bs.length ≤ 1000000000) :
    Calls Try.prog 17 #[.pointer (some ⟨q, 0, none⟩)] w fun e w' => e = .returned (.int .i64 (bs.length : Int)) ∧ Below w.heap.size w w' := by
  have H := hide h
  have hc := hw.1
  have HB := hide hb
  clear h hw hb
  go_enter Try.func17, Try.ntmps17
  go_wp2_with (first
    | (go_at_call 33; refine (wusable_any q p _ hc).mono ?_; rintro e w' ⟨rfl, hw⟩; have hw := hw.symm; subst hw)
    | (go_at_call 19; go_must (refine (dbytes_any base p size bs syn _ H.out HB.out).mono ?_); rintro e w1 ⟨v1, rfl, hown1, hb1⟩; obtain ⟨a1, n1, c1, rfl, hs1⟩ := hown1.any; have HN := hide hs1.1; clear hown1 hs1))
  go_ret
  exact ⟨by rw [HN.out]; rfl, hb1⟩

theorem wframes_nil (a : Option Addr) (len cap : Nat) (w : World) :
    Calls Try.prog 36 #[.pointer none, .slice a len cap] w fun e w' => e = .returned (.tuple #[.slice none 0 0, .int .i64 70]) ∧ w' = w := by
  go_enter Try.func36, Try.ntmps36
  go_wp2_with (first
    | (go_at_call 33; refine (wusable_nil _).mono ?_; rintro e w' ⟨rfl, hw⟩; have hw := hw.symm; subst hw))
  go_ret2
  exact ⟨rfl, rfl⟩

theorem wframes_zero (q : Nat) (a : Option Addr) (len cap : Nat) (w : World) (h : w.cell? ⟨q, 0, none⟩ = some (.pointer none)) :
    Calls Try.prog 36 #[.pointer (some ⟨q, 0, none⟩), .slice a len cap] w fun e w' => e = .returned (.tuple #[.slice none 0 0, .int .i64 70]) ∧ w' = w := by
  go_enter Try.func36, Try.ntmps36
  go_wp2_with (first
    | (go_at_call 33; refine (wusable_zero q _ h).mono ?_; rintro e w' ⟨rfl, hw⟩; have hw := hw.symm; subst hw))
  go_ret2
  exact ⟨rfl, rfl⟩

theorem wadd_nil (a : Option Addr) (len cap : Nat) (w : World) :
    Calls Try.prog 21 #[.pointer none, .slice a len cap] w fun e w' => e = .returned (.int .i64 70) ∧ w' = w := by
  go_enter Try.func21, Try.ntmps21
  go_wp2_with (first
    | (go_at_call 36; refine (wframes_nil a len cap _).mono ?_; rintro e w' ⟨rfl, hw⟩; have hw := hw.symm; subst hw))
  go_ret
  exact ⟨rfl, rfl⟩

theorem wrewrite_zero (q : Nat) (a : Option Addr) (len cap : Nat) (w : World) (h : w.cell? ⟨q, 0, none⟩ = some (.pointer none)) :
    Calls Try.prog 23 #[.pointer (some ⟨q, 0, none⟩), .slice a len cap] w fun e w' => e = .returned (.int .i64 70) ∧ w' = w := by
  go_enter Try.func23, Try.ntmps23
  go_wp2_with (first
    | (go_at_call 36; refine (wframes_zero q a len cap _ h).mono ?_; rintro e w' ⟨rfl, hw⟩; have hw := hw.symm; subst hw))
  go_ret
  exact ⟨rfl, rfl⟩

theorem wsize_nil (w : World) : Calls Try.prog 17 #[.pointer none] w fun e w' => e = .returned (.int .i64 0) ∧ w' = w := by
  go_enter Try.func17, Try.ntmps17
  go_wp2_with (first
    | (go_at_call 33; refine (wusable_nil _).mono ?_; rintro e w' ⟨rfl, hw⟩; have hw := hw.symm; subst hw))
  go_ret
  exact ⟨rfl, rfl⟩

set_option maxHeartbeats 400000 in
theorem wopen_nil (w : World) : Calls Try.prog 13 #[.pointer none] w fun e w' => e = .returned (.tuple #[.pointer none, .slice none 0 0, .int .i64 60]) ∧ Below w.heap.size w w' := by
  have HI := hide (isB_none w none 0 (by unfold maxLen; omega))
  go_enter Try.func13, Try.ntmps13
  go_wp2_with (first
    | (go_at_call 29; refine (dcut_nil _).mono ?_; rintro e w' ⟨rfl, hw⟩; have hw := hw.symm; subst hw)
    | (go_at_call 15; refine (wrecords_any none 0 0 [] _ HI.out (by decide)).mono ?_; rintro e w2 ⟨v, L, rfl, hL, hO, hb2⟩; have hz : (flat L).length = 0 := Nat.le_zero.1 (all_flat hL).1; rw [hz]; clear hz hL hO)
    | (go_at_call 19; refine (dbytes_nil _).mono ?_; rintro e w' ⟨rfl, hw⟩; have hw := hw.symm; subst hw))
  go_ret3
  exact ⟨rfl, hb2⟩

end Go.Proofs.Ytajpamkdcpbabaa
