/- The reference's Frames, Add, Rewrite, Records. -/
import Derived.Test.YtajpamkdcpbabaaWl3
namespace Go.Proofs.Ytajpamkdcpbabaa
open Go.RowKit NumMath
set_option linter.unusedVariables false

set_option maxHeartbeats 2000000 in
theorem xframes_any (a : Option Addr) (len cap : Nat) (ts : List (List Int)) (w : World) (h : IsTexts w a len cap ts) (hT : Texts ts) (hbig : (flat ts).length ≤ 1000000000) :
    Calls Try.prog 26 #[.slice a len cap] w fun e w' => ∃ v, e = .returned (.tuple #[v, .bool true]) ∧ OwnB w' w.heap.size v (flat ts) ∧ Below w.heap.size w w' := by
  have H := hide h
  have HL := hide h.1
  have hlc := h.2.1
  have hm : (cap : Int) ≤ 9223372036854775807 := by have := h.2.2.1; unfold maxLen at this; omega
  have HB := hide hbig
  have HT := hide hT
  clear h hbig hT
  go_enter Try.func26, Try.ntmps26
  go_wp2
  go_loopw [4, 9] (fun v z wr => ∃ k : Nat, k ≤ len ∧ z = .int .i64 k ∧ OwnB wr w.heap.size v (flat (ts.take k)) ∧ Below w.heap.size w wr) (fun _ z _ => len - (intOf z).toNat)
  case atStart => exact ⟨0, Nat.zero_le _, rfl, ownB_nil _ _, Below.refl _ _⟩
  case round =>
    obtain ⟨k, hk, rfl, hown, hb⟩ := hrel
    have hsz := hb.size
    have HOw := hide hown
    by_cases hlt : k < len
    · obtain ⟨t1, t2⟩ := texts_nth HT.out k (by rw [HL.out]; exact hlt)
      have HS := hide (flat_take_succ ts k (by rw [HL.out]; exact hlt))
      have HLe : Hid ((flat (ts.take k)).length + (frL (ts.getD k [])).length ≤ 1099511627776) := by
        show _ ≤ _
        have h1 := flat_take_le ts (k + 1)
        have h2 := HB.out
        rw [HS.out, List.length_append] at h1
        omega
      obtain ⟨g, off, b1, n1, c1, rfl, hg, hc, hI⟩ := (H.out.keep hb).at hlt
      have HF : Hid (frA (ts.getD k []) = frL (ts.getD k [])) := if_neg (by omega)
      have HI := hide hI
      have hn1 : ¬ (65536 : Int) < (n1 : Int) := by have := hI.1; omega
      clear hI t1 t2 hown
      generalize ts.getD k [] = t at *
      go_wp2_with (first
        | (go_at_call 41; refine (rframe_any b1 n1 c1 t _ HI.out).mono ?_; rw [HF.out]; rintro e w1 ⟨v1, rfl, hO1, hb1⟩; obtain ⟨a1, m1, c1, rfl, hS1⟩ := hO1.any; have HOw1 := hide (HOw.out.keep hb1); have HS1 := hide hS1; clear hS1 hO1; have hsz1 := hb1.size)
        | (at_builtin; go_must (refine wp_joinB _ rfl _ _ rfl w.heap.size _ _ rfl HOw1.out a1 m1 c1 _ rfl HS1.out HLe.out (by omega) ?_); intro v3 w3 hO3 hgr3 hat3; have hb3 := HOw1.out.grown hgr3 (by omega)))
      go_roundw
      case rel => exact ⟨k + 1, by omega, by go_num, by rw [HS.out]; exact hO3, hb.trans ((hb1.mono hsz).trans hb3)⟩
      case measure => simp [intOf]; omega
    · have hkl : k = len := by omega
      have HE : Hid (flat (ts.take k) = flat ts) := by show _ = _; rw [List.take_of_length_le (by rw [HL.out, hkl]; exact Nat.le_refl _)]
      subst hkl
      clear hown
      go_wp2
      go_ret2
      exact ⟨_, rfl, by rw [← HE.out]; exact HOw.out, hb⟩

set_option maxHeartbeats 2000000 in
theorem xadd_any (base q size : Nat) (bs : List Int) (syn : Nat) (a : Option Addr) (len cap : Nat) (ts : List (List Int)) (w : World) (h : IsX w base q size bs syn) (ht : IsTexts w a len cap ts) (hT : Texts ts) (hbig : (flat ts).length ≤ 1000000000) (hsz : size ≤ 1000000000) (hbs : bs.length ≤ size) (hbase : base ≤ w.heap.size) :
    Calls Try.prog 22 #[.pointer (some ⟨q, 0, none⟩), .slice a len cap] w fun e w' => e = .returned (.int .i64 (dadd size bs syn (flat ts)).1) ∧ IsX w' base q size (dadd size bs syn (flat ts)).2.1 (dadd size bs syn (flat ts)).2.2 ∧ SPost 0 w q w' := by
  have H := hide h
  have HF := hide (xframes_any a len cap ts w ht hT hbig)
  have HR := hide (flat_are hT)
  have HB := hide hbig
  have hlt := h.at
  have HS := hide hbs
  clear h ht hT hbig
  by_cases hgt : size < bs.length + (flat ts).length
  · have hd : dadd size bs syn (flat ts) = (60, bs, syn) := if_pos hgt
    have hd' : dapp size bs (flat ts) = (60, bs) := if_pos hgt
    rw [hd]
    have HD := hide hd'
    clear hd hd' hgt hbs
    go_enter Try.func22, Try.ntmps22
    go_wp2_with (first
      | (go_at_call 26; refine HF.out.mono ?_; rintro e w1 ⟨v1, rfl, hO1, hb1⟩; obtain ⟨a1, n1, c1, rfl, hS1⟩ := hO1.any; have HS1 := hide hS1; clear hO1 hS1)
      | (go_at_call 12; go_must (refine (xapp_any base q size bs syn a1 n1 c1 (flat ts) _ (H.out.keep hb1) HS1.out HR.out hsz HS.out (by rw [← HS1.out.1]; exact HB.out) (Nat.le_trans hbase hb1.size)).mono ?_); rw [HD.out]; rintro e w2 ⟨rfl, hd2, hp2⟩; have HD2 := hide hd2; have HP2 := hide hp2; clear hd2 hp2))
    go_ret
    exact ⟨rfl, HD2.out, SPost.ahead hlt hb1 HP2.out⟩
  · have hd : dadd size bs syn (flat ts) = (0, bs ++ flat ts, bs.length + (flat ts).length) := if_neg hgt
    have hd' : dapp size bs (flat ts) = (0, bs ++ flat ts) := if_neg hgt
    rw [hd]
    have HD := hide hd'
    have HLE : Hid ((bs ++ flat ts).length ≤ 1000000000) := by show _ ≤ _; rw [List.length_append]; omega
    clear hd hd' hgt hbs
    go_enter Try.func22, Try.ntmps22
    go_wp2_with (first
      | (go_at_call 26; refine HF.out.mono ?_; rintro e w1 ⟨v1, rfl, hO1, hb1⟩; obtain ⟨a1, n1, c1, rfl, hS1⟩ := hO1.any; have HS1 := hide hS1; clear hO1 hS1)
      | (go_at_call 12; go_must (refine (xapp_any base q size bs syn a1 n1 c1 (flat ts) _ (H.out.keep hb1) HS1.out HR.out hsz HS.out (by rw [← HS1.out.1]; exact HB.out) (Nat.le_trans hbase hb1.size)).mono ?_); rw [HD.out]; rintro e w2 ⟨rfl, hd2, hp2⟩; have HD2 := hide hd2; have HP2 := hide hp2; clear hd2 hp2)
      | (go_at_call 38; go_must (refine (xsync_any base q size _ syn _ HD2.out HLE.out).mono ?_); rw [List.length_append]; rintro e w3 ⟨rfl, hd3, hp3⟩; have HD3 := hide hd3; have HP3 := hide hp3; clear hd3 hp3))
    go_ret
    exact ⟨rfl, HD3.out, SPost.ahead hlt hb1 (HP2.out.trans HP3.out)⟩

set_option maxHeartbeats 2000000 in
theorem xrewrite_any (base q size : Nat) (bs : List Int) (syn : Nat) (a : Option Addr) (len cap : Nat) (ts : List (List Int)) (w : World) (h : IsX w base q size bs syn) (ht : IsTexts w a len cap ts) (hT : Texts ts) (hbig : (flat ts).length ≤ 1000000000) (hbase : base ≤ w.heap.size) :
    Calls Try.prog 24 #[.pointer (some ⟨q, 0, none⟩), .slice a len cap] w fun e w' => e = .returned (.int .i64 (dswap size bs syn (flat ts)).1) ∧ IsX w' base q size (dswap size bs syn (flat ts)).2.1 (dswap size bs syn (flat ts)).2.2 ∧ SPost 0 w q w' := by
  have H := hide h
  have HF := hide (xframes_any a len cap ts w ht hT hbig)
  have HR := hide (flat_are hT)
  have HB := hide hbig
  have hlt := h.at
  clear h ht hT hbig
  go_enter Try.func24, Try.ntmps24
  go_wp2_with (first
    | (go_at_call 26; refine HF.out.mono ?_; rintro e w1 ⟨v1, rfl, hO1, hb1⟩; obtain ⟨a1, n1, c1, rfl, hS1⟩ := hO1.any; have HS1 := hide hS1; clear hO1 hS1)
    | (go_at_call 40; go_must (refine (xswap_any base q size bs syn a1 n1 c1 (flat ts) _ (H.out.keep hb1) HS1.out HR.out (by rw [← HS1.out.1]; exact HB.out) (Nat.le_trans hbase hb1.size)).mono ?_); rintro e w2 ⟨rfl, hd2, hp2⟩; have HD2 := hide hd2; have HP2 := hide hp2; clear hd2 hp2))
  go_ret
  exact ⟨rfl, HD2.out, SPost.ahead hlt hb1 HP2.out⟩

end Go.Proofs.Ytajpamkdcpbabaa
