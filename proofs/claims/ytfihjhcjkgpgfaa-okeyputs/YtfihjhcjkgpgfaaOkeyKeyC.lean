/- The reference's Key of any list of values: the same bytes as okey.Put. -/
import Derived.Test.YtfihjhcjkgpgfaaOkeyPutC
import Derived.Deep.RegionHeld3
import Derived.Deep.AppendLies
namespace Go.Proofs.Ytfihjhcjkgpgfaa
open Go.RowKit NumMath
set_option linter.unusedVariables false

theorem step_appB {ops : Array Oper} {o : Oper} {a : Act} {K : Act → World → Prop} {Q : Exit → Act → World → Prop} {E : Prop} (w : World) (hgd : o.guard = none) (s x : Operand)
    (ho : o.op = .call { callee := .builtin .append, args := #[s, x], argTypes := #[31, 31] }) (base : Nat) (v : Value) (bs : List Int) (hs : a.eval s = v) (hown : OwnB w base v bs)
    (g m c : Nat) (ys : List Int) (hx : a.eval x = .slice (some ⟨g, 0, none⟩) m c) (hl : ys.length = m) (hB : Bytes w g ys) (hbig : bs.length + ys.length ≤ 1099511627776) (hbase : base ≤ w.heap.size)
    (h : ∀ v' w', OwnB w' base v' (bs ++ ys) → w.grownBy w' v.ownBlock → Below base w w' → (v'.ownBlock = v.ownBlock ∨ v'.ownBlock = some w.heap.size) → K (a.put o.dst v') w') :
    if Region.wanted o (yielded ops a.tmps) = true then Oper.wp Try.prog o a w K Q else E := by
  have hw : Region.wanted o (yielded ops a.tmps) = true := by simp [Region.wanted, hgd]
  rw [if_pos hw]
  obtain ⟨i0, hi, hz0, hz1, hz2⟩ := info_parts infoU8
  obtain ⟨v', w', hr, h2, h3, _, h5⟩ := run_append_own_at (P := Try.prog) w base 31 o.type 5 i0 (.int .u8 0) 1 1 Try.underlying31 hi hz0 hz1 hz2 rfl (by decide) v bs.length _ hown ⟨g, 0, none⟩ m c (ys.map (Value.int .u8)) (by simp [hl]) (bytes_add hB) (u8_one ys) (by unfold maxLen; omega) (by omega) hbase
  unfold Oper.wp execOp
  simp only [ho, resolve, invoke, builtin, Sem.run_bind, Sem.run_pure, Result.andThen_ok, List.map_toArray, List.map_cons, List.map_nil, hs, hx, hr]
  refine h v' w' ?_ h3 (hown.grown h3 hbase) h5
  unfold OwnB
  rw [List.length_append, List.map_append, hl]
  exact h2

theorem wp_appBx {ops : Array Oper} {rest : List Oper} {o : Oper} {a : Act} {Q : Exit → Act → World → Prop} (w : World) (hgd : o.guard = none) (s x : Operand)
    (ho : o.op = .call { callee := .builtin .append, args := #[s, x], argTypes := #[31, 31] }) (base : Nat) (v : Value) (bs : List Int) (hs : a.eval s = v) (hown : OwnB w base v bs)
    (g m c : Nat) (ys : List Int) (hx : a.eval x = .slice (some ⟨g, 0, none⟩) m c) (hl : ys.length = m) (hB : Bytes w g ys) (hbig : bs.length + ys.length ≤ 1099511627776) (hbase : base ≤ w.heap.size)
    (N : Nat) (hN : some N ≠ v.ownBlock) (hN2 : N < w.heap.size)
    (h : ∀ v' w', OwnB w' base v' (bs ++ ys) → (∀ i u, w.cell? ⟨N, i, none⟩ = some u → w'.cell? ⟨N, i, none⟩ = some u) → Below base w w' → some N ≠ v'.ownBlock → wpList Try.prog ops Q rest (a.put o.dst v') w') : wpList Try.prog ops Q (o :: rest) a w := by
  obtain ⟨i0, hi, hz0, hz1, hz2⟩ := info_parts infoU8
  refine wpList_append_own_at w hgd s x 31 ho base 5 i0 (.int .u8 0) 1 1 Try.underlying31 hi hz0 hz1 hz2 rfl (by decide) v bs.length _ hs hown ⟨g, 0, none⟩ m c (ys.map (Value.int .u8)) hx (by simp [hl]) (bytes_add hB) (u8_one ys) (by unfold maxLen; omega) (by omega) hbase ?_
  intro v' w' h1 h2 h3 h4
  refine h v' w' ?_ (fun i u hc => h2.cell hc hN) (hown.grown h2 hbase) ?_
  · unfold OwnB
    rw [List.length_append, List.map_append, hl]
    exact h1
  · intro hx
    rcases h4 with h4 | h4
    · rw [h4] at hx; exact hN hx
    · rw [h4] at hx
      have := Option.some.inj hx
      omega

theorem rput8 (u : Int) (w : World) (h1 : 0 ≤ u) (h2 : u ≤ 18446744073709551615) :
    Calls Try.prog 32 #[.int .u64 u, .int .i64 8] w fun e w' => ∃ g cap, e = .returned (.slice (some ⟨g, 0, none⟩) 8 cap) ∧ w.heap.size ≤ g ∧ g < w'.heap.size ∧ Bytes w' g (putL u 8) ∧ Below w.heap.size w w' := by
  refine (rput_any u 8 w h1 h2 (by decide)).mono ?_
  rintro e w' ⟨v, rfl, hown, hb, _⟩
  rcases hown.2 with ⟨_, h0⟩ | ⟨g, cap, cur, rfl, hg, hh, hn, hm, _, _⟩
  · exact absurd h0 (by decide)
  · exact ⟨g, cap, rfl, hg, (hown.lt g rfl).2, bytes_of_owns hown, hb⟩

set_option maxHeartbeats 4000000 in
theorem rkey_any (a : Option Addr) (len cap : Nat) (xs : List Val) (w : World) (h : IsVals w a len cap xs) (hbig : (keyL xs).length ≤ 500000000) :
    Calls Try.prog 18 #[.slice a len cap] w fun e w' => ∃ v, e = .returned v ∧ OwnB w' w.heap.size v (keyL xs) ∧ Below w.heap.size w w' := by
  have HV := hide h
  obtain ⟨hl, hlc, hm, hfit, -⟩ := h
  unfold maxLen at hm
  have HL : Hid (xs.length = len) := hl
  have HF := hide hfit
  have HB := hide hbig
  clear hl hfit hbig
  go_enter Try.func18, Try.ntmps18
  go_wp2
  go_loopw [3, 9] (fun v i wr => ∃ k : Nat, k ≤ len ∧ i = .int .i64 k ∧ OwnB wr w.heap.size v (keyL (xs.take k)) ∧ Below w.heap.size w wr) (fun _ i _ => len - (intOf i).toNat)
  case atStart => exact ⟨0, Nat.zero_le _, rfl, ownB_nil _ _, Below.refl _ _⟩
  case round =>
    obtain ⟨k, hk, rfl, hown, hb⟩ := hrel
    have HO := hide hown
    have hsz := hb.size
    have HP := hide (keyL_part xs k)
    have HQ := hide (keyL_part xs (k + 1))
    have HW : Hid (∀ j, u3.ownBlock = some j → j < wr.heap.size) := fun j hj => (World.ownsRow.lt hown j hj).2
    clear hown
    by_cases hlt : k < len
    · obtain ⟨g, off, rfl, hg, hc⟩ := HV.out.at hlt
      have hk' : k < xs.length := by rw [HL.out]; exact hlt
      have hfv := HF.out _ (getD_mem xs k hk')
      have HT := hide (keyL_take xs k hk')
      obtain ⟨⟨vk, vn, vs⟩, hv, c0, c1, c2⟩ := (hc.below hb hg).row hk'
      rw [hv] at HT hfv
      clear hv hk' hc
      obtain ⟨-, ⟨hn1, hn2⟩, -⟩ := hfv
      dsimp only at *
      by_cases h1 : vk = 1
      · subst h1
        rw [keyV_int rfl] at HT
        dsimp only at HT
        obtain ⟨f1, f2⟩ := flipV_range vn hn1 hn2
        go_wp2
        have hW0 : Below wr.heap.size wr ((wr.alloc (.cells #[.int .i64 1, .int .i64 vn, .string vs] 27)).alloc (.cells #[.int .u8 2] 5)).drew := ((((Below.refl _ _).alloc (Nat.le_refl _) _).alloc (by simp) _).drew)
        have HW0 := hide hW0
        have HB0 : Hid (Bytes ((wr.alloc (.cells #[.int .i64 1, .int .i64 vn, .string vs] 27)).alloc (.cells #[.int .u8 2] 5)).drew (wr.heap.size + 1) [2]) := fun i hi => bytes_alloc_at _ [2] _ _ (by simp) i hi
        clear hW0
        go_region_held3 (fun w' => w'.cell? ⟨wr.heap.size, 1, none⟩ = some (.int .i64 vn)) (first | go_keep | exact hbox2 | exact hbox3 | exact hbox4) (first
          | (go_at_call 33; refine (rflip_any vn _ hn1 hn2).mono ?_; rintro e w' ⟨rfl, hw⟩; have hw := hw.symm; subst hw)
          | (go_at_call 32; refine (rput8 (flipV vn) _ f1 f2).mono ?_; rintro e w3 ⟨g3, c3, rfl, hg3, hl3, hB3, hb3⟩; have HO3 := hide (HO2.out.keep hb3); have HB3 := hide hB3; have hb3' := hb2'.trans (hb3.mono hsz2); have hsz3 := hb3'.size; have hbox3 := (hb3.cell (p := ⟨wr.heap.size, 1, none⟩) hlb).trans hbox2; clear hB3 hb3)
          | (refine step_appB _ (by rfl) (.tmp 20) (.tmp 21) (by rfl) w.heap.size _ _ (by rfl) (HO.out.keep HW0.out) (wr.heap.size + 1) 1 1 [2] (by rfl) rfl HB0.out (by have h5 := HP.out; have h6 := HB.out; simp only [List.length_singleton]; omega) (by simp; omega) ?_; intro v2 w2 hown2 hg2 hb2 hat2; have HN2 : Hid (some wr.heap.size ≠ v2.ownBlock) := (by intro hx; rcases hat2 with hat2 | hat2; (rw [hat2] at hx; exact absurd (HW.out _ hx.symm) (Nat.lt_irrefl _)); (rw [hat2] at hx; have := Option.some.inj hx; simp at this; omega)); have hbox2 := own_box (HO.out.keep HW0.out) hg2 (b := wr.heap.size) (i := 1) (u := .int .i64 vn) HW.out (by simp); have hlb : wr.heap.size < w2.heap.size := World.block_lt_of_cell? _ ⟨wr.heap.size, 1, none⟩ hbox2; have HO2 := hide hown2; have hb2' := hb.trans ((HW0.out.mono hsz).trans hb2); have hsz2 := hb2'.size; clear hown2 hg2 hb2 hat2)
          | (refine step_appB _ (by rfl) (.tmp 22) (.tmp 26) (by rfl) w.heap.size _ _ (by rfl) HO3.out g3 8 c3 _ (by rfl) (putL_length _ _) HB3.out (by have h5 := HP.out; have h6 := HB.out; rw [putL_length, List.length_append, List.length_singleton]; omega) hsz3 ?_; intro v4 w4 hown4 hg4 hb4 hat4; have hbox4 := hg4.cell (a := ⟨wr.heap.size, 1, none⟩) hbox3 HN2.out; have HO4 := hide hown4; have hb4' := hb3'.trans hb4; clear hown4 hg4 hb4 hat4))
        all_goals
          go_wp2
          go_roundw
          case rel => exact ⟨k + 1, by omega, by go_num, by have h2 := HO4.out; rw [HT.out]; simpa using h2, hb4'⟩
          case measure => simp [intOf]; omega
      · have h1' : (vk == 1) = false := by simp [h1]
        by_cases h2 : vk = 2
        · subst h2
          rw [keyV_text rfl] at HT
          dsimp only at HT
          have hvs : vs.size ≤ 500000000 := by
            have h1 := text_longer vs
            have h3 := HQ.out
            rw [HT.out] at h3
            simp only [List.length_append, List.length_cons] at h3
            have := HB.out
            omega
          have HNw : Hid (some wr.heap.size ≠ u3.ownBlock) := fun hx => absurd (HW.out _ hx.symm) (Nat.lt_irrefl _)
          have HPb : Hid ((keyL (xs.take k)).length ≤ 500000000) := Nat.le_trans HP.out HB.out
          generalize keyL (xs.take k) = bs at *
          go_wp2_with (first
            | (at_builtin; go_must (refine wp_appBx _ rfl (.tmp 30) (.tmp 31) rfl w.heap.size _ bs rfl ((HO.out.alloc _).alloc _) _ 1 1 [3] rfl rfl (bytes_alloc_at _ [3] _ _ (by simp)) (by have := HPb.out; simp only [List.length_singleton]; omega) (by simp; omega) wr.heap.size HNw.out (by simp; omega) ?_); intro v2 w2 hown2 hk2 hb2 hn2; have hbox2 := hk2 2 (.string vs) (by simp); have HO2 := hide hown2; have HN2 := hide hn2; have hb2' := ((hb.alloc hsz _).alloc (by simp; omega) _).trans hb2; clear hown2 hk2 hb2 hn2))
          obtain ⟨N, HNn⟩ : ∃ N, Hid (N = wr.heap.size) := ⟨_, rfl⟩
          go_loopw [3, 6] (fun v i wq => ∃ j : Nat, j ≤ vs.size ∧ i = .int .i64 j ∧ OwnB wq w.heap.size v (bs ++ 3 :: ((sb vs).take j).flatMap esc) ∧ wq.cell? ⟨N, 2, none⟩ = some (.string vs) ∧ some N ≠ v.ownBlock ∧ Below w.heap.size w wq) (fun _ i _ => vs.size - (intOf i).toNat)
          case atStart => exact ⟨0, Nat.zero_le _, rfl, HO2.out, by rw [HNn.out]; exact hbox2, by rw [HNn.out]; exact HN2.out, hb2'⟩
          case round =>
            obtain ⟨j, hj, rfl, hown3, hbox3, hn3, hb3⟩ := hrel
            have HO3 := hide hown3
            have HN3 := hide hn3
            have hsz3 := hb3.size
            have hlb : N < wr.heap.size := World.block_lt_of_cell? _ ⟨N, 2, none⟩ hbox3
            have HBx := hide hbox3
            rw [HNn.out] at hbox3
            have hlen : (bs ++ 3 :: ((sb vs).take j).flatMap esc).length ≤ 4000000000 := by
              have h5 := esc_length ((sb vs).take j)
              have h6 := HPb.out
              rw [List.length_take] at h5
              rw [List.length_append, List.length_cons]
              omega
            have HLn := hide hlen
            clear hown3 hlen hn3
            by_cases hlt3 : j < vs.size
            · have HE := hide (take_esc vs j hlt3)
              by_cases hz : ((vs[j]'hlt3).toNat : Int) = 0
              · rw [hz, esc_zero] at HE
                go_wp2_with (first
                  | (at_builtin; refine wp_appBx _ rfl (.tmp 40) (.tmp 45) rfl w.heap.size _ _ rfl (HO3.out.alloc _) _ 1 1 [0] rfl rfl (bytes_alloc _ [0] _) (by have := HLn.out; simp only [List.length_singleton]; omega) (by simp; omega) N HN3.out (by simp; omega) ?_; intro v4 w4 hown4 hk4 hb4 hn4; have HB4 := hide (hk4 2 (.string vs) (cell_later ((Below.refl _ _).alloc (Nat.le_refl _) _) HBx.out)); have hbox4 := HB4.out; rw [HNn.out] at hbox4; have HO4 := hide hown4; have HN4 := hide hn4; have hb4' := (hb3.alloc (by omega) _).trans hb4; have hsz4 := hb4'.size; have hlb4 : N < w4.heap.size := World.block_lt_of_cell? _ ⟨N, 2, none⟩ HB4.out; clear hown4 hk4 hb4 hn4)
                  | (at_builtin; go_must (refine wp_appBx _ rfl (.tmp 52) (.tmp 53) rfl w.heap.size _ _ rfl (HO4.out.alloc _) _ 1 1 [255] rfl rfl (bytes_alloc _ [255] _) (by have := HLn.out; rw [List.length_append]; simp only [List.length_singleton]; omega) (by simp; omega) N HN4.out (by simp; omega) ?_); intro v5 w5 hown5 hk5 hb5 hn5; have HB5 := hide (hk5 2 (.string vs) (cell_later ((Below.refl _ _).alloc (Nat.le_refl _) _) HB4.out)); have HO5 := hide hown5; have HN5 := hide hn5; have hb5' := (hb4'.alloc (by omega) _).trans hb5; clear hown5 hk5 hb5 hn5))
                go_roundw
                case rel => exact ⟨j + 1, by omega, by go_num, by have h3 := HO5.out; rw [HE.out]; simpa using h3, HB5.out, HN5.out, hb5'⟩
                case measure => simp [intOf]; omega
              · rw [esc_other hz] at HE
                have hz' : (((vs[j]'hlt3).toNat : Int) == 0) = false := by simpa using hz
                go_wp2_with (first
                  | (at_builtin; go_must (refine wp_appBx _ rfl (.tmp 40) (.tmp 45) rfl w.heap.size _ _ rfl (HO3.out.alloc _) _ 1 1 [((vs[j]'hlt3).toNat : Int)] rfl rfl (bytes_alloc _ [_] _) (by have := HLn.out; simp only [List.length_singleton]; omega) (by simp; omega) N HN3.out (by simp; omega) ?_); intro v4 w4 hown4 hk4 hb4 hn4; have HB4 := hide (hk4 2 (.string vs) (cell_later ((Below.refl _ _).alloc (Nat.le_refl _) _) HBx.out)); have hbox4 := HB4.out; rw [HNn.out] at hbox4; have HO4 := hide hown4; have HN4 := hide hn4; have hb4' := (hb3.alloc (by omega) _).trans hb4; clear hown4 hk4 hb4 hn4))
                go_roundw
                case rel => exact ⟨j + 1, by omega, by go_num, by have h3 := HO4.out; rw [HE.out]; simpa using h3, HB4.out, HN4.out, hb4'⟩
                case measure => simp [intOf]; omega
            · have hjl : j = vs.size := by omega
              subst hjl
              go_wp2_with (first
                | (at_builtin; go_must (refine wp_appB _ rfl (.tmp 55) (.tmp 56) rfl w.heap.size _ _ rfl (HO3.out.alloc _) _ 2 2 [0, 1] rfl rfl (bytes_alloc _ [0, 1] _) (by have := HLn.out; simp only [List.length_cons, List.length_nil]; omega) (by simp; omega) ?_); intro v4 w4 hown4 hg4 hb4; have HO4 := hide hown4; have hb4' := (hb3.alloc (by omega) _).trans hb4; clear hown4 hg4 hb4))
              go_roundw
              case rel =>
                have h4 := HO4.out
                rw [List.take_of_length_le (by rw [sb_length]; exact Nat.le_refl _)] at h4
                exact ⟨k + 1, by omega, by go_num, by rw [HT.out]; unfold textL; simpa using h4, hb4'⟩
              case measure => simp [intOf]; omega
        · have h2' : (vk == 2) = false := by simp [h2]
          rw [keyV_null h2 h1] at HT
          go_wp2_with (first
            | (at_builtin; go_must (refine wp_appB _ rfl (.tmp 15) (.tmp 16) rfl w.heap.size _ _ rfl ((HO.out.alloc _).alloc _) _ 1 1 [1] rfl rfl (bytes_alloc_at _ [1] _ _ (by simp)) (by have h5 := HP.out; have h6 := HB.out; simp only [List.length_singleton]; omega) (by simp; omega) ?_); intro v2 w2 hown2 hg2 hb2; have HO2 := hide hown2; have hb2' := ((hb.alloc hsz _).alloc (by simp; omega) _).trans hb2; clear hown2 hg2 hb2))
          go_roundw
          case rel => exact ⟨k + 1, by omega, by go_num, by have h2 := HO2.out; rw [HT.out]; simpa using h2, hb2'⟩
          case measure => simp [intOf]; omega
    · have hkl : k = len := by omega
      subst hkl
      go_wp2
      go_ret
      refine ⟨_, rfl, ?_, hb⟩
      have h2 := HO.out
      rw [List.take_of_length_le (by rw [HL.out]; exact Nat.le_refl _)] at h2
      exact h2

end Go.Proofs.Ytfihjhcjkgpgfaa
