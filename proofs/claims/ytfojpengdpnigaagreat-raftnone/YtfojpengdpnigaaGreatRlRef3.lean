/- The reference's log: told, Members, Compact. -/
import Derived.Test.YtfojpengdpnigaaGreatRlRef2
import Derived.Test.YtfojpengdpnigaaGreatRl8a
namespace Go.Proofs.YtfojpengdpnigaaGreat
open Go.RowKit NumMath
set_option linter.unusedVariables false
set_option maxRecDepth 100000

theorem xofMem_none (a : Option Addr) (len cap : Nat) (bs : List Int) (w : World) (h : IsBytes w a len cap bs) (hl : len ≤ 1000000000) (hN : memOf bs = none) :
    Calls Tryz.prog 151 #[.slice a len cap] w fun e w' => e = .returned (.tuple #[.slice none 0 0, .int .i64 30]) ∧ Below w.heap.size w w' := by
  refine (xofMem_any a len cap bs w h hl).mono ?_
  rintro e w' (⟨_, rfl, hb⟩ | ⟨l, a, n, c, h1, _⟩)
  · exact ⟨rfl, hb⟩
  · rw [hN] at h1; cases h1

theorem xofMem_some (a : Option Addr) (len cap : Nat) (bs l : List Int) (w : World) (h : IsBytes w a len cap bs) (hl : len ≤ 1000000000) (hN : memOf bs = some l) :
    Calls Tryz.prog 151 #[.slice a len cap] w fun e w' => ∃ b n c, e = .returned (.tuple #[.slice b n c, .int .i64 0]) ∧ OwnU w' w.heap.size (.slice b n c) l ∧ (∀ x ∈ l, 0 ≤ x ∧ x ≤ 18446744073709551615) ∧ l.length ≤ 9 ∧ Below w.heap.size w w' := by
  refine (xofMem_any a len cap bs w h hl).mono ?_
  rintro e w' (⟨h1, _⟩ | ⟨l', a, n, c, h1, rfl, ho, hr, h9, hb⟩)
  · rw [hN] at h1; cases h1
  · rw [hN] at h1
    cases h1
    exact ⟨a, n, c, rfl, ho, hr, h9, hb⟩

theorem told_succ (s : Snp) (es : List MEnt) (j k : Nat) (hj : j < es.length) (hk : j < k) : toldL s ((es.take (min (j + 1) k)).map MEnt.e) = stepT (toldL s ((es.take (min j k)).map MEnt.e)) (es.getD j ment0).e := by
  rw [show min (j + 1) k = j + 1 by omega, show min j k = j by omega, take_succ_m es j hj, List.map_append]
  exact told_snoc _ _ _

theorem told_over (s : Snp) (es : List MEnt) (j k : Nat) (hk : ¬ j < k) : toldL s ((es.take (min (j + 1) k)).map MEnt.e) = toldL s ((es.take (min j k)).map MEnt.e) := by
  rw [show min (j + 1) k = k by omega, show min j k = k by omega]

theorem numX_own {X : Nat → Prop} {w : World} {B : Nat} {b : Option Addr} {n c : Nat} {l : List Int} (h : OwnU w B (.slice b n c) l) (hr : ∀ x ∈ l, 0 ≤ x ∧ x ≤ 18446744073709551615) (hX : ∀ k, X k → k < B) : NumX X w b n c l := by
  obtain ⟨a', n', c', e, hI, hy⟩ := h.is hr
  cases e
  exact ⟨hI, .inr (fun y hy' hk => by have := (hy y hy').1; have := hX _ hk; omega)⟩

set_option maxHeartbeats 400000 in
theorem xtold_any (X : Nat → Prop) (p : Nat) (s : Snp) (ma : Option Addr) (mn mc : Nat) (a : Option Addr) (en ec : Nat) (es : List MEnt) (to : Int) (k : Nat) (w : World) (c0 : w.cell? ⟨p, 0, none⟩ = some (.int .u64 s.i)) (c2 : w.cell? ⟨p, 2, none⟩ = some (.slice ma mn mc)) (c4 : w.cell? ⟨p, 4, none⟩ = some (.slice a en ec)) (hm : NumX X w ma mn mc s.m) (hE : IsMs X w a en ec es) (hl : en ≤ 1000000) (hd : ∀ m ∈ es, m.n ≤ 1000000) (hk : ∀ j, j < en → (to < (es.getD j ment0).e.i ↔ ¬ j < k)) (hXlt : ∀ k, X k → k < w.heap.size) :
    Calls Tryz.prog 131 #[.pointer (some ⟨p, 0, none⟩), .int .u64 to] w fun e w' => ∃ b n c, e = .returned (.tuple #[.slice b n c, .int .u64 (toldL s ((es.take k).map MEnt.e)).2]) ∧ NumX X w' b n c (toldL s ((es.take k).map MEnt.e)).1 ∧ Below w.heap.size w w' := by
  have HM := hide hm
  have HE := hide hE
  have hen := hE.1
  have HEn := hide hen
  have HK := hide hk
  have HD := hide hd
  have HX := hide hXlt
  clear hm hE hd hk hen hXlt
  go_enter Tryz.func131, Tryz.ntmps131
  go_wp2
  go_quiet (first | fail)
  go_wp2
  go_loopw [6, 7, 27] (fun v at_ i wr => ∃ (j : Nat) (b : Option Addr) (n c : Nat), j ≤ en ∧ i = .int .i64 j ∧ v = .slice b n c ∧ at_ = .int .u64 (toldL s ((es.take (min j k)).map MEnt.e)).2 ∧ NumX X wr b n c (toldL s ((es.take (min j k)).map MEnt.e)).1 ∧ Below w.heap.size w wr) (fun _ _ i _ => en - (intOf i).toNat)
  case atStart => exact ⟨0, ma, mn, mc, Nat.zero_le _, rfl, rfl, by simp [toldL], by simp only [Nat.zero_min, List.take_zero, List.map_nil, toldL, List.foldl_nil]; exact HM.out.keep ⟨rfl, rfl, rfl, Nat.le_refl _, fun _ _ => rfl⟩, ⟨rfl, rfl, rfl, Nat.le_refl _, fun _ _ => rfl⟩⟩
  case round =>
    obtain ⟨j, b, n, c, hj, rfl, rfl, rfl, hN, hb⟩ := hrel
    have HN := hide hN
    have hsz := hb.size
    clear hN
    by_cases hlt : j < en
    · obtain ⟨g, off, rfl, hg, hC⟩ := HE.out.at hlt
      obtain ⟨q0, q1, q2, q3⟩ := (hC j (by have := HEn.out; omega)).same (hb.block g hg)
      have hik := HK.out j hlt
      have H1 := hide (fun (o : Obj) => (show Below w.heap.size w (wr.alloc o) from hb.trans ((new_below _ _).mono hb.size)))
      have HS := hide (told_succ s es j k (by rw [HEn.out]; exact hlt))
      have HV := hide (told_over s es j k)
      have HOk := hide (HE.out.2.2.2.1 _ (ment_mem es j (by rw [HEn.out]; exact hlt)))
      have HDn := hide (HD.out _ (ment_mem es j (by rw [HEn.out]; exact hlt)))
      generalize toldL s ((es.take (min j k)).map MEnt.e) = acc at *
      generalize es.getD j ment0 = m at *
      obtain ⟨⟨mi, mt, mk, md⟩, mb, mn', mc'⟩ := m
      obtain ⟨al, ai⟩ := acc
      dsimp only at *
      by_cases hk1 : mk = 1
      · by_cases hjk : j < k
        · have hd1 : ¬ to < mi := fun h => (hik.1 h) hjk
          cases hM : memOf md with
          | none =>
            have HS2 := hide ((HS.out hjk).trans (silent_none hM _))
            clear hik HS HV
            go_wp2_with (first
              | (go_at_call 151; go_must (refine (xofMem_none mb mn' mc' md _ (HOk.out.2.1.keep (by exact H1.out _)) (by have := HDn.out; omega) hM).mono ?_); rintro e w3 ⟨rfl, hb3⟩))
            go_roundw
            case rel => exact ⟨j + 1, b, n, c, by omega, by go_num, rfl, by rw [HS2.out], by rw [HS2.out]; exact (HN.out.keep (new_below _ _)).keep hb3, (H1.out _).trans (hb3.mono (by simp; omega))⟩
            case measure => simp [intOf]; omega
          | some l =>
            have HS2 := hide ((HS.out hjk).trans (step_told (acc := (al, ai)) (e := ⟨mi, mt, mk, md⟩) hk1 hM))
            clear hik HS HV
            go_wp2_with (first
              | (go_at_call 151; go_must (refine (xofMem_some mb mn' mc' md l _ (HOk.out.2.1.keep (by exact H1.out _)) (by have := HDn.out; omega) hM).mono ?_); rintro e w3 ⟨b3, n3, d3, rfl, ho3, hr3, h93, hb3⟩; have HB3 := hide hb3; have HO3 := hide ho3; have HR3 := hide hr3; have t0 := (hb3.cell (p := ⟨wr.heap.size, 0, none⟩) (by simp)).trans (show _ = some (Value.int .u64 mi) by simp); clear hb3 ho3 hr3 h93))
            go_quiet (first | fail)
            go_wp2
            go_roundw
            case rel => exact ⟨j + 1, b3, n3, d3, by omega, by go_num, rfl, by rw [HS2.out], by rw [HS2.out]; exact (numX_own HO3.out HR3.out (fun k hk => by have := HX.out k hk; simp; omega)).keep ⟨rfl, rfl, rfl, Nat.le_refl _, fun _ _ => rfl⟩, ((H1.out _).trans (HB3.out.mono (by simp; omega))).trans ⟨rfl, rfl, rfl, Nat.le_refl _, fun _ _ => rfl⟩⟩
            case measure => simp [intOf]; omega
        · have hd1 : to < mi := hik.2 hjk
          have HS2 := hide (HV.out hjk)
          clear hik
          go_wp2
          go_roundw
          case rel => exact ⟨j + 1, b, n, c, by omega, by go_num, rfl, by rw [HS2.out], by rw [HS2.out]; exact HN.out.keep (new_below _ _), hb.trans ((new_below _ _).mono hb.size)⟩
          case measure => simp [intOf]; omega
      · have hk2 : (mk == 1) = false := by simp [hk1]
        have HS2 : Hid (toldL s ((es.take (min (j + 1) k)).map MEnt.e) = (al, ai)) := by
          show _ = _
          by_cases hjk : j < k
          · exact (HS.out hjk).trans (silent_kind hk1 _)
          · exact HV.out hjk
        clear hik
        go_wp2
        go_roundw
        case rel => exact ⟨j + 1, b, n, c, by omega, by go_num, rfl, by rw [HS2.out], by rw [HS2.out]; exact HN.out.keep (new_below _ _), hb.trans ((new_below _ _).mono hb.size)⟩
        case measure => simp [intOf]; omega
    · have hjn : j = en := by omega
      subst hjn
      have HTk : Hid (es.take (min j k) = es.take k) := by
        show _ = _
        by_cases h : k ≤ j
        · rw [show min j k = k by omega]
        · rw [List.take_of_length_le (by rw [HEn.out]; omega), List.take_of_length_le (by rw [HEn.out]; omega)]
      go_wp2
      go_ret2
      rw [← HTk.out]
      exact ⟨b, n, c, rfl, HN.out, hb⟩

end Go.Proofs.YtfojpengdpnigaaGreat
