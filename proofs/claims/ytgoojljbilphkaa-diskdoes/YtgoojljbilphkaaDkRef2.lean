/- The reference's Crash. -/
import Derived.Test.YtgoojljbilphkaaDkRef
import Derived.Deep.RegionHeld3
namespace Go.Proofs.Ytgoojljbilphkaa
open Go.RowKit NumMath
set_option linter.unusedVariables false

/-- what the reference's Crash has of the rest behind i bytes of it -/
def crR (rest noise : List Int) (K i : Nat) : List Int := (rest.take i).take K ++ noise.take (i - K)

theorem crR_zero (rest noise : List Int) (K : Nat) : crR rest noise K 0 = [] := by simp [crR]

theorem crR_keep (rest noise : List Int) (K i : Nat) (h : i < rest.length) (hk : i < K) : crR rest noise K (i + 1) = crR rest noise K i ++ [rest.getD i 0] := by
  unfold crR
  rw [show i - K = 0 by omega, show i + 1 - K = 0 by omega, List.take_zero, List.append_nil, List.append_nil, List.take_take, List.take_take, Nat.min_eq_right (by omega), Nat.min_eq_right (by omega), List.take_add_one]
  simp [List.getD, List.getElem?_eq_getElem h]

theorem crR_noise (rest noise : List Int) (K i : Nat) (hk : ¬ i < K) (hn : i - K < noise.length) : crR rest noise K (i + 1) = crR rest noise K i ++ [noise.getD (i - K) 0] := by
  unfold crR
  rw [show i + 1 - K = i - K + 1 by omega, List.take_take, List.take_take, Nat.min_eq_left (by omega), Nat.min_eq_left (by omega), List.append_assoc]
  congr 1
  rw [List.take_add_one]
  simp [List.getD, List.getElem?_eq_getElem hn]

theorem crR_none (rest noise : List Int) (K i : Nat) (hk : ¬ i < K) (hn : ¬ i - K < noise.length) : crR rest noise K (i + 1) = crR rest noise K i := by
  unfold crR
  rw [List.take_take, List.take_take, Nat.min_eq_left (by omega), Nat.min_eq_left (by omega), List.take_of_length_le (l := noise) (i := i + 1 - K) (by omega), List.take_of_length_le (l := noise) (i := i - K) (by omega)]

theorem crR_end (bs noise : List Int) (syn : Nat) (keep : Int) (r : Nat) (hr : syn + r = bs.length) : bs.take syn ++ crR (bs.drop syn) noise keep.toNat r = crashL bs syn keep noise := by
  unfold crR crashL
  rw [List.take_of_length_le (l := bs.drop syn) (by rw [List.length_drop]; omega), show bs.length - syn = r by omega, ← List.append_assoc]
  congr 1
  rw [List.take_add]

theorem crR_length (rest noise : List Int) (K i : Nat) : (crR rest noise K i).length ≤ i := by
  unfold crR
  simp
  omega

theorem crashL_range {bs noise : List Int} {syn : Nat} {keep : Int} (h : ∀ c ∈ bs, 0 ≤ c ∧ c < 256) (h' : ∀ c ∈ noise, 0 ≤ c ∧ c < 256) : ∀ c ∈ crashL bs syn keep noise, 0 ≤ c ∧ c < 256 := by
  intro c hc
  unfold crashL at hc
  rcases List.mem_append.1 hc with hc | hc
  · exact h c (List.mem_of_mem_take hc)
  · exact h' c (List.mem_of_mem_take hc)

set_option maxHeartbeats 2000000 in
theorem xcrash_any (base q size : Nat) (bs : List Int) (syn : Nat) (keep : Int) (a : Option Addr) (len cap : Nat) (xs : List Int) (w : World) (h : IsX w base q size bs syn) (hs : SrcB w a len xs) (hr : ∀ c ∈ xs, 0 ≤ c ∧ c < 256) (hl : len ≤ 1000000000) (hb : bs.length ≤ 1000000000) (hsyn : syn ≤ bs.length) (hbase : base ≤ w.heap.size) :
    Calls Try.prog 19 #[.pointer (some ⟨q, 0, none⟩), .int .i64 keep, .slice a len cap] w fun e w' => e = .returned (.tuple #[]) ∧ IsX w' base q size (crashL bs syn keep xs) (crashL bs syn keep xs).length ∧ SPost 0 w q w' := by
  have H := hide h
  have HS := hide hs
  have HXL := hide hs.1
  obtain ⟨fa, n, c, hc, h1, h2, hf, hB, hq, ho⟩ := h
  have hn := hB.1
  have HB := hide hB
  have HO := hide ho
  have HF := hide hf
  have HR := hide hr
  have hf0 := hf 0
  obtain ⟨r, hrn⟩ : ∃ r, syn + r = n := ⟨n - syn, by omega⟩
  obtain ⟨cr, hcr⟩ : ∃ cr, syn + cr = c := ⟨c - syn, by have := hB.2.1; omega⟩
  obtain ⟨b1, hcut1, hi1⟩ := isB_cutTo (show IsBytes w.drew fa n c bs from hB) syn (by omega) .i64 (syn : Int) rfl
  have HI1 := hide hi1.src
  have HL1 : Hid (([] : List Int).length + (bs.take syn).length ≤ 1099511627776) := by show _ ≤ _; rw [List.length_take, List.length_nil]; omega
  obtain ⟨b2, hcut2, hi2⟩ := isB_cutFrom hB syn r cr hrn hcr .i64 (syn : Int) rfl
  have HI2 := hide hi2
  have HRL := hide hi2.1
  have hr9 : r ≤ 1000000000 := by omega
  have HEnd := hide (crR_end bs xs syn keep r (hrn.trans hn.symm))
  have HLs : Hid ((bs.take syn).length + r ≤ 1000000000) := by show _ ≤ _; rw [List.length_take]; omega
  have HRg : Hid (∀ c ∈ crashL bs syn keep xs, 0 ≤ c ∧ c < 256) := crashL_range hB.2.2.2.1 hr
  have HCl : Hid ((crashL bs syn keep xs).length ≤ 1000000000) := by have := (crashL_length bs syn keep xs hsyn).2; show _ ≤ _; omega
  have hK : keep < 0 → keep.toNat = 0 := fun h => by omega
  have hK' : ¬ keep < 0 → (keep.toNat : Int) = keep := fun h => by omega
  have HKi : Hid (∀ i : Nat, (i : Int) < keep ↔ i < keep.toNat) := by intro i; omega
  clear hB ho hs hf hr hi1 hi2 hn hrn hcr hb hsyn hK hK'
  generalize keep.toNat = K at *
  generalize bs.drop syn = rest at *
  generalize bs.take syn = hd at *
  go_enter Try.func19, Try.ntmps19
  go_wp2
  go_region_held3 (fun w' => w'.cell? ⟨q, 0, none⟩ = some (.slice fa n c) ∧ w'.cell? ⟨q, 1, none⟩ = some (.int .i64 (syn : Int))) (first | go_keep | exact ⟨hc3, h13⟩) (first
    | (refine step_joinB _ (by rfl) (.const (.slice none 0 0)) (.tmp 19) (by rfl) w.heap.size _ [] (by rfl) (ownB_nil _ _) b1 syn c hd (by rfl) HI1.out HL1.out (Nat.le_refl _) ?_; intro v3 w3 hown3 hg3 hat3; rw [List.nil_append] at hown3; have HO3 := hide hown3; have hb3 : Below w.heap.size w w3 := below_undrew (OwnB.grown (ownB_nil w.drew w.heap.size) hg3 (Nat.le_refl _)); have hc3 := (hb3.cell (p := ⟨q, 0, none⟩) H.out.at).trans hc; have h13 := (hb3.cell (p := ⟨q, 1, none⟩) H.out.at).trans h1; clear hown3 hg3 hat3))
  all_goals
    obtain ⟨a3, n3, c3, rfl⟩ := HO3.out.any3
    go_wp2
    go_region
    all_goals
      go_wp2
      go_loopw [6, 8, 32] (fun v k i wr => ∃ m : Nat, m ≤ r ∧ i = .int .i64 m ∧ k = .int .i64 ((min (m - K) len : Nat) : Int) ∧ OwnB wr w.heap.size v (hd ++ crR rest xs K m) ∧ Below w.heap.size w wr) (fun _ _ i _ => r - (intOf i).toNat)
      case atStart =>
        exact ⟨0, Nat.zero_le _, rfl, by simp, by rw [crR_zero, List.append_nil]; exact HO3.out, hb3.drew⟩
      case round =>
        obtain ⟨m, hm, rfl, rfl, hown, hbr⟩ := hrel
        have HO4 := hide hown
        have hsz := hbr.size
        obtain ⟨kk, hkk⟩ : ∃ kk, min (m - K) len = kk := ⟨_, rfl⟩
        rw [hkk]
        have HLn : Hid ((hd ++ crR rest xs K m).length + 1 ≤ 1099511627776) := by have := HLs.out; have := crR_length rest xs K m; show _ ≤ _; rw [List.length_append]; omega
        obtain ⟨va, vn, vc, rfl⟩ := hown.any3
        clear hown
        by_cases hlt : m < r
        · obtain ⟨g2, o2, rfl, hg2, hB2⟩ := HI2.out.at hlt
          have hcel := (hbr.cell (p := ⟨g2, o2 + m, none⟩) hg2).trans (hB2 m (by rw [HRL.out]; exact hlt))
          have HKp := hide (crR_keep rest xs K m (by rw [HRL.out]; exact hlt))
          clear hB2
          generalize rest.getD m 0 = x at *
          by_cases hk : m < K
          · have hk1 : (m : Int) < keep := (HKi.out m).2 hk
            have HSc : Hid (SrcB (wr.alloc (.cells #[.int .u8 x] 5)) (some ⟨wr.heap.size, 0, none⟩) 1 [x]) := ⟨rfl, .inr ⟨wr.heap.size, 0, rfl, by simp, fun i hi => by rw [Nat.zero_add]; exact bytes_alloc wr [x] _ i hi⟩⟩
            have HK0 : Hid (kk = min (m + 1 - K) len) := by show _ = _; omega
            clear hkk hk
            go_wp2_with (first
              | (at_builtin; go_must (refine wp_joinB _ rfl (.tmp 40) (.tmp 42) rfl w.heap.size _ _ rfl (HO4.out.alloc _) _ 1 1 [x] rfl HSc.out HLn.out (by simp; omega) ?_); intro v5 w5 hown5 hg5 hat5; have HO5 := hide hown5; have hb5 := (hbr.alloc hsz _).trans ((HO4.out.alloc _).grown hg5 (by simp; omega)); clear hown5 hg5 hat5))
            go_roundw
            case rel => exact ⟨m + 1, by omega, by go_num, by rw [HK0.out], by rw [HKp.out (by have := (HKi.out m).1 hk1; exact this), ← List.append_assoc]; exact HO5.out, hb5⟩
            case measure => simp [intOf]; omega
          · have hk1 : ¬ (m : Int) < keep := fun h => hk ((HKi.out m).1 h)
            by_cases hn : m - K < len
            · have hkl : kk < len := by omega
              have hkl' : (kk : Int) < (len : Int) := by omega
              have HNo := hide (crR_noise rest xs K m hk (by rw [HXL.out]; exact hn))
              have HK0 : Hid (min (m + 1 - K) len = kk + 1) := by show _ = _; omega
              have hmk : m - K = kk := by omega
              rw [hmk] at HNo
              obtain ⟨ga, oa, rfl, hga, hBa⟩ : ∃ g off, a = some ⟨g, off, none⟩ ∧ g < w.heap.size ∧ BytesAt w g off xs := by
                rcases HS.out.2 with h | h
                · omega
                · exact h
              have hcel2 := (hbr.cell (p := ⟨ga, oa + kk, none⟩) hga).trans (hBa kk (by rw [HXL.out]; exact hkl))
              clear hBa hkk hmk hn hk
              generalize xs.getD kk 0 = y at *
              have HSc : Hid (SrcB (wr.alloc (.cells #[.int .u8 y] 5)) (some ⟨wr.heap.size, 0, none⟩) 1 [y]) := ⟨rfl, .inr ⟨wr.heap.size, 0, rfl, by simp, fun i hi => by rw [Nat.zero_add]; exact bytes_alloc wr [y] _ i hi⟩⟩
              go_wp2_with (first
                | (at_builtin; go_must (refine wp_joinB _ rfl (.tmp 48) (.tmp 53) rfl w.heap.size _ _ rfl (HO4.out.alloc _) _ 1 1 [y] rfl HSc.out HLn.out (by simp; omega) ?_); intro v5 w5 hown5 hg5 hat5; have HO5 := hide hown5; have hb5 := (hbr.alloc hsz _).trans ((HO4.out.alloc _).grown hg5 (by simp; omega)); clear hown5 hg5 hat5))
              go_roundw
              case rel => exact ⟨m + 1, by omega, by go_num, by rw [HK0.out]; go_num, by rw [HNo.out, ← List.append_assoc]; exact HO5.out, hb5⟩
              case measure => simp [intOf]; omega
            · have hkl : ¬ (kk : Int) < (len : Int) := by omega
              have HNo := hide (crR_none rest xs K m hk (by rw [HXL.out]; exact hn))
              have HK0 : Hid (kk = min (m + 1 - K) len) := by show _ = _; omega
              clear hkk hn hk
              go_wp2
              go_roundw
              case rel => exact ⟨m + 1, by omega, by go_num, by rw [HK0.out], by rw [HNo.out]; exact HO4.out, hbr⟩
              case measure => simp [intOf]; omega
        · have hmr : m = r := by omega
          subst hmr
          rw [HEnd.out] at HO4
          obtain ⟨hi4, hx4⟩ := HO4.out.isB HRg.out
          have HP := hide (isX_set0 hc h1 h2 HF.out hq hbase HO.out hbr hi4 (fun x hx => .inr (hx4 x hx)))
          have hc4 := (hbr.cell (p := ⟨q, 0, none⟩) H.out.at).trans hc
          have hf4 := (hbr.frozen (p := ⟨q, 0, none⟩) H.out.at).trans hf0
          clear hi4 hx4 hkk
          go_wp2_with (first
            | (go_at_call 13; go_must (refine (xsync_any base q size _ syn _ HP.out.1 HCl.out).mono ?_); rintro e w5 ⟨rfl, hd5, hp5⟩; have HQ := hide hd5; have HQ2 := hide (HP.out.2.trans hp5); clear hd5 hp5))
          go_end0
          exact ⟨rfl, HQ.out, HQ2.out⟩

end Go.Proofs.Ytgoojljbilphkaa
