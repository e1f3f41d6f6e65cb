/- A disk: Cut, Crash; what a crash leaves, as a list; every call of the nil disk. -/
import Derived.Test.YtajpamkdcpbabaaDk
import Derived.Laws.CopyOwn
import Derived.Deep.RegionHeld
namespace Go.Proofs.Ytajpamkdcpbabaa
open Go.RowKit NumMath
set_option linter.unusedVariables false

theorem add_zero_addr (x : Addr) : x.add 0 = x := by
  unfold Addr.add
  split <;> simp_all

/-- x[:k], where it lies -/
theorem run_cutTo (a : Option Addr) (len cap : Nat) (hlc : len ≤ cap) (k : Nat) (h1 : k ≤ len) (kh : IntKind) (W : World) :
    (Instr.sliceAt 22 (.slice a len cap) none (some (.int kh (k : Int))) none).run Try.prog W = .ok (.slice a k cap) W := by
  rw [run_sliceAt_slice W 22 _ _ _ _ Try.underlying22, run_slice_h W 22 a len cap Try.underlying22 _ _ (by omega) (by omega), size_u8]
  simp only [Result.andThen_ok, sliced, Int.toNat_natCast]
  simp [add_zero_addr]

/-- x[l:], where it lies -/
theorem run_cutFrom (a : Option Addr) (len cap : Nat) (hlc : len ≤ cap) (l k c : Nat) (h1 : l + k = len) (h3 : l + c = cap) (kl : IntKind) :
    ∃ b, (∀ W, (Instr.sliceAt 22 (.slice a len cap) (some (.int kl (l : Int))) none none).run Try.prog W = .ok (.slice b k c) W) ∧ (k ≠ 0 → b = a.map (fun x => x.add l)) := by
  refine ⟨if cap = l then a else a.map (fun x => x.add (l * 1)), fun W => ?_, fun h => ?_⟩
  · rw [run_sliceAt_slice W 22 _ _ _ _ Try.underlying22, run_slice_l W 22 a len cap Try.underlying22 _ _ (by omega) (by omega), size_u8]
    simp only [Result.andThen_ok, sliced, Int.toNat_natCast]
    congr 2 <;> omega
  · rw [if_neg (by omega), Nat.mul_one]

theorem OwnB.take {w : World} {base : Nat} {a : Option Addr} {n c : Nat} {bs : List Int} (h : OwnB w base (.slice a n c) bs) (m : Nat) (hm : m ≤ n) : OwnB w base (.slice a m c) (bs.take m) := by
  have hl := h.len
  have hlm : (bs.take m).length = m := by rw [List.length_take]; omega
  refine ⟨by simp, ?_⟩
  rw [hlm]
  rcases h.2 with ⟨e, h0⟩ | ⟨g, cap, cur, e, hg, hh, hn, hx, hs, ht⟩
  · cases e
    obtain rfl : m = 0 := by omega
    exact .inl ⟨rfl, rfl⟩
  · cases e
    refine .inr ⟨g, c, cur, rfl, hg, hh, by omega, hx, hs, ?_⟩
    rw [List.map_take, ← ht, List.take_take]
    congr 1
    omega

theorem splice_take {α : Type} {C B Y : List α} {n off k : Nat} (hB : C.take n = B) (hn : B.length = n) (hk : Y.length = k) (h : off + k ≤ n) : (C.take off ++ (Y ++ C.drop (off + k))).take n = B.take off ++ (Y ++ B.drop (off + k)) := by
  obtain ⟨D, rfl⟩ : ∃ D, C = B ++ D := ⟨C.drop n, by rw [← hB, List.take_append_drop]⟩
  have e1 : (B ++ D).take off = B.take off := List.take_append_of_le_length (by omega)
  have e2 : (B ++ D).drop (off + k) = B.drop (off + k) ++ D := List.drop_append_of_le_length (by omega)
  rw [e1, e2, ← List.append_assoc Y, ← List.append_assoc (B.take off)]
  refine List.take_left' ?_
  simp
  omega

/-- copy into a slice that the call owns, from one of its places on -/
theorem run_copyB (w : World) (ty : TypeId) (base : Nat) (fa : Option Addr) (n c : Nat) (bs : List Int) (hown : OwnB w base (.slice fa n c) bs)
    (dp : Option Addr) (off dl dc : Nat) (hdp : dl ≠ 0 → dp = fa.map (fun x => x.add off)) (hoff : off + dl = n)
    (sa : Option Addr) (sl sc : Nat) (ys : List Int) (hsrc : SrcB w sa sl ys) (k : Nat) (hk : k = min sl dl) :
    ∃ w', (Builtin.copy_ #[22, 22] ty #[.slice dp dl dc, .slice sa sl sc]).run Try.prog w = .ok (.int .i64 (k : Int)) w' ∧ OwnB w' base (.slice fa n c) (bs.take off ++ (ys.take k ++ bs.drop (off + k))) ∧ w.grownBy w' (Value.slice fa n c).ownBlock := by
  obtain ⟨i0, hi, hz0, hz1, hz2⟩ := info_parts infoU8
  have hsz : (Try.prog.info? 5).map (·.size) = some 1 := by rw [hi]; simp [hz1]
  have hl := hown.len
  by_cases h0 : k = 0
  · subst h0
    refine ⟨w, run_copy_none (P := Try.prog) w 22 22 ty 5 dp sa dl dc sl sc Try.underlying22 hsz (by show min sl dl = 0; omega), ?_, ⟨rfl, rfl, rfl, Nat.le_refl _, fun _ _ _ => rfl⟩⟩
    simpa using hown
  · have hyl := hsrc.1
    rcases hsrc.2 with h1 | ⟨sg, soff, rfl, hsg, hB⟩
    · omega
    · rcases hown.2 with ⟨e, h2⟩ | ⟨g, cap, cur, e, hg, hh, hn, hx, hs2, ht⟩
      · cases e
        omega
      · cases e
        have hdp' := hdp (by omega)
        have hadd : (⟨g, 0, none⟩ : Addr).add off = ⟨g, off, none⟩ := by unfold Addr.add; split <;> simp_all
        rw [Option.map_some, hadd] at hdp'
        subst hdp'
        have hck : ((ys.take k).map (Value.int .u8)).length = k := by rw [List.length_map, List.length_take]; omega
        have hrun := run_copy_row (P := Try.prog) w 22 22 ty 5 g off dl dc ⟨sg, soff, none⟩ sl sc cur 5 ((ys.take k).map (Value.int .u8)) Try.underlying22 hsz hh (by rw [hck]; exact hk) (bytesAt_add (bytesAt_take hB k)) (by rw [hck]; omega) (u8_one _)
        rw [hck] at hrun
        have hcur : cur.toList.take bs.length = bs.map (Value.int .u8) := by rw [Nat.mul_one] at ht; exact ht
        have hcl : cur.toList.length = c := by rw [Array.length_toList]; omega
        refine ⟨_, hrun, ?_, ?_⟩
        · have hlen : (bs.take off ++ (ys.take k ++ bs.drop (off + k))).length = bs.length := by simp; omega
          refine ⟨by simp, ?_⟩
          rw [hlen]
          refine .inr ⟨g, c, _, rfl, hg, setRow_heap w g _ _ 5 _ hh, by omega, hx, ?_, ?_⟩
          · simp; omega
          · rw [Nat.mul_one, List.toList_toArray, List.append_assoc, splice_take hcur (by simp) hck (by omega)]
            simp only [List.map_append, List.map_take, List.map_drop]
        · exact ⟨rfl, rfl, rfl, by simp [World.setRow], fun i _ hi => setRow_other w g i _ (fun e => hi (by rw [e]; rfl))⟩

set_option maxHeartbeats 400000 in
theorem dleave_any (base p size : Nat) (bs : List Int) (syn m : Nat) (w : World) (h : IsD w base p size bs syn) (hm : m ≤ bs.length) (hb : bs.length ≤ 1000000000) :
    Calls Try.prog 42 #[.pointer (some ⟨p, 0, none⟩), .int .i64 (m : Int)] w fun e w' => e = .returned (.tuple #[]) ∧ IsD w' base p size (bs.take m) m ∧ SPost 2 w p w' := by
  obtain ⟨fa, n, c, h0, h1, h2, h3, hf, ho, hp, hne⟩ := h
  have hn := ho.len
  subst hn
  have hcap := ho.cap
  have hcut := run_cutTo fa bs.length c hcap.1 m hm .i64
  have HP := hide (isD_set2 h0 h1 h2 h3 hf hp hne (ho.take m hm) (Below.grown (Below.refl _ _) _) (fun k hk => .inl (by cases fa <;> exact hk)))
  have HQ := hide (isD_set3 HP.out.1 m)
  have hf2 := hf 2
  have hf3 := hf 3
  clear ho hne hf hcap
  go_enter Try.func42, Try.ntmps42
  go_wp2
  go_end0
  exact ⟨rfl, HQ.out.1, HP.out.2.trans HQ.out.2⟩

/-- what Cut answers, and what is there then -/
def dcut (bs : List Int) (syn : Nat) (n : Int) : Int × List Int × Nat := if n < 0 ∨ (bs.length : Int) < n then (1, bs, syn) else (0, bs.take n.toNat, n.toNat)

set_option maxHeartbeats 1000000 in
theorem dcut_any (base p size : Nat) (bs : List Int) (syn : Nat) (n : Int) (w : World) (h : IsD w base p size bs syn) (hb : bs.length ≤ 1000000000) :
    Calls Try.prog 29 #[.pointer (some ⟨p, 0, none⟩), .int .i64 n] w fun e w' => e = .returned (.int .i64 (dcut bs syn n).1) ∧ IsD w' base p size (dcut bs syn n).2.1 (dcut bs syn n).2.2 ∧ SPost 2 w p w' := by
  have H := hide h
  obtain ⟨fa, m, c, h0, h1, h2, h3, hf, ho, hp, hne⟩ := h
  have hn := ho.len
  subst hn
  clear ho hne hf
  by_cases hlt : n < 0
  · have hd : dcut bs syn n = (1, bs, syn) := if_pos (.inl hlt)
    rw [hd]
    go_enter Try.func29, Try.ntmps29
    go_wp2_with (first
      | (go_at_call 34; refine (usable_any p _ h0).mono ?_; rintro e w' ⟨rfl, hw⟩; have hw := hw.symm; subst hw))
    go_ret
    exact ⟨rfl, H.out, SPost.refl _ _ _⟩
  · by_cases hgt : (bs.length : Int) < n
    · have hd : dcut bs syn n = (1, bs, syn) := if_pos (.inr hgt)
      rw [hd]
      go_enter Try.func29, Try.ntmps29
      go_wp2_with (first
        | (go_at_call 34; refine (usable_any p _ h0).mono ?_; rintro e w' ⟨rfl, hw⟩; have hw := hw.symm; subst hw))
      go_ret
      exact ⟨rfl, H.out, SPost.refl _ _ _⟩
    · have hd : dcut bs syn n = (0, bs.take n.toNat, n.toNat) := if_neg (by omega)
      rw [hd]
      obtain ⟨m, rfl⟩ := Int.eq_ofNat_of_zero_le (show 0 ≤ n by omega)
      rw [Int.toNat_natCast]
      have hm : m ≤ bs.length := by omega
      go_enter Try.func29, Try.ntmps29
      go_wp2_with (first
        | (go_at_call 34; refine (usable_any p _ h0).mono ?_; rintro e w' ⟨rfl, hw⟩; have hw := hw.symm; subst hw)
        | (go_at_call 42; go_must (refine (dleave_any base p size bs syn m _ H.out hm hb).mono ?_); rintro e w2 ⟨rfl, hd2, hp2⟩))
      go_ret
      exact ⟨rfl, hd2, hp2⟩

/-- what a crash leaves -/
def crashL (bs : List Int) (syn : Nat) (keep : Int) (noise : List Int) : List Int := bs.take (syn + keep.toNat) ++ noise.take (bs.length - syn - keep.toNat)

theorem crashL_eq (bs : List Int) (syn : Nat) (keep : Int) (noise : List Int) (r k r2 j : Nat) (hr : syn + r = bs.length) (hk : k = min keep.toNat r) (hr2 : k + r2 = r) (hj : j = min noise.length r2) :
    crashL bs syn keep noise = (bs.take (syn + k) ++ (noise.take j ++ bs.drop (syn + k + j))).take (syn + k + j) := by
  have e1 : (bs.take (syn + k) ++ (noise.take j ++ bs.drop (syn + k + j))).take (syn + k + j) = bs.take (syn + k) ++ noise.take j := by
    rw [← List.append_assoc]
    exact List.take_left' (by simp; omega)
  rw [e1]
  unfold crashL
  rw [show bs.length - syn = r by omega]
  congr 1
  · by_cases h : keep.toNat ≤ r
    · rw [show k = keep.toNat by omega]
    · rw [List.take_of_length_le (by omega), List.take_of_length_le (by omega)]
  · by_cases h : keep.toNat ≤ r
    · rw [show r - keep.toNat = r2 by omega]
      by_cases h2 : noise.length ≤ r2
      · rw [List.take_of_length_le h2, List.take_of_length_le (by omega)]
      · rw [hj]; congr 1; omega
    · rw [show r - keep.toNat = 0 by omega, show j = 0 by omega]

theorem crash_len (bs xs : List Int) (s1 j n : Nat) (hn : bs.length = n) (hj : j ≤ xs.length) (h : s1 + j ≤ n) : (bs.take s1 ++ (xs.take j ++ bs.drop (s1 + j))).length = n := by
  simp
  omega

theorem crash_nums (syn n c K len : Nat) (hsyn : syn ≤ n) (hcap : n ≤ c) : ∃ r cr k r2 cr2 j, syn + r = n ∧ syn + cr = c ∧ k = min K r ∧ k + r2 = r ∧ k + cr2 = cr ∧ j = min len r2 ∧ syn + k + r2 = n ∧ syn + k + j ≤ n ∧ r ≤ cr ∧ j ≤ len :=
  ⟨n - syn, c - syn, _, n - syn - min K (n - syn), c - syn - min K (n - syn), _, by omega, by omega, rfl, by omega, by omega, rfl, by omega, by omega, by omega, by omega⟩

theorem wrap_nat (x : Int) (m : Nat) (e : x = (m : Int)) (h : m ≤ 3000000000) : wrap64 x = (m : Int) := by
  subst e
  unfold wrap64
  omega

theorem crashL_length (bs : List Int) (syn : Nat) (keep : Int) (noise : List Int) (hs : syn ≤ bs.length) : syn ≤ (crashL bs syn keep noise).length ∧ (crashL bs syn keep noise).length ≤ bs.length := by
  unfold crashL
  simp
  omega

/-- a disk whose bytes were changed in their place -/
theorem isD_copied {w w1 : World} {base p size : Nat} {a : Option Addr} {n c : Nat} {bs' : List Int} {syn : Nat} (h0 : w.cell? ⟨p, 0, none⟩ = some (.bool true)) (h1 : w.cell? ⟨p, 1, none⟩ = some (.int .i64 (size : Int))) (hc : w.cell? ⟨p, 2, none⟩ = some (.slice a n c)) (h3 : w.cell? ⟨p, 3, none⟩ = some (.int .i64 (syn : Int))) (hf : ∀ i, w.frozen? ⟨p, i, none⟩ = false) (hp : base ≤ p) (hn : some p ≠ (Value.slice a n c).ownBlock)
    (k1 : OwnB w1 base (.slice a n c) bs') (hg : w.grownBy w1 (Value.slice a n c).ownBlock) : IsD w1 base p size bs' syn ∧ SPost 2 w p w1 := by
  have hlt : p < w.heap.size := World.block_lt_of_cell? _ ⟨p, 0, none⟩ h0
  have e := hg.block p hlt hn
  refine ⟨⟨a, n, c, hg.cell h0 hn, hg.cell h1 hn, hg.cell hc hn, hg.cell h3 hn, fun i => (World.frozen?_of_block (a := ⟨p, i, none⟩) e).trans (hf i), k1, hp, hn⟩, ⟨hg.os, hg.tape, hg.output, hg.size, fun k hk hM => hg.block k hk (fun e => hM (.inr ⟨_, hc, e.symm⟩))⟩, fun k hk => .inl (hk.same e)⟩

theorem addr_add2 (g i j : Nat) : ((⟨g, 0, none⟩ : Addr).add i).add j = (⟨g, 0, none⟩ : Addr).add (i + j) := by
  have h1 : (⟨g, 0, none⟩ : Addr).add i = ⟨g, i, none⟩ := by unfold Addr.add; split <;> simp_all
  have h2 : (⟨g, i, none⟩ : Addr).add j = ⟨g, i + j, none⟩ := by unfold Addr.add; split <;> simp_all
  have h3 : (⟨g, 0, none⟩ : Addr).add (i + j) = ⟨g, i + j, none⟩ := by unfold Addr.add; split <;> simp_all
  rw [h1, h2, h3]

set_option maxHeartbeats 1000000 in
theorem dcrash_pos (base p size : Nat) (bs : List Int) (syn : Nat) (K : Nat) (a : Option Addr) (len cap : Nat) (xs : List Int) (w : World) (h : IsD w base p size bs syn) (hs : SrcB w a len xs) (hl : len ≤ 1000000000) (hb : bs.length ≤ 1000000000) (hsyn : syn ≤ bs.length) :
    Calls Try.prog 27 #[.pointer (some ⟨p, 0, none⟩), .int .i64 (K : Int), .slice a len cap] w fun e w' => e = .returned (.tuple #[]) ∧ IsD w' base p size (crashL bs syn (K : Int) xs) (crashL bs syn (K : Int) xs).length ∧ SPost 2 w p w' := by
  have H := hide h
  have HS := hide hs
  have hxl := hs.1
  obtain ⟨fa, n, c, h0, h1, h2, h3, hf, ho, hp, hne⟩ := h
  have hn := ho.len
  have HO := hide ho
  have HN := hide hne
  have HF := hide hf
  obtain ⟨r, cr, k, r2, cr2, j, hr, hcr, hk, hr2, hcr2, hj, hOff, hM, hrc, hjl⟩ := crash_nums syn n c K len (by rw [← hn]; exact hsyn) ho.cap.1
  have HJ := hide hj
  have HE := hide (crashL_eq bs syn (K : Int) xs r k r2 j (hr.trans hn.symm) (by rw [hk, Int.toNat_natCast]) hr2 (by rw [hj, hxl]))
  have HEl := hide (crash_len bs xs (syn + k) j n hn (by rw [hxl]; exact hjl) hM)
  have HLe : Hid ((crashL bs syn (K : Int) xs).length = syn + k + j) := by show _ = _; rw [HE.out, List.length_take, HEl.out]; exact Nat.min_eq_left hM
  obtain ⟨b1, hb1, hb1'⟩ := run_cutFrom fa n c ho.cap.1 syn r cr hr hcr .i64
  obtain ⟨b2, hb2, hb2'⟩ := run_cutFrom b1 r cr hrc k r2 cr2 hr2 hcr2 .i64
  have HB2 : Hid (r2 ≠ 0 → b2 = fa.map (fun x => x.add (syn + k))) := by
    intro hx
    rw [hb2' hx, hb1' (fun h => hx (by rw [h] at hr2; exact Nat.eq_zero_of_add_eq_zero_left hr2))]
    rcases HO.out.form with ⟨e, _⟩ | ⟨g, cc, e, _⟩
    · cases e; rfl
    · cases e
      simp only [Option.map_some, addr_add2]
  have hn9 : n ≤ 1000000000 := by rw [← hn]; exact hb
  have hw1 := wrap_nat ((syn : Int) + k) (syn + k) rfl (Nat.le_trans (Nat.le_add_right _ j) (Nat.le_trans hM (Nat.le_trans hn9 (by decide))))
  have hw2 := wrap_nat (((syn + k : Nat) : Int) + j) (syn + k + j) rfl (Nat.le_trans hM (Nat.le_trans hn9 (by decide)))
  have HOff := hide hOff
  have HM := hide hM
  obtain ⟨s1, hs1⟩ : ∃ s1, s1 = syn + k := ⟨_, rfl⟩
  obtain ⟨s2, hs2⟩ : ∃ s2, s2 = s1 + j := ⟨_, rfl⟩
  rw [← hs1] at hw1 hw2 HOff HM HLe HEl HE HB2
  rw [← hs2] at hw2 HM HLe HEl HE
  have HS2 := hide hs2
  have hkr : (r : Int) < (K : Int) → k = r := fun h => hk.trans (Nat.min_eq_right (Nat.le_of_lt (Int.ofNat_lt.1 h)))
  have hkK : ¬ (r : Int) < (K : Int) → k = K := fun h => hk.trans (Nat.min_eq_left (Nat.le_of_not_lt (fun x => h (Int.ofNat_lt.2 x))))
  obtain ⟨w3, hrun, hown3, hg3⟩ := run_copyB w.drew 3 base fa n c bs HO.out b2 s1 r2 cr2 HB2.out HOff.out a len cap xs HS.out j HJ.out
  rw [← HS2.out] at hown3
  have HD3 := hide (isD_copied (w := w.drew) h0 h1 h2 h3 HF.out hp HN.out hown3 hg3)
  have hc3 := hg3.cell (w := w.drew) h3 HN.out
  have HKR := hide hkr
  have HKK := hide hkK
  have HNL := hide hn
  clear hown3 hg3 hs ho hne hf hb1' hb2' hs1 hs2 hb hsyn hj hxl hr hcr hr2 hcr2 hkr hkK hk hOff hM hrc hjl hn
  by_cases hlt : (r : Int) < (K : Int)
  · have hkr := HKR.out hlt
    clear HKR HKK
    subst hkr
    go_enter Try.func27, Try.ntmps27
    go_wp2_with (first
      | (go_at_call 34; refine (usable_any p _ h0).mono ?_; rintro e w' ⟨rfl, hw⟩; have hw := hw.symm; subst hw))
    go_region
    all_goals
      go_wp2_with (first
        | (go_at_call 42; go_must (refine (dleave_any base p size _ syn s2 _ HD3.out.1 (by rw [HEl.out]; exact HM.out) (by rw [HEl.out]; exact hn9)).mono ?_); rintro e w4 ⟨rfl, hd4, hp4⟩))
      go_end0
      rw [HLe.out, HE.out]
      exact ⟨rfl, hd4, (HD3.out.2.trans hp4).drew⟩
  · have hkr := HKK.out hlt
    clear HKR HKK
    subst hkr
    go_enter Try.func27, Try.ntmps27
    go_wp2_with (first
      | (go_at_call 34; refine (usable_any p _ h0).mono ?_; rintro e w' ⟨rfl, hw⟩; have hw := hw.symm; subst hw))
    go_region
    all_goals
      go_wp2_with (first
        | (go_at_call 42; go_must (refine (dleave_any base p size _ syn s2 _ HD3.out.1 (by rw [HEl.out]; exact HM.out) (by rw [HEl.out]; exact hn9)).mono ?_); rintro e w4 ⟨rfl, hd4, hp4⟩))
      go_end0
      rw [HLe.out, HE.out]
      exact ⟨rfl, hd4, (HD3.out.2.trans hp4).drew⟩

set_option maxHeartbeats 1000000 in
theorem dcrash_neg (base p size : Nat) (bs : List Int) (syn : Nat) (keep : Int) (a : Option Addr) (len cap : Nat) (xs : List Int) (w : World) (h : IsD w base p size bs syn) (hs : SrcB w a len xs) (hl : len ≤ 1000000000) (hb : bs.length ≤ 1000000000) (hsyn : syn ≤ bs.length) (hneg : keep < 0) :
    Calls Try.prog 27 #[.pointer (some ⟨p, 0, none⟩), .int .i64 keep, .slice a len cap] w fun e w' => e = .returned (.tuple #[]) ∧ IsD w' base p size (crashL bs syn keep xs) (crashL bs syn keep xs).length ∧ SPost 2 w p w' := by
  have H := hide h
  have HS := hide hs
  have hxl := hs.1
  obtain ⟨fa, n, c, h0, h1, h2, h3, hf, ho, hp, hne⟩ := h
  have hn := ho.len
  have HO := hide ho
  have HN := hide hne
  have HF := hide hf
  obtain ⟨r, cr, k, r2, cr2, j, hr, hcr, hk, hr2, hcr2, hj, hOff, hM, hrc, hjl⟩ := crash_nums syn n c 0 len (by rw [← hn]; exact hsyn) ho.cap.1
  rw [Nat.zero_min] at hk
  subst hk
  rw [Nat.zero_add] at hr2 hcr2
  subst hr2 hcr2
  rw [Nat.add_zero] at hOff hM
  have HJ := hide hj
  have HE := hide (crashL_eq bs syn keep xs r2 0 r2 j (hr.trans hn.symm) (by rw [Int.toNat_of_nonpos (Int.le_of_lt hneg), Nat.zero_min]) (Nat.zero_add _) (by rw [hj, hxl]))
  rw [Nat.add_zero] at HE
  have HEl := hide (crash_len bs xs syn j n hn (by rw [hxl]; exact hjl) hM)
  have HLe : Hid ((crashL bs syn keep xs).length = syn + j) := by show _ = _; rw [HE.out, List.length_take, HEl.out]; exact Nat.min_eq_left hM
  obtain ⟨b1, hb1, hb1'⟩ := run_cutFrom fa n c ho.cap.1 syn r2 cr2 hr hcr .i64
  have hn9 : n ≤ 1000000000 := by rw [← hn]; exact hb
  have hw1 := wrap_nat (syn : Int) syn rfl (Nat.le_trans (Nat.le_add_right _ j) (Nat.le_trans hM (Nat.le_trans hn9 (by decide))))
  have hw2 := wrap_nat ((syn : Int) + j) (syn + j) rfl (Nat.le_trans hM (Nat.le_trans hn9 (by decide)))
  have HM := hide hM
  obtain ⟨s2, hs2⟩ : ∃ s2, s2 = syn + j := ⟨_, rfl⟩
  rw [← hs2] at hw2 HM HLe HEl HE
  obtain ⟨w3, hrun, hown3, hg3⟩ := run_copyB w.drew 3 base fa n c bs HO.out b1 syn r2 cr2 hb1' hOff a len cap xs HS.out j HJ.out
  rw [← hs2] at hown3
  have HD3 := hide (isD_copied (w := w.drew) h0 h1 h2 h3 HF.out hp HN.out hown3 hg3)
  have hc3 := hg3.cell (w := w.drew) h3 HN.out
  clear hown3 hg3 hs ho hne hf hb1' hs2 hb hsyn hj hxl hr hcr hOff hM hrc hjl hn
  go_enter Try.func27, Try.ntmps27
  go_wp2_with (first
    | (go_at_call 34; refine (usable_any p _ h0).mono ?_; rintro e w' ⟨rfl, hw⟩; have hw := hw.symm; subst hw))
  go_region
  all_goals
    go_wp2_with (first
      | (go_at_call 42; go_must (refine (dleave_any base p size _ syn s2 _ HD3.out.1 (by rw [HEl.out]; exact HM.out) (by rw [HEl.out]; exact hn9)).mono ?_); rintro e w4 ⟨rfl, hd4, hp4⟩))
    go_end0
    rw [HLe.out, HE.out]
    exact ⟨rfl, hd4, (HD3.out.2.trans hp4).drew⟩

theorem dcrash_any (base p size : Nat) (bs : List Int) (syn : Nat) (keep : Int) (a : Option Addr) (len cap : Nat) (xs : List Int) (w : World) (h : IsD w base p size bs syn) (hs : SrcB w a len xs) (hl : len ≤ 1000000000) (hb : bs.length ≤ 1000000000) (hsyn : syn ≤ bs.length) :
    Calls Try.prog 27 #[.pointer (some ⟨p, 0, none⟩), .int .i64 keep, .slice a len cap] w fun e w' => e = .returned (.tuple #[]) ∧ IsD w' base p size (crashL bs syn keep xs) (crashL bs syn keep xs).length ∧ SPost 2 w p w' := by
  by_cases hneg : keep < 0
  · exact dcrash_neg base p size bs syn keep a len cap xs w h hs hl hb hsyn hneg
  · obtain ⟨K, rfl⟩ := Int.eq_ofNat_of_zero_le (show 0 ≤ keep by omega)
    exact dcrash_pos base p size bs syn K a len cap xs w h hs hl hb hsyn

theorem dcrash_nil (keep : Int) (a : Option Addr) (len cap : Nat) (w : World) :
    Calls Try.prog 27 #[.pointer none, .int .i64 keep, .slice a len cap] w fun e w' => e = .returned (.tuple #[]) ∧ w' = w := by
  go_enter Try.func27, Try.ntmps27
  go_wp2_with (first
    | (go_at_call 34; refine (usable_nil _).mono ?_; rintro e w' ⟨rfl, hw⟩; have hw := hw.symm; subst hw))
  refine bodyPost_ret (results_none rfl _ _ _) rfl ?_
  exact ⟨rfl, rfl⟩

theorem dapp_nil (a : Option Addr) (len cap : Nat) (w : World) :
    Calls Try.prog 11 #[.pointer none, .slice a len cap] w fun e w' => e = .returned (.int .i64 (if len = 0 then 0 else 60)) ∧ w' = w := by
  by_cases h0 : len = 0
  · rw [if_pos h0]
    subst h0
    go_enter Try.func11, Try.ntmps11
    go_wp2_with (first
      | (go_at_call 28; refine (room_nil _).mono ?_; rintro e w' ⟨rfl, hw⟩; have hw := hw.symm; subst hw))
    go_ret
    exact ⟨rfl, rfl⟩
  · rw [if_neg h0]
    have h1 : (0 : Int) < (len : Int) := by omega
    have h2 : 0 < len := by omega
    go_enter Try.func11, Try.ntmps11
    go_wp2_with (first
      | (go_at_call 28; refine (room_nil _).mono ?_; rintro e w' ⟨rfl, hw⟩; have hw := hw.symm; subst hw))
    go_ret
    exact ⟨rfl, rfl⟩

theorem dsync_nil (w : World) : Calls Try.prog 37 #[.pointer none] w fun e w' => e = .returned (.int .i64 60) ∧ w' = w := by
  go_enter Try.func37, Try.ntmps37
  go_wp2_with (first
    | (go_at_call 34; refine (usable_nil _).mono ?_; rintro e w' ⟨rfl, hw⟩; have hw := hw.symm; subst hw))
  go_ret
  exact ⟨rfl, rfl⟩

theorem dswap_nil (a : Option Addr) (len cap : Nat) (w : World) : Calls Try.prog 39 #[.pointer none, .slice a len cap] w fun e w' => e = .returned (.int .i64 60) ∧ w' = w := by
  go_enter Try.func39, Try.ntmps39
  go_wp2_with (first
    | (go_at_call 34; refine (usable_nil _).mono ?_; rintro e w' ⟨rfl, hw⟩; have hw := hw.symm; subst hw))
  go_ret
  exact ⟨rfl, rfl⟩

theorem cutOfNone_zero (w : World) : Calls Try.prog 43 #[.int .i64 0] w fun e w' => e = .returned (.int .i64 60) ∧ w' = w := by
  go_enter Try.func43, Try.ntmps43
  go_wp2
  go_ret
  exact ⟨rfl, rfl⟩

theorem dcut_nil (w : World) : Calls Try.prog 29 #[.pointer none, .int .i64 0] w fun e w' => e = .returned (.int .i64 60) ∧ w' = w := by
  go_enter Try.func29, Try.ntmps29
  go_wp2_with (first
    | (go_at_call 34; refine (usable_nil _).mono ?_; rintro e w' ⟨rfl, hw⟩; have hw := hw.symm; subst hw)
    | (go_at_call 43; refine (cutOfNone_zero _).mono ?_; rintro e w' ⟨rfl, hw⟩; have hw := hw.symm; subst hw))
  go_ret
  exact ⟨rfl, rfl⟩

theorem dbytes_nil (w : World) : Calls Try.prog 19 #[.pointer none] w fun e w' => e = .returned (.slice none 0 0) ∧ w' = w := by
  go_enter Try.func19, Try.ntmps19
  go_wp2_with (first
    | (go_at_call 34; refine (usable_nil _).mono ?_; rintro e w' ⟨rfl, hw⟩; have hw := hw.symm; subst hw))
  go_ret
  exact ⟨rfl, rfl⟩

theorem dsynced_nil (w : World) : Calls Try.prog 25 #[.pointer none] w fun e w' => e = .returned (.int .i64 0) ∧ w' = w := by
  go_enter Try.func25, Try.ntmps25
  go_wp2_with (first
    | (go_at_call 34; refine (usable_nil _).mono ?_; rintro e w' ⟨rfl, hw⟩; have hw := hw.symm; subst hw))
  go_ret
  exact ⟨rfl, rfl⟩

end Go.Proofs.Ytajpamkdcpbabaa
