/- The reference's record: a snapshot. The reference's record, of whatever kind; all records. -/
import Derived.Test.YtjeijeaogdednaaRpE
namespace Go.Proofs.Ytjeijeaogdednaa
open Go.RowKit NumMath
set_option linter.unusedVariables false
set_option maxRecDepth 100000

theorem xinst_one {X : Nat → Prop} {w W : World} {base p : Nat} {L : LogS} {s : Snp} {ma : Option Addr} {mn mc : Nat} {da : Option Addr} {dn dc : Nat} (hL : IsL X w base p L) (hX : ∀ k, X k → k < w.heap.size ∧ base ≤ k) (hlt : w.heap.size + 2 < W.heap.size) (hW : Below w.heap.size w W) (hG : L.Good) (hi : 0 ≤ s.i) (hm : NumX (fun k => X k ∨ (w.heap.size ≤ k ∧ k ≤ w.heap.size + 2)) W ma mn mc s.m) (hI : IsBytes W da dn dc s.d) (hy : dn ≠ 0 → ∀ y, da = some y → y.block < base) :
    Calls Try.prog 90 #[.pointer (some ⟨p, 0, none⟩), .agg #[.int .u64 s.i, .int .u64 s.t, .slice ma mn mc, .slice da dn dc]] W fun e w' => e = .returned (.tuple #[]) ∧ ∃ y, (0 ≤ y ∧ y ≤ 18446744073709551615) ∧ IsL (fun k => (X k ∨ (w.heap.size ≤ k ∧ k ≤ w.heap.size + 2)) ∨ SB 4 w' p k) w' base p ⟨capS s, restL L s, y, true⟩ ∧ SPost 4 W p w' := by
  have hp := hL.at
  have hbp := (hL.lt (k := p) SB.at).2.1
  have hY : ∀ k, (X k ∨ (w.heap.size ≤ k ∧ k ≤ w.heap.size + 2)) → k < W.heap.size ∧ base ≤ k := by
    rintro k (hk | hk)
    · have := hX k hk; omega
    · omega
  have hL2 : IsL (fun k => X k ∨ (w.heap.size ≤ k ∧ k ≤ w.heap.size + 2)) W base p L := (hL.more (Y := fun k => X k ∨ (w.heap.size ≤ k ∧ k ≤ w.heap.size + 2)) (fun k hk => hk.imp id And.left) (fun k hk => .inl (hL.lt hk).2.2)).keep hW
  have hd : dn = 0 ∨ ∀ y, da = some y → ¬ (X y.block ∨ (w.heap.size ≤ y.block ∧ y.block ≤ w.heap.size + 2)) := by
    by_cases h0 : dn = 0
    · exact .inl h0
    · exact .inr (fun y he hx => by have := hy h0 y he; have := hY _ hx; omega)
  exact xinst_any (fun k => X k ∨ (w.heap.size ≤ k ∧ k ≤ w.heap.size + 2)) base p L s ma mn mc da dn dc W hL2 hG hi hm ⟨hI, hd⟩ (fun k hk => (hY k hk).1) (by omega)

/-- members that are new keep off what was there ahead of them -/
theorem numX_new {X : Nat → Prop} {w w4 w5 w6 : World} {q p2 g : Nat} {b : Option Addr} {n c : Nat} {l : List Int} {v2 v3 : Value} (h : OwnU w5 w4.heap.size (.slice b n c) l) (hr : ∀ x ∈ l, 0 ≤ x ∧ x ≤ 18446744073709551615) (hX : ∀ k, X k → k < w.heap.size) (h4 : w.heap.size + 2 < w4.heap.size) (hg : g < w4.heap.size) (hg2 : w.heap.size ≤ g) (hk : Keeps (fun k => k = w.heap.size + 2) (w5.setCell ⟨g, 2, none⟩ v2) w6) :
    NumX (fun k => X k ∨ (w.heap.size ≤ k ∧ k ≤ w.heap.size + 2)) (w6.setCell ⟨g, 3, none⟩ v3) b n c l := by
  have h0 : NumX (fun k => k < w4.heap.size) w5 b n c l := numX_own h hr (fun k hk => hk)
  have h1 := h0.lies (keeps_cell (w := w5) (g := g) (i := 2) v2) (fun k e => by omega)
  have h2 := h1.lies hk (fun k e => by omega)
  have h3 := h2.lies (keeps_cell (w := w6) (g := g) (i := 3) v3) (fun k e => by omega)
  refine h3.more (fun k hk => .inl ?_)
  rcases hk with hk | hk
  · have := hX k hk; omega
  · omega

set_option maxHeartbeats 800000 in
theorem one_snap (X : Nat → Prop) (w : World) (base p q : Nat) (h1 h2 : Int) (L : LogS) (a : Option Addr) (len cap : Nat) (bs : List Int) (hL : IsL X w base p L) (hX : ∀ k, X k → k < w.heap.size ∧ base ≤ k) (hG : L.Good) (hI : IsBytes w a len cap bs) (hq : len ≠ 0 → ∀ x, a = some x → x.block = q) (hqb : q < base) (hl : bs.length ≤ 1000) (hk : (rdN 3 (some bs)).1 = 3) :
    Calls Try.prog 72 #[.agg #[.int .u64 h1, .int .u64 h2], .pointer (some ⟨p, 0, none⟩), .slice a len cap] w fun e w' => OnePost X w base p (match snapOf (rdN 3 (some bs)).2 with | some s => (0, (h1, h2), ⟨capS s, restL L s, 0, false⟩) | none => (30, (h1, h2), L)) e w' := by
  have hp := hL.at
  have hbp := (hL.lt (k := p) SB.at).2.1
  have hq2 : q ≤ w.heap.size := by omega
  have HS0 := hide (xs_new (h1, h2) hI hq hq2 48 48 96)
  have hby0 : Byt (some bs) := by intro xs hx; cases hx; exact hI.2.2.2.1
  have hby := byt_rdN 3 (some bs) hby0 (by decide)
  have hlf := left_rdN 3 (some bs) hby0
  have hlb : rdLeft (some bs) = bs.length := rfl
  obtain ⟨hle2, hle3, hlen3⟩ := snap_left _ hby 1000 (by omega) _ rfl
  have hb2 := byt_rdN m64 _ (byt_rdN m64 _ hby (by decide)) (by decide)
  have hb3 := (byt_rdT m63 _ hb2).2
  have HBy := hide (byt_rdT m63 _ hb2).1
  have HBy4 := hide (byt_rdT m63 _ hb3).1
  have hbd2 := rdT_bound _ hb2 (by omega)
  have hbd3 := rdT_bound _ hb3 (by omega)
  have hi0 := (rdN_range m64 _ hby (by decide)).1
  have HN := hide (fun (W : World) (hW : IsR false W (w.heap.size + 2) q (some bs)) => xN_any (w.heap.size + 2) q (some bs) 3 W hW (by decide) (by decide))
  rw [hk] at HN
  have HE1 := hide (@snapOf_mem (rdN 3 (some bs)).2)
  have HE2 := hide (fun l => snapOf_no (st := (rdN 3 (some bs)).2) (l := l))
  have HE3 := hide (fun l => snapOf_yes (st := (rdN 3 (some bs)).2) (l := l))
  generalize snapOf (rdN 3 (some bs)).2 = so at *
  generalize (rdN 3 (some bs)).2 = st0 at *
  have HN1 := hide (fun (W : World) (hW : IsR false W (w.heap.size + 2) q st0) => xN_any (w.heap.size + 2) q st0 m64 W hW (by decide) (by decide))
  generalize rdN m64 st0 = r1 at *
  obtain ⟨si, st1⟩ := r1
  dsimp only at *
  have HN2 := hide (fun (W : World) (hW : IsR false W (w.heap.size + 2) q st1) => xN_any (w.heap.size + 2) q st1 m64 W hW (by decide) (by decide))
  generalize rdN m64 st1 = r2 at *
  obtain ⟨sT, st2⟩ := r2
  dsimp only at *
  have HN3 := hide (fun (W : World) (hW : IsR false W (w.heap.size + 2) q st2) => xT_any (w.heap.size + 2) q st2 1048576 W hW (by decide) (by decide) (by omega))
  rw [hbd2] at HN3
  generalize rdT m63 st2 = r3 at *
  obtain ⟨dm, st3⟩ := r3
  dsimp only at *
  have HN4 := hide (fun (W : World) (hW : IsR false W (w.heap.size + 2) q st3) => xT_any (w.heap.size + 2) q st3 1048576 W hW (by decide) (by decide) (by omega))
  rw [hbd3] at HN4
  generalize rdT m63 st3 = r4 at *
  obtain ⟨sd, st4⟩ := r4
  dsimp only at *
  have HEn := hide (fun (W : World) (hW : IsR false W (w.heap.size + 2) q st4) => xend_any (w.heap.size + 2) q st4 W hW)
  have H30 := hide (@rdEnd_30 st4)
  generalize rdEnd st4 = er at *
  have HL := hide hL
  have HX := hide hX
  have HIn := hide (fun (l : List Int) (W : World) (ma : Option Addr) (mn mc : Nat) (da : Option Addr) (dn dc : Nat) hlt hW hm hI hy => xinst_one (X := X) (w := w) (W := W) (base := base) (p := p) (L := L) (s := ⟨si, sT, l, sd⟩) (ma := ma) (mn := mn) (mc := mc) (da := da) (dn := dn) (dc := dc) hL hX hlt hW hG hi0 hm hI hy)
  clear hL hG hI hq hk hbd2 hbd3 hb2 hb3 hby hby0 hlf hlb hle2 hle3 hl hi0
  obtain ⟨z, hz⟩ : ∃ z : Bool, (er == 0) = z := ⟨_, rfl⟩
  cases hM : memOf dm with
  | none =>
    have hso := HE1.out hM
    subst hso
    dsimp only
    clear HE1 HE2 HE3 HIn
    cases z
    · have her : er = 30 := H30.out (by simpa using hz)
      subst her
      go_enter Try.func72, Try.ntmps72
      go_wp2_with (first
        | (go_at_call 60; go_must (refine (HEn.out _ (by exact HSf.out.rd)).mono ?_); rintro e w' ⟨rfl, hw⟩; have hw := hw.symm; subst hw; obtain ⟨a0, a1, -⟩ := HSf.out.a; obtain ⟨c0, c1, cf⟩ := HSf.out.b; have c0f := cf 0; have c1f := cf 1; clear cf)
        | (go_at_call 89; have hchk := HSe.out; clear hchk; refine (HN4.out _ (by exact HSe.out.rd)).mono ?_; rintro e w6 ⟨a6, n6, c6, rfl, hs6, hy6, hR6, hc6, hm6⟩; have hbx := HBe.out.same (hR6.2.block _ (HGe.out) (by have := HS2.out.lt; omega)); have k3 := hbx.2.2.2.1; have k3f := hbx.2.2.2.2 3; have HBf := hide (hbx.set3 (.slice a6 n6 c6)); have HSf := hide ((HSe.out.call hR6).set (g := w2.heap.size) HS2.out.lt 3 (.slice a6 n6 c6)); have HY6 := hide (fun (h : n6 ≠ 0) (y : Addr) (e : a6 = some y) => (hy6 h y e).1); have HK6 := hide hR6.2; have HI6 := hide (isB_setNew (g := w2.heap.size) (i := 3) (v := .slice a6 n6 c6) (isB_text hs6 hc6 hm6 HBy4.out) (fun h y e => (hy6 h y e).1) (by have := HS2.out.lt; omega)); clear hbx hs6 hy6 hR6 hc6 hm6)
        | (go_at_call 20; go_must (refine (xofMem_none a4 n4 c4 dm _ HI4.out (by have := HI4.out.1; omega) hM).mono ?_); rintro e w5 ⟨rfl, hb5⟩; have hbx := (HBd4.out.same (hb5.block w2.heap.size HGd4.out)); have k2 := hbx.2.2.1; have k2f := hbx.2.2.2.2 2; have HBe := hide (hbx.set2 (.slice none 0 0)); have HSe := hide ((HSd4.out.below hb5).set (g := w2.heap.size) HS2.out.lt 2 (.slice none 0 0)); have HGe := hide (World.block_lt_of_cell? _ ⟨w2.heap.size, 0, none⟩ HBe.out.1); clear hbx hb5)
        | (go_at_call 89; go_must (refine (HN3.out _ (by exact HSd.out.rd)).mono ?_); rintro e w4 ⟨a4, n4, c4, rfl, hs4, hy4, hR4, hc4, hm4⟩; have HBd4 := hide (HBd.out.same (hR4.2.block _ (HGd.out) (by have := HS2.out.lt; omega))); have HSd4 := hide (HSd.out.call hR4); have HGd4 := hide (World.block_lt_of_cell? _ ⟨w2.heap.size, 0, none⟩ HBd4.out.1); have HI4 := hide (isB_text hs4 hc4 hm4 HBy.out); clear hs4 hy4 hR4 hc4 hm4)
        | (go_at_call 59; have hchk := HSb.out; clear hchk; refine (HN2.out _ (by exact HSb.out.rd)).mono ?_; rintro e w3 ⟨rfl, hR3⟩; have hbx := HBx.out.same (hR3.2.block _ (by simp) (by have := HS2.out.lt; omega)); have k1 := hbx.2.1; have k1f := hbx.2.2.2.2 1; have HBd := hide (hbx.set1 (.int .u64 sT)); have HSd := hide ((HSb.out.call hR3).set (g := w2.heap.size) HS2.out.lt 1 (.int .u64 sT)); have HGd := hide (World.block_lt_of_cell? _ ⟨w2.heap.size, 0, none⟩ HBd.out.1); clear hbx hR3)
        | (go_at_call 59; have hchk := HS1.out; clear hchk; refine (HN1.out _ (by exact HS1.out.rd)).mono ?_; rintro e w2 ⟨rfl, hR2⟩; have HS2 := hide (HS1.out.call hR2); have HSb := hide (HS2.out.below (new_below w2 (.cells #[.int .u64 si, .int .u64 0, .slice none 0 0, .slice none 0 0] 26))); have HBx := hide (box4_new w2 (.int .u64 si) (.int .u64 0) (.slice none 0 0) (.slice none 0 0) 26 _ rfl); clear hR2)
        | (go_at_call 59; go_must (refine (HN.out _ (by exact HS0.out.rd)).mono ?_); rintro e w1 ⟨rfl, hR1⟩; have HS1 := hide (HS0.out.call hR1); clear hR1))
      have HF := hide (HSf.out.fin (.int .u64 h1) (.int .u64 h2))
      obtain ⟨n0, n1, -⟩ := HF.out.1
      refine bodyPost_ret (v := .tuple #[.agg #[.int .u64 h1, .int .u64 h2], .int .i64 30]) (by simp [results, Try.results72, go_sem, n0, n1]) rfl ?_
      exact one_bad (h := (h1, h2)) hp HF.out.2 rfl
    · have her : er = 0 := by simpa using hz
      subst her
      go_enter Try.func72, Try.ntmps72
      go_wp2_with (first
        | (go_at_call 60; go_must (refine (HEn.out _ (by exact HSf.out.rd)).mono ?_); rintro e w' ⟨rfl, hw⟩; have hw := hw.symm; subst hw; obtain ⟨a0, a1, -⟩ := HSf.out.a; obtain ⟨c0, c1, cf⟩ := HSf.out.b; have c0f := cf 0; have c1f := cf 1; clear cf)
        | (go_at_call 89; have hchk := HSe.out; clear hchk; refine (HN4.out _ (by exact HSe.out.rd)).mono ?_; rintro e w6 ⟨a6, n6, c6, rfl, hs6, hy6, hR6, hc6, hm6⟩; have hbx := HBe.out.same (hR6.2.block _ (HGe.out) (by have := HS2.out.lt; omega)); have k3 := hbx.2.2.2.1; have k3f := hbx.2.2.2.2 3; have HBf := hide (hbx.set3 (.slice a6 n6 c6)); have HSf := hide ((HSe.out.call hR6).set (g := w2.heap.size) HS2.out.lt 3 (.slice a6 n6 c6)); have HY6 := hide (fun (h : n6 ≠ 0) (y : Addr) (e : a6 = some y) => (hy6 h y e).1); have HK6 := hide hR6.2; have HI6 := hide (isB_setNew (g := w2.heap.size) (i := 3) (v := .slice a6 n6 c6) (isB_text hs6 hc6 hm6 HBy4.out) (fun h y e => (hy6 h y e).1) (by have := HS2.out.lt; omega)); clear hbx hs6 hy6 hR6 hc6 hm6)
        | (go_at_call 20; go_must (refine (xofMem_none a4 n4 c4 dm _ HI4.out (by have := HI4.out.1; omega) hM).mono ?_); rintro e w5 ⟨rfl, hb5⟩; have hbx := (HBd4.out.same (hb5.block w2.heap.size HGd4.out)); have k2 := hbx.2.2.1; have k2f := hbx.2.2.2.2 2; have HBe := hide (hbx.set2 (.slice none 0 0)); have HSe := hide ((HSd4.out.below hb5).set (g := w2.heap.size) HS2.out.lt 2 (.slice none 0 0)); have HGe := hide (World.block_lt_of_cell? _ ⟨w2.heap.size, 0, none⟩ HBe.out.1); clear hbx hb5)
        | (go_at_call 89; go_must (refine (HN3.out _ (by exact HSd.out.rd)).mono ?_); rintro e w4 ⟨a4, n4, c4, rfl, hs4, hy4, hR4, hc4, hm4⟩; have HBd4 := hide (HBd.out.same (hR4.2.block _ (HGd.out) (by have := HS2.out.lt; omega))); have HSd4 := hide (HSd.out.call hR4); have HGd4 := hide (World.block_lt_of_cell? _ ⟨w2.heap.size, 0, none⟩ HBd4.out.1); have HI4 := hide (isB_text hs4 hc4 hm4 HBy.out); clear hs4 hy4 hR4 hc4 hm4)
        | (go_at_call 59; have hchk := HSb.out; clear hchk; refine (HN2.out _ (by exact HSb.out.rd)).mono ?_; rintro e w3 ⟨rfl, hR3⟩; have hbx := HBx.out.same (hR3.2.block _ (by simp) (by have := HS2.out.lt; omega)); have k1 := hbx.2.1; have k1f := hbx.2.2.2.2 1; have HBd := hide (hbx.set1 (.int .u64 sT)); have HSd := hide ((HSb.out.call hR3).set (g := w2.heap.size) HS2.out.lt 1 (.int .u64 sT)); have HGd := hide (World.block_lt_of_cell? _ ⟨w2.heap.size, 0, none⟩ HBd.out.1); clear hbx hR3)
        | (go_at_call 59; have hchk := HS1.out; clear hchk; refine (HN1.out _ (by exact HS1.out.rd)).mono ?_; rintro e w2 ⟨rfl, hR2⟩; have HS2 := hide (HS1.out.call hR2); have HSb := hide (HS2.out.below (new_below w2 (.cells #[.int .u64 si, .int .u64 0, .slice none 0 0, .slice none 0 0] 26))); have HBx := hide (box4_new w2 (.int .u64 si) (.int .u64 0) (.slice none 0 0) (.slice none 0 0) 26 _ rfl); clear hR2)
        | (go_at_call 59; go_must (refine (HN.out _ (by exact HS0.out.rd)).mono ?_); rintro e w1 ⟨rfl, hR1⟩; have HS1 := hide (HS0.out.call hR1); clear hR1))
      have HF := hide (HSf.out.fin (.int .u64 h1) (.int .u64 h2))
      obtain ⟨n0, n1, -⟩ := HF.out.1
      refine bodyPost_ret (v := .tuple #[.agg #[.int .u64 h1, .int .u64 h2], .int .i64 30]) (by simp [results, Try.results72, go_sem, n0, n1]) rfl ?_
      exact one_bad (h := (h1, h2)) hp HF.out.2 rfl
  | some l =>
    cases z
    · have her : er = 30 := H30.out (by simpa using hz)
      have hso := HE2.out l hM (by rw [her]; decide)
      subst hso
      subst her
      dsimp only
      clear HE1 HE2 HE3 HIn
      go_enter Try.func72, Try.ntmps72
      go_wp2_with (first
        | (go_at_call 60; go_must (refine (HEn.out _ (by exact HSf.out.rd)).mono ?_); rintro e w' ⟨rfl, hw⟩; have hw := hw.symm; subst hw; obtain ⟨a0, a1, -⟩ := HSf.out.a; obtain ⟨c0, c1, cf⟩ := HSf.out.b; have c0f := cf 0; have c1f := cf 1; clear cf)
        | (go_at_call 89; have hchk := HSe.out; clear hchk; refine (HN4.out _ (by exact HSe.out.rd)).mono ?_; rintro e w6 ⟨a6, n6, c6, rfl, hs6, hy6, hR6, hc6, hm6⟩; have hbx := HBe.out.same (hR6.2.block _ (HGe.out) (by have := HS2.out.lt; omega)); have k3 := hbx.2.2.2.1; have k3f := hbx.2.2.2.2 3; have HBf := hide (hbx.set3 (.slice a6 n6 c6)); have HSf := hide ((HSe.out.call hR6).set (g := w2.heap.size) HS2.out.lt 3 (.slice a6 n6 c6)); have HY6 := hide (fun (h : n6 ≠ 0) (y : Addr) (e : a6 = some y) => (hy6 h y e).1); have HK6 := hide hR6.2; have HI6 := hide (isB_setNew (g := w2.heap.size) (i := 3) (v := .slice a6 n6 c6) (isB_text hs6 hc6 hm6 HBy4.out) (fun h y e => (hy6 h y e).1) (by have := HS2.out.lt; omega)); clear hbx hs6 hy6 hR6 hc6 hm6)
        | (go_at_call 20; go_must (refine (xofMem_some a4 n4 c4 dm l _ HI4.out (by have := HI4.out.1; omega) hM).mono ?_); rintro e w5 ⟨b5, m5, d5, rfl, ho5, hr5, h95, hb5⟩; have hbx := (HBd4.out.same (hb5.block w2.heap.size HGd4.out)); have k2 := hbx.2.2.1; have k2f := hbx.2.2.2.2 2; have HBe := hide (hbx.set2 (.slice b5 m5 d5)); have HSe := hide ((HSd4.out.below hb5).set (g := w2.heap.size) HS2.out.lt 2 (.slice b5 m5 d5)); have HGe := hide (World.block_lt_of_cell? _ ⟨w2.heap.size, 0, none⟩ HBe.out.1); have HO5 := hide ho5; have HR5 := hide hr5; clear hbx hb5 ho5 hr5 h95)
        | (go_at_call 89; go_must (refine (HN3.out _ (by exact HSd.out.rd)).mono ?_); rintro e w4 ⟨a4, n4, c4, rfl, hs4, hy4, hR4, hc4, hm4⟩; have HBd4 := hide (HBd.out.same (hR4.2.block _ (HGd.out) (by have := HS2.out.lt; omega))); have HSd4 := hide (HSd.out.call hR4); have HGd4 := hide (World.block_lt_of_cell? _ ⟨w2.heap.size, 0, none⟩ HBd4.out.1); have HI4 := hide (isB_text hs4 hc4 hm4 HBy.out); clear hs4 hy4 hR4 hc4 hm4)
        | (go_at_call 59; have hchk := HSb.out; clear hchk; refine (HN2.out _ (by exact HSb.out.rd)).mono ?_; rintro e w3 ⟨rfl, hR3⟩; have hbx := HBx.out.same (hR3.2.block _ (by simp) (by have := HS2.out.lt; omega)); have k1 := hbx.2.1; have k1f := hbx.2.2.2.2 1; have HBd := hide (hbx.set1 (.int .u64 sT)); have HSd := hide ((HSb.out.call hR3).set (g := w2.heap.size) HS2.out.lt 1 (.int .u64 sT)); have HGd := hide (World.block_lt_of_cell? _ ⟨w2.heap.size, 0, none⟩ HBd.out.1); clear hbx hR3)
        | (go_at_call 59; have hchk := HS1.out; clear hchk; refine (HN1.out _ (by exact HS1.out.rd)).mono ?_; rintro e w2 ⟨rfl, hR2⟩; have HS2 := hide (HS1.out.call hR2); have HSb := hide (HS2.out.below (new_below w2 (.cells #[.int .u64 si, .int .u64 0, .slice none 0 0, .slice none 0 0] 26))); have HBx := hide (box4_new w2 (.int .u64 si) (.int .u64 0) (.slice none 0 0) (.slice none 0 0) 26 _ rfl); clear hR2)
        | (go_at_call 59; go_must (refine (HN.out _ (by exact HS0.out.rd)).mono ?_); rintro e w1 ⟨rfl, hR1⟩; have HS1 := hide (HS0.out.call hR1); clear hR1))
      have HF := hide (HSf.out.fin (.int .u64 h1) (.int .u64 h2))
      obtain ⟨n0, n1, -⟩ := HF.out.1
      refine bodyPost_ret (v := .tuple #[.agg #[.int .u64 h1, .int .u64 h2], .int .i64 30]) (by simp [results, Try.results72, go_sem, n0, n1]) rfl ?_
      exact one_bad (h := (h1, h2)) hp HF.out.2 rfl
    · have her : er = 0 := by simpa using hz
      have hso := HE3.out l hM her
      subst hso
      subst her
      dsimp only
      clear HE1 HE2 HE3
      go_enter Try.func72, Try.ntmps72
      go_wp2_with (first
        | (go_at_call 90; go_must (refine (HIn.out l _ b5 m5 d5 a6 n6 c6 HSf.out.lt HSf.out.bl (numX_new (w := w) (q := q) (p2 := p) HO5.out HR5.out (fun k hk => (HX.out k hk).1) HSd4.out.lt HGd4.out (by have := HS2.out.lt; omega) HK6.out) HI6.out (fun h y e => by rw [HY6.out h y e]; exact hqb)).mono ?_); rintro e w7 ⟨rfl, yy, hyy, hL7, hp7⟩; have HL7 := hide hL7; have HP7 := hide hp7; have HYY := hide hyy; have hfar : ∀ k, w.heap.size ≤ k → ¬ SB 4 (w6.setCell ⟨w2.heap.size, 3, none⟩ (.slice a6 n6 c6)) p k := (fun k hk hs => by have := (HL.out.lt (hs.same (HSf.out.bl.block p hp))).1; omega); obtain ⟨a0, a1, -⟩ := HSf.out.a.same (hp7.1.block w.heap.size (by have := HSf.out.lt; omega) (hfar _ (by omega))); obtain ⟨c0, c1, cf⟩ := HSf.out.b.same (hp7.1.block (w.heap.size + 1) (by have := HSf.out.lt; omega) (hfar _ (by omega))); have c0f := cf 0; have c1f := cf 1; clear cf hL7 hp7 hyy hfar)
        | (go_at_call 60; go_must (refine (HEn.out _ (by exact HSf.out.rd)).mono ?_); rintro e w' ⟨rfl, hw⟩; have hw := hw.symm; subst hw; obtain ⟨b0, b1, b2, b3, -⟩ := HBf.out)
        | (go_at_call 89; have hchk := HSe.out; clear hchk; refine (HN4.out _ (by exact HSe.out.rd)).mono ?_; rintro e w6 ⟨a6, n6, c6, rfl, hs6, hy6, hR6, hc6, hm6⟩; have hbx := HBe.out.same (hR6.2.block _ (HGe.out) (by have := HS2.out.lt; omega)); have k3 := hbx.2.2.2.1; have k3f := hbx.2.2.2.2 3; have HBf := hide (hbx.set3 (.slice a6 n6 c6)); have HSf := hide ((HSe.out.call hR6).set (g := w2.heap.size) HS2.out.lt 3 (.slice a6 n6 c6)); have HY6 := hide (fun (h : n6 ≠ 0) (y : Addr) (e : a6 = some y) => (hy6 h y e).1); have HK6 := hide hR6.2; have HI6 := hide (isB_setNew (g := w2.heap.size) (i := 3) (v := .slice a6 n6 c6) (isB_text hs6 hc6 hm6 HBy4.out) (fun h y e => (hy6 h y e).1) (by have := HS2.out.lt; omega)); clear hbx hs6 hy6 hR6 hc6 hm6)
        | (go_at_call 20; go_must (refine (xofMem_some a4 n4 c4 dm l _ HI4.out (by have := HI4.out.1; omega) hM).mono ?_); rintro e w5 ⟨b5, m5, d5, rfl, ho5, hr5, h95, hb5⟩; have hbx := (HBd4.out.same (hb5.block w2.heap.size HGd4.out)); have k2 := hbx.2.2.1; have k2f := hbx.2.2.2.2 2; have HBe := hide (hbx.set2 (.slice b5 m5 d5)); have HSe := hide ((HSd4.out.below hb5).set (g := w2.heap.size) HS2.out.lt 2 (.slice b5 m5 d5)); have HGe := hide (World.block_lt_of_cell? _ ⟨w2.heap.size, 0, none⟩ HBe.out.1); have HO5 := hide ho5; have HR5 := hide hr5; clear hbx hb5 ho5 hr5 h95)
        | (go_at_call 89; go_must (refine (HN3.out _ (by exact HSd.out.rd)).mono ?_); rintro e w4 ⟨a4, n4, c4, rfl, hs4, hy4, hR4, hc4, hm4⟩; have HBd4 := hide (HBd.out.same (hR4.2.block _ (HGd.out) (by have := HS2.out.lt; omega))); have HSd4 := hide (HSd.out.call hR4); have HGd4 := hide (World.block_lt_of_cell? _ ⟨w2.heap.size, 0, none⟩ HBd4.out.1); have HI4 := hide (isB_text hs4 hc4 hm4 HBy.out); clear hs4 hy4 hR4 hc4 hm4)
        | (go_at_call 59; have hchk := HSb.out; clear hchk; refine (HN2.out _ (by exact HSb.out.rd)).mono ?_; rintro e w3 ⟨rfl, hR3⟩; have hbx := HBx.out.same (hR3.2.block _ (by simp) (by have := HS2.out.lt; omega)); have k1 := hbx.2.1; have k1f := hbx.2.2.2.2 1; have HBd := hide (hbx.set1 (.int .u64 sT)); have HSd := hide ((HSb.out.call hR3).set (g := w2.heap.size) HS2.out.lt 1 (.int .u64 sT)); have HGd := hide (World.block_lt_of_cell? _ ⟨w2.heap.size, 0, none⟩ HBd.out.1); clear hbx hR3)
        | (go_at_call 59; have hchk := HS1.out; clear hchk; refine (HN1.out _ (by exact HS1.out.rd)).mono ?_; rintro e w2 ⟨rfl, hR2⟩; have HS2 := hide (HS1.out.call hR2); have HSb := hide (HS2.out.below (new_below w2 (.cells #[.int .u64 si, .int .u64 0, .slice none 0 0, .slice none 0 0] 26))); have HBx := hide (box4_new w2 (.int .u64 si) (.int .u64 0) (.slice none 0 0) (.slice none 0 0) 26 _ rfl); clear hR2)
        | (go_at_call 59; go_must (refine (HN.out _ (by exact HS0.out.rd)).mono ?_); rintro e w1 ⟨rfl, hR1⟩; have HS1 := hide (HS0.out.call hR1); clear hR1))
      have HF := hide (one_log HSf.out hp (fun k hk => (HL.out.lt hk).2.2) (fun k hk => (HX.out k hk).1) HP7.out HL7.out (.int .u64 h1) (.int .u64 h2))
      obtain ⟨n0, n1, -⟩ := HF.out.1
      refine bodyPost_ret (v := .tuple #[.agg #[.int .u64 h1, .int .u64 h2], .int .i64 0]) (by simp [results, Try.results72, go_sem, n0, n1]) rfl ?_
      exact ⟨HF.out.2.1, h1, h2, rfl, fun _ => ⟨rfl, ⟨capS ⟨si, sT, l, sd⟩, restL L ⟨si, sT, l, sd⟩, yy, true⟩, ⟨rfl, rfl⟩, HYY.out, HF.out.2.2⟩⟩

end Go.Proofs.Ytjeijeaogdednaa

namespace Go.Proofs.Ytjeijeaogdednaa
open Go.RowKit NumMath
set_option linter.unusedVariables false
set_option maxRecDepth 100000

theorem one_any (X : Nat → Prop) (w : World) (base p : Nat) (h1 h2 : Int) (L : LogS) (a : Option Addr) (len cap : Nat) (bs : List Int) (hL : IsL X w base p L) (hX : ∀ k, X k → k < w.heap.size ∧ base ≤ k) (hG : L.Good) (hn : L.es.length ≤ 40000) (hI : IsBytes w a len cap bs) (hq : len ≠ 0 → ∀ x, a = some x → x.block < base) (hl : bs.length ≤ 1000) :
    Calls Try.prog 72 #[.agg #[.int .u64 h1, .int .u64 h2], .pointer (some ⟨p, 0, none⟩), .slice a len cap] w fun e w' => OnePost X w base p (recL (h1, h2) L bs) e w' := by
  have hp := hL.at
  have hbp := (hL.lt (k := p) SB.at).2.1
  by_cases h0 : len = 0
  · have hbs : bs = [] := List.eq_nil_of_length_eq_zero (by rw [hI.1]; exact h0)
    have e : recL (h1, h2) L bs = (30, (h1, h2), L) := by
      unfold recL
      rw [hbs]
      rw [if_neg (by rw [num_nil]; decide), if_neg (by rw [num_nil]; decide), if_neg (by rw [num_nil]; decide)]
    rw [e]
    exact one_none X w base p 0 h1 h2 L L a len cap bs hL hI (fun h => absurd h0 h) (Nat.zero_le _) (by rw [hbs, num_nil]; decide) (by rw [hbs, num_nil]; decide) (by rw [hbs, num_nil]; decide)
  · obtain ⟨g, off, rfl, hg, -⟩ := hI.at (k := 0) (by omega)
    have hgb : g < base := hq h0 _ rfl
    have hq1 : len ≠ 0 → ∀ x, some (⟨g, off, none⟩ : Addr) = some x → x.block = g := fun _ x hx => by cases hx; rfl
    unfold recL
    by_cases k1 : (rdN 3 (some bs)).1 = 1
    · rw [if_pos k1]
      exact one_hard X w base p g h1 h2 L _ len cap bs hL hG hI hq1 (by omega) k1
    · rw [if_neg k1]
      by_cases k2 : (rdN 3 (some bs)).1 = 2
      · rw [if_pos k2]
        exact one_ent X w base p g h1 h2 L _ len cap bs hL hX hG hn hI hq1 hgb hl k2
      · rw [if_neg k2]
        by_cases k3 : (rdN 3 (some bs)).1 = 3
        · rw [if_pos k3]
          exact one_snap X w base p g h1 h2 L _ len cap bs hL hX hG hI hq1 hgb hl k3
        · rw [if_neg k3]
          exact one_none X w base p g h1 h2 L L _ len cap bs hL hI hq1 (by omega) k1 k2 k3

end Go.Proofs.Ytjeijeaogdednaa
