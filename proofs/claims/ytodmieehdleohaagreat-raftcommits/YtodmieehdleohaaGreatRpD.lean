/- One record replayed: a snapshot. One record replayed, of whatever kind; what stays true of the log. What a record makes of a good log is good. A text read with one bound is the text read with another, where less is left than both. All records replayed: the program's Replay. -/
import Derived.Test.YtodmieehdleohaaGreatRpC
import Derived.Test.YtodmieehdleohaaGreatTwo8
import Derived.Test.YtodmieehdleohaaGreatTxA
namespace Go.Proofs.YtodmieehdleohaaGreat
open Go.RowKit NumMath
set_option linter.unusedVariables false
set_option maxRecDepth 100000

theorem snap_left (st : Option (List Int)) (hb : Byt st) (n : Int) (hn : rdLeft st ≤ n) : ∀ s, s = (rdN m64 (rdN m64 st).2).2 → rdLeft s ≤ n ∧ rdLeft (rdT m63 s).2 ≤ n ∧ ((rdT m63 s).1.length : Int) ≤ n := by
  rintro s rfl
  have b1 := byt_rdN m64 st hb (by decide)
  have b2 := byt_rdN m64 _ b1 (by decide)
  have l1 := left_rdN m64 st hb
  have l2 := left_rdN m64 (rdN m64 st).2 b1
  have l3 := left_rdT m63 (rdN m64 (rdN m64 st).2).2 b2
  exact ⟨by omega, by omega, by omega⟩

theorem rdSnap_none (p q : Nat) (st : Option (List Int)) (w : World) (h : IsR true w p q st) (hbig : ∀ s, s = (rdN m64 (rdN m64 st).2).2 → rdLeft s ≤ 1000000 ∧ rdLeft (rdT m63 s).2 ≤ 1000000 ∧ (rdT m63 s).1.length ≤ 1000000) (hs : snapOf st = none) :
    Calls Tryz.prog 167 #[.pointer (some ⟨p, 0, none⟩)] w fun e w' => ∃ i t a n c b m d, e = .returned (.tuple #[.agg #[.int .u64 i, .int .u64 t, .slice a n c, .slice b m d], .int .i64 30]) ∧ Keeps (fun k => k = p) w w' := by
  refine (rdSnap_any p q st w h hbig).mono ?_
  rintro e w' ⟨hk, ⟨_, i, t, a, n, c, b, m, d, rfl⟩ | ⟨x, a, n, c, b, m, d, hx, _⟩⟩
  · exact ⟨i, t, a, n, c, b, m, d, rfl, hk⟩
  · rw [hs] at hx; cases hx

theorem rdSnap_some (p q : Nat) (st : Option (List Int)) (s : Snp) (w : World) (h : IsR true w p q st) (hbig : ∀ s, s = (rdN m64 (rdN m64 st).2).2 → rdLeft s ≤ 1000000 ∧ rdLeft (rdT m63 s).2 ≤ 1000000 ∧ (rdT m63 s).1.length ≤ 1000000) (hs : snapOf st = some s) :
    Calls Tryz.prog 167 #[.pointer (some ⟨p, 0, none⟩)] w fun e w' => ∃ a n c b m d, e = .returned (.tuple #[.agg #[.int .u64 s.i, .int .u64 s.t, .slice a n c, .slice b m d], .int .i64 0]) ∧ IsNums w' a n c s.m ∧ s.m.length ≤ 9 ∧ IsBytes w' b m d s.d ∧ Keeps (fun k => k = p) w w' := by
  refine (rdSnap_any p q st w h hbig).mono ?_
  rintro e w' ⟨hk, ⟨hx, _⟩ | ⟨x, a, n, c, b, m, d, hx, rfl, hO, hr, h9, hI, _⟩⟩
  · rw [hs] at hx; cases hx
  · rw [hs] at hx
    cases hx
    obtain ⟨a', n', c', e, hN, _⟩ := hO.is hr
    cases e
    exact ⟨a, n, c, b, m, d, rfl, hN, h9, hI, hk⟩

/-- the log is another one, that is new -/
theorem Past.under {W w5 : World} {base b p g : Nat} {h : Int × Int} {L L' : LogS} (H : Past W base b p h L) (hL : IsL (fun k => k < W.heap.size ∨ SB 4 w5 g k) w5 W.heap.size g L') (hb : Below W.heap.size W w5) (hbase : base ≤ W.heap.size) : Past (w5.setCell ⟨b, 2, none⟩ (.pointer (some ⟨g, 0, none⟩))) base b g h L' := by
  have hbat := H.at
  have kk : Keeps (fun k => k = b) w5 (w5.setCell ⟨b, 2, none⟩ (.pointer (some ⟨g, 0, none⟩))) := (Keeps.self _ w5).also _
  have hfar : ∀ k, SB 4 w5 g k → W.heap.size ≤ k := fun k hk => (hL.lt hk).2.1
  have hgb : g ≠ b := fun e => by have := hfar g SB.at; omega
  have eG := kk.block g hL.at hgb
  have hS : ∀ k, SB 4 (w5.setCell ⟨b, 2, none⟩ (.pointer (some ⟨g, 0, none⟩))) g k → SB 4 w5 g k := fun k hk => hk.same eG
  refine ⟨(H.box.same (hb.block b hbat)).set2 _, ?_, fun h => by have := hfar b (hS b h); omega, H.hb⟩
  refine ((hL.lies kk (fun k e => .inl (by rw [e]; exact hbat)) (fun k hk e => by have := hfar k hk; omega)).more (fun k hk => .inl ?_) (fun k hk => .inl hk)).mono hbase
  rcases hk with hk | hk
  · exact .inr (hS k hk)
  · exact .inl (by have := hbat; have := H.hb; omega)

set_option maxHeartbeats 400000 in
theorem replay_snap (w0 w : World) (base b p r q : Nat) (h : Int × Int) (L : LogS) (bs : List Int) (H : Past w0 base b p h L) (hG : L.Good) (hb : Below w0.heap.size w0 w) (hr : w0.heap.size ≤ r) (hbase : base ≤ w0.heap.size) (hR : IsR true w r q (some bs)) (hl : bs.length ≤ 20000) (hk : (rdN 3 (some bs)).1 = 3) :
    Calls Tryz.prog 153 #[.pointer (some ⟨b, 0, none⟩), .pointer (some ⟨r, 0, none⟩)] w fun e w' => RepPost w base b (match snapOf (rdN 3 (some bs)).2 with | some s => (0, h, ⟨capS s, restL L s, 0, false⟩) | none => (30, h, L)) e w' := by
  have hbat := H.at
  have hpat := H.log.at
  have hrw := hR.at
  have hby := byt_rdN 3 (some bs) hR.byt (by decide)
  have hlf := left_rdN 3 (some bs) hR.byt
  have hlb : rdLeft (some bs) = bs.length := rfl
  have HN := hide (rdN_any r q (some bs) 3 w hR (by decide) (by decide))
  rw [hk] at HN
  have HRn := hide (fun (W : World) (hW : IsR true W r q (rdN 3 (some bs)).2) hs => rdSnap_none r q (rdN 3 (some bs)).2 W hW (fun s hs => by have := snap_left _ hby 20000 (by omega) s hs; omega) hs)
  have HRs := hide (fun (s : Snp) (W : World) (hW : IsR true W r q (rdN 3 (some bs)).2) hs => rdSnap_some r q (rdN 3 (some bs)).2 s W hW (fun s hs => by have := snap_left _ hby 20000 (by omega) s hs; omega) hs)
  have HPa := hide (fun (W : World) (hW : Keeps (fun k => k = r) w W) => H.read hb hr hW)
  have hsr : ∀ s, snapOf (rdN 3 (some bs)).2 = some s → 0 ≤ s.i ∧ s.d.length ≤ 20000 := fun s hs => by
    have hh := snap_left _ hby 20000 (by omega) _ rfl
    have b1 := byt_rdN m64 _ hby (by decide)
    have b2 := byt_rdN m64 _ b1 (by decide)
    have b3 := (byt_rdT m63 _ b2).2
    have hl4 := (left_rdT m63 _ b3).2
    unfold snapOf at hs
    split at hs
    · cases hs
    · split at hs
      · cases hs
        exact ⟨(rdN_range m64 _ hby (by decide)).1, by dsimp only; omega⟩
      · cases hs
  generalize snapOf (rdN 3 (some bs)).2 = so at *
  generalize (rdN 3 (some bs)).2 = st1 at *
  have hrb : base ≤ r := Nat.le_trans hbase hr
  have hbase2 : base ≤ w.heap.size := Nat.le_trans hbase hb.size
  have hsz := hb.size
  clear H hR hk hlf hlb hby
  cases so with
  | none =>
    go_enter Tryz.func153, Tryz.ntmps153
    go_wp2_with (first
      | (go_at_call 160; go_must (refine HN.out.mono ?_); rintro e w1 ⟨rfl, hR1⟩; have HR1 := hide hR1; clear hR1)
      | (go_at_call 167; go_must (refine (HRn.out _ (by exact HR1.out.1) (by first | rfl | trivial)).mono ?_); rintro e w2 ⟨ui, ut, ua, un, uc, ub, um, ud, rfl, hk2⟩; have HK2 := hide (HR1.out.2.trans hk2); clear hk2))
    go_ret
    have hb2 : Below base w _ := HK2.out.below hbase2 (fun k e => by rw [e]; exact hrb)
    exact ⟨rfl, hb2.alloc (Nat.le_trans hbase2 HK2.out.size) _, fun e => by simp at e⟩
  | some s =>
    obtain ⟨hsi, hsd⟩ := hsr s rfl
    dsimp only
    have HUn := hide (fun (W : World) (a : Option Addr) (n c : Nat) (bb : Option Addr) (m d : Nat) (hW : Past W base b p h L) (hN : IsNums W a n c s.m) (h9 : s.m.length ≤ 9) (hI : IsBytes W bb m d s.d) => under_any (fun k => SB 4 W p k ∨ k = b ∨ k < base) base p L s a n c bb m d W hW.log hG hsi hN hI (by have := hN.1; omega) (by have := hI.1; omega))
    go_enter Tryz.func153, Tryz.ntmps153
    go_wp2_with (first
      | (go_at_call 160; go_must (refine HN.out.mono ?_); rintro e w1 ⟨rfl, hR1⟩; have HR1 := hide hR1; clear hR1)
      | (go_at_call 167; go_must (refine (HRs.out s _ (by exact HR1.out.1) (by first | rfl | trivial)).mono ?_); rintro e w2 ⟨a2, n2, c2, d2, m2, e2, rfl, hN2, h92, hI2, hk2⟩; have HK2 := hide (HR1.out.2.trans hk2); have HN2 := hide hN2; have H92 := hide h92; have HI2 := hide hI2; have HP2 := hide (HPa.out _ HK2.out); clear hk2 hN2 h92 hI2))
    have hW3 := new_below w2 (.cells #[.int .u64 s.i, .int .u64 s.t, .slice a2 n2 c2, .slice d2 m2 e2] 28)
    have HP3 := hide (HP2.out.keep hW3)
    have HB4 := hide (box4_new w2 (.int .u64 s.i) (.int .u64 s.t) (.slice a2 n2 c2) (.slice d2 m2 e2) 28 _ rfl)
    have HN3 := hide (HN2.out.keep hW3)
    have HI3 := hide (HI2.out.keep hW3)
    have HbW : Hid (Below base w w2) := HK2.out.below hbase2 (fun k e => by rw [e]; exact hrb)
    have Hb3 := hide (HbW.out.trans (hW3.mono (Nat.le_trans hbase2 HK2.out.size)))
    have hs3 := hide (Nat.le_trans hbase2 (Nat.le_trans HK2.out.size hW3.size))
    clear hW3
    generalize hw3 : w2.alloc (.cells #[.int .u64 s.i, .int .u64 s.t, .slice a2 n2 c2, .slice d2 m2 e2] 28) = w3 at *
    clear hw3
    have y2 := HP3.out.box.2.2.1
    obtain ⟨b0, b1, b2, b3, -⟩ := HB4.out
    go_region_with (first
      | (go_at_call 168; refine (HUn.out _ a2 n2 c2 d2 m2 e2 (by exact HP3.out.keep (Below.refl _ w3).drew) (by exact HN3.out.keep (Below.refl _ w3).drew) H92.out (by exact HI3.out.keep (Below.refl _ w3).drew)).mono ?_; rintro e w5 ⟨g, rfl, hL5, hb5⟩; have HP5 := hide ((HP3.out.keep (Below.refl _ w3).drew).under hL5 hb5 hs3.out); have HB5 := hide (hb5.mono (show base ≤ w3.drew.heap.size from hs3.out)); obtain ⟨-, -, k2, kf⟩ := HP3.out.box.same (hb5.block b HP3.out.at); have kf2 := kf 2; clear hL5 hb5 kf))
    all_goals
      have HFin := hide ((Hb3.out.drew.trans HB5.out).setCell (p := ⟨b, 2, none⟩) HP3.out.hb (.pointer (some ⟨g, 0, none⟩)))
      go_wp2
      go_ret
      exact ⟨rfl, HFin.out, fun _ => ⟨g, HP5.out⟩⟩

end Go.Proofs.YtodmieehdleohaaGreat

namespace Go.Proofs.YtodmieehdleohaaGreat
open Go.RowKit NumMath
set_option linter.unusedVariables false
set_option maxRecDepth 100000

theorem replay_any (w0 w : World) (base b p r q : Nat) (h : Int × Int) (L : LogS) (bs : List Int) (H : Past w0 base b p h L) (hG : L.Good) (hn : L.es.length ≤ 40000) (hb : Below w0.heap.size w0 w) (hr : w0.heap.size ≤ r) (hbase : base ≤ w0.heap.size) (hR : IsR true w r q (some bs)) (hl : bs.length ≤ 20000) :
    Calls Tryz.prog 153 #[.pointer (some ⟨b, 0, none⟩), .pointer (some ⟨r, 0, none⟩)] w fun e w' => RepPost w base b (recL h L bs) e w' := by
  unfold recL
  by_cases h1 : (rdN 3 (some bs)).1 = 1
  · rw [if_pos h1]
    exact replay_hard w0 w base b p r q h L bs H hb hr hbase hR h1
  · rw [if_neg h1]
    by_cases h2 : (rdN 3 (some bs)).1 = 2
    · rw [if_pos h2]
      exact replay_ent w0 w base b p r q h L bs H hG hn hb hr hbase hR hl h2
    · rw [if_neg h2]
      by_cases h3 : (rdN 3 (some bs)).1 = 3
      · rw [if_pos h3]
        exact replay_snap w0 w base b p r q h L bs H hG hb hr hbase hR hl h3
      · rw [if_neg h3]
        exact replay_none w0 w base b p r q h L bs hr hbase hb hR h1 h2 h3

end Go.Proofs.YtodmieehdleohaaGreat

namespace Go.Proofs.YtodmieehdleohaaGreat
open Go.RowKit NumMath
set_option linter.unusedVariables false
set_option maxRecDepth 100000

theorem restL_drop {L : LogS} {s : Snp} (hn : L.es.length ≤ 100000) : restL L s = [] ∨ ∃ k : Nat, capI s.i = L.s.i + k ∧ k ≤ L.es.length ∧ restL L s = L.es.drop k := by
  by_cases h : (termL L (capI s.i)).2 = true ∧ (termL L (capI s.i)).1 = s.t
  · right
    obtain ⟨h1, h2⟩ := termL_in h.1
    refine ⟨(capI s.i - L.s.i).toNat, by omega, by omega, ?_⟩
    rw [restL_yes h]
    exact entsL_drop _ (by omega) (by omega) hn
  · exact .inl (restL_no h)

theorem good_under {L : LogS} {s : Snp} (hG : L.Good) (hi : 0 ≤ s.i) (ht : 0 ≤ s.t ∧ s.t ≤ 18446744073709551615) (hm : NumOk s.m) (hd : s.d.length ≤ 100000) : LogS.Good ⟨capS s, restL L s, 0, false⟩ ∧ (restL L s).length ≤ L.es.length := by
  have hc := capI_rng hi
  have hn := hG.n
  rcases restL_drop (L := L) (s := s) hG.n with e | ⟨k, hk, hkl, e⟩
  · rw [e]
    exact ⟨⟨hc.1, by show capI s.i ≤ _; omega, ht.1, ht.2, hm.2, hm.1, hd, by simp, by intro j hj; simp at hj, by simp, Int.le_refl 0, by show (0 : Int) ≤ _; omega⟩, by simp⟩
  · rw [e]
    refine ⟨⟨hc.1, by show capI s.i ≤ _; omega, ht.1, ht.2, hm.2, hm.1, hd, by show (L.es.drop k).length ≤ _; rw [List.length_drop]; omega, ?_, fun x hx => hG.ok x (List.mem_of_mem_drop hx), Int.le_refl 0, by show (0 : Int) ≤ _; omega⟩, by rw [List.length_drop]; omega⟩
    intro j hj
    have hj' : j < (L.es.drop k).length := hj
    rw [List.length_drop] at hj'
    show ((L.es.drop k).getD j ent0).i = capI s.i + 1 + j
    rw [getD_drop_e, hG.at_ (k + j) (by omega), hk]
    omega

theorem snapOf_ok {st : Option (List Int)} (hb : Byt st) {s : Snp} (hs : snapOf st = some s) : 0 ≤ s.i ∧ (0 ≤ s.t ∧ s.t ≤ 18446744073709551615) ∧ NumOk s.m ∧ (s.d.length : Int) ≤ rdLeft st := by
  obtain ⟨a1, a2, a3⟩ := rdN_range m64 st hb (by decide)
  obtain ⟨b1, b2, b3⟩ := rdN_range m64 (rdN m64 st).2 a3 (by decide)
  have l1 := left_rdN m64 st hb
  have l2 := left_rdN m64 (rdN m64 st).2 a3
  have l3 := left_rdT m63 (rdN m64 (rdN m64 st).2).2 b3
  have c3 := (byt_rdT m63 _ b3).2
  have l4 := left_rdT m63 _ c3
  unfold snapOf at hs
  split at hs
  · cases hs
  · rename_i l hl
    split at hs
    · cases hs
      exact ⟨a1, ⟨b1, b2⟩, mem_ok hl, by dsimp only; omega⟩
    · cases hs

/-- behind one more record the log is good, and has at most one entry more -/
theorem good_rec {h : Int × Int} {L : LogS} {bs : List Int} (hG : L.Good) (hn : L.es.length ≤ 40000) (hbs : ∀ c ∈ bs, 0 ≤ c ∧ c < 256) (hl : bs.length ≤ 20000) : (recL h L bs).2.2.Good ∧ (recL h L bs).2.2.es.length ≤ L.es.length + 1 := by
  have hby0 : Byt (some bs) := by intro xs hx; cases hx; exact hbs
  have hby := byt_rdN 3 (some bs) hby0 (by decide)
  have hlf := left_rdN 3 (some bs) hby0
  have hlb : rdLeft (some bs) = bs.length := rfl
  have same : L.Good ∧ L.es.length ≤ L.es.length + 1 := ⟨hG, by omega⟩
  unfold recL
  by_cases h1 : (rdN 3 (some bs)).1 = 1
  · rw [if_pos h1]; exact same
  · rw [if_neg h1]
    by_cases h2 : (rdN 3 (some bs)).1 = 2
    · rw [if_pos h2]
      by_cases h3 : (entOf (rdN 3 (some bs)).2).2 = 0
      · rw [if_pos h3]
        obtain ⟨hok, hdl, -⟩ := entOf_ok _ hby
        exact ⟨good_app hG (by intro e he; rw [List.mem_singleton.1 he]; exact ⟨hok, by omega⟩) (by simp; omega), appL_len L _⟩
      · rw [if_neg h3]; exact same
    · rw [if_neg h2]
      by_cases h3 : (rdN 3 (some bs)).1 = 3
      · rw [if_pos h3]
        cases hs : snapOf (rdN 3 (some bs)).2 with
        | none => exact same
        | some s =>
          obtain ⟨s1, s2, s3, s4⟩ := snapOf_ok hby hs
          obtain ⟨g1, g2⟩ := good_under (L := L) hG s1 s2 s3 (by omega)
          exact ⟨g1, by show (restL L s).length ≤ _; omega⟩
      · rw [if_neg h3]; exact same

end Go.Proofs.YtodmieehdleohaaGreat

namespace Go.Proofs.YtodmieehdleohaaGreat
open Go.RowKit NumMath
set_option linter.unusedVariables false

theorem rdT_bound (st : Option (List Int)) (hb : Byt st) (hl : rdLeft st ≤ 1048576) : rdT 1048576 st = rdT m63 st := by
  cases st with
  | none => rfl
  | some xs =>
    have hx : (xs.length : Int) ≤ 1048576 := hl
    cases hn : numAt xs with
    | none => rw [rdT_none _ _ (by decide) (by rw [rdN_fst _ _ hn]), rdT_none _ _ (by decide) (by rw [rdN_fst _ _ hn])]
    | some y =>
      obtain ⟨n, r⟩ := y
      by_cases h1 : (n : Int) ≤ 1048576
      · have e1 := rdN_fit 1048576 xs n r hn h1
        have e2 := rdN_fit m63 xs n r hn (by show (n : Int) ≤ 9223372036854775807; omega)
        unfold rdT
        rw [if_neg (by decide), if_neg (by decide), e1, e2]
      · rw [rdT_none _ _ (by decide) (by rw [rdN_big _ _ n r hn h1])]
        by_cases h2 : (n : Int) ≤ m63
        · have e2 := rdN_fit m63 xs n r hn h2
          have hs := rdN_shorter m63 (some xs) hb r (by rw [e2])
          have hs' : (r.length : Int) < xs.length := hs
          exact (rdT_long _ _ (by decide) r (by rw [e2]) (by rw [e2]; dsimp only; omega)).symm
        · exact (rdT_none _ _ (by decide) (by rw [rdN_big _ _ n r hn h2])).symm

end Go.Proofs.YtodmieehdleohaaGreat

namespace Go.Proofs.YtodmieehdleohaaGreat
open Go.RowKit NumMath
set_option linter.unusedVariables false
set_option maxRecDepth 100000

/-- what records make of a hard state and a log: the first error, and both, if there is none -/
noncomputable def repL : (Int × Int) → LogS → List (List Int) → Int × (Int × Int) × LogS
  | h, L, [] => (0, h, L)
  | h, L, b :: r => if (recL h L b).1 = 0 then repL (recL h L b).2.1 (recL h L b).2.2 r else recL h L b

theorem repL_step {h : Int × Int} {L : LogS} {ts : List (List Int)} {j : Nat} (hj : j < ts.length) : repL h L (ts.drop j) = if (recL h L (ts.getD j [])).1 = 0 then repL (recL h L (ts.getD j [])).2.1 (recL h L (ts.getD j [])).2.2 (ts.drop (j + 1)) else recL h L (ts.getD j []) := by
  rw [List.drop_eq_getElem_cons hj, repL]
  have e : ts.getD j [] = ts[j] := by simp [List.getD, List.getElem?_eq_getElem hj]
  rw [e]

theorem past_new {w1 w2 : World} {base p : Nat} {L : LogS} (hL : IsL (fun k => k < base ∨ k = p) w1 base p L) (hb : base ≤ w1.heap.size) (t v : Int) (ty : TypeId) : Past (w1.alloc (.cells #[.int .u64 t, .int .u64 v, .pointer (some ⟨p, 0, none⟩)] ty)) base w1.heap.size p (t, v) L := by
  have hp := hL.at
  have hbl := new_below w1 (.cells #[.int .u64 t, .int .u64 v, .pointer (some ⟨p, 0, none⟩)] ty)
  have hL2 := hL.keep hbl
  have hS : ∀ k, SB 4 (w1.alloc (.cells #[.int .u64 t, .int .u64 v, .pointer (some ⟨p, 0, none⟩)] ty)) p k → k = p := fun k hk => (hL2.lt hk).2.2.elim (fun h => by have := (hL2.lt hk).2.1; omega) id
  refine ⟨⟨by simp, by simp, by simp, by simp⟩, ?_, fun h => by have := hS _ h; omega, hb⟩
  refine (IsL.keep (hL.more (Y := fun k => k = p ∨ k = w1.heap.size ∨ k < base) (fun k hk => ?_) (fun k hk => (hL.lt hk).2.2.elim (fun h => .inr (.inr h)) .inl)) hbl).more (fun k hk => .inl (hk.imp (hS k) id)) (fun k hk => .inl hk)
  rcases hk with h | h | h
  · exact .inl (.inr h)
  · exact .inr (by omega)
  · exact .inl (.inl h)

/-- what Replay answers -/
def AllPost (w : World) (x : Int × (Int × Int) × LogS) (e : Ending) (w' : World) : Prop :=
  Below w.heap.size w w' ∧ ((x.1 ≠ 0 ∧ e = .returned (.tuple #[.agg #[.int .u64 0, .int .u64 0], .pointer none, .int .i64 x.1])) ∨ (x.1 = 0 ∧ ∃ p, e = .returned (.tuple #[.agg #[.int .u64 x.2.1.1, .int .u64 x.2.1.2], .pointer (some ⟨p, 0, none⟩), .int .i64 0]) ∧ IsL (fun k => SB 4 w' p k) w' w.heap.size p x.2.2.clean))

/-- .. with data that lie in none of the elder blocks -/
def AllPost2 (w : World) (x : Int × (Int × Int) × LogS) (e : Ending) (w' : World) : Prop :=
  Below w.heap.size w w' ∧ ((x.1 ≠ 0 ∧ e = .returned (.tuple #[.agg #[.int .u64 0, .int .u64 0], .pointer none, .int .i64 x.1])) ∨ (x.1 = 0 ∧ ∃ p, e = .returned (.tuple #[.agg #[.int .u64 x.2.1.1, .int .u64 x.2.1.2], .pointer (some ⟨p, 0, none⟩), .int .i64 0]) ∧ IsL (fun k => SB 4 w' p k ∨ k < w.heap.size) w' w.heap.size p x.2.2.clean))

set_option maxHeartbeats 400000 in
theorem replayAll2_any (a : Option Addr) (len cap : Nat) (ts : List (List Int)) (w : World) (h : IsTexts w a len cap ts) (hl : len ≤ 20000) (ht : ∀ t ∈ ts, t.length ≤ 20000) :
    Calls Tryz.prog 142 #[.slice a len cap] w fun e w' => AllPost2 w (repL (0, 0) log0 ts) e w' := by
  have H := hide h
  have hlen := h.1
  have HLn := hide hlen
  have HT := hide ht
  have HAre := hide h.are
  have HA := hide (box2_new w (.int .u64 0) (.int .u64 0) 24 _ rfl)
  have HWA := hide (new_below w (.cells #[.int .u64 0, .int .u64 0] 24))
  have HNew := hide (fun (W : World) => new_any (fun k => k < W.heap.size) 0 0 none 0 0 [] none 0 0 [] W (fun _ h => h) (isNums_nil W) ⟨rfl, Nat.le_refl _, Nat.zero_le _, by simp, .inl rfl⟩ (by omega) (by omega))
  clear h hlen ht
  go_enter Tryz.func142, Tryz.ntmps142
  go_wp2_with (first
    | (go_at_call 11; go_must (refine (HNew.out _).mono ?_); rintro e w1 ⟨p, rfl, hp, hL1, hb1⟩; have HL1 := hide hL1; have HB1 := hide hb1; clear hp hL1 hb1))
  have hs1 : w.heap.size + 1 ≤ w1.heap.size := by have := HB1.out.size; simp at this; omega
  have HP1 := hide (past_new (w2 := w1) (base := w.heap.size + 1) (by simpa using HL1.out) hs1 0 0 166)
  have Hb1 : Hid (Below (w.heap.size + 1) (w.alloc (.cells #[.int .u64 0, .int .u64 0] 24)) (w1.alloc (.cells #[.int .u64 0, .int .u64 0, .pointer (some ⟨p, 0, none⟩)] 166))) := ((HB1.out.mono (by simp)).alloc hs1 _)
  have HWm := hide (fun (W : World) (hW : Below (w.heap.size + 1) (w.alloc (.cells #[.int .u64 0, .int .u64 0] 24)) W) => (show Below w.heap.size w W from HWA.out.trans (hW.mono (by omega))))
  have HBA := hide (fun (W : World) (hW : Below (w.heap.size + 1) (w.alloc (.cells #[.int .u64 0, .int .u64 0] 24)) W) => HA.out.same (hW.block w.heap.size (by omega)))
  have HSz := hide (fun (W : World) (hW : Below (w.heap.size + 1) (w.alloc (.cells #[.int .u64 0, .int .u64 0] 24)) W) => (show w.heap.size + 1 ≤ W.heap.size by have := hW.size; simp at this; omega))
  have H0 : Hid (repL (0, 0) log0 ts = repL (0, 0) log0 (ts.drop 0)) := by show _ = _; rw [List.drop_zero]
  have hgl := hide good_log0
  go_loopw [14] (fun i wr => ∃ (j : Nat) (h : Int × Int) (L : LogS) (p' : Nat), j ≤ len ∧ i = .int .i64 j ∧ Past wr (w.heap.size + 1) w1.heap.size p' h L ∧ L.Good ∧ L.es.length ≤ j ∧ repL (0, 0) log0 ts = repL h L (ts.drop j) ∧ Below (w.heap.size + 1) (w.alloc (.cells #[.int .u64 0, .int .u64 0] 24)) wr) (fun i _ => len - (intOf i).toNat)
  case atStart => exact ⟨0, (0, 0), log0, p, Nat.zero_le _, rfl, HP1.out, hgl.out, Nat.le_refl _, H0.out, Hb1.out⟩
  case round =>
    clear HP1 HL1 HB1 Hb1 H0 hgl HNew
    obtain ⟨j, h, L, p', hj, rfl, hP, hG, hLn, hEq, hb⟩ := hrel
    have HP := hide hP
    have HG := hide hG
    have HEq := hide hEq
    have HB := hide hb
    have Hw := hide (HWm.out _ hb)
    have hwr := HSz.out _ hb
    clear hP hG hEq hb
    by_cases hlt : j < len
    · obtain ⟨g, off, tb, tn, tc, rfl, hg, hcell, hI⟩ := H.out.at hlt
      have hc' := (Hw.out.cell (p := ⟨g, off + j, none⟩) hg).trans hcell
      have htj : ts.getD j [] ∈ ts := by
        have hj2 : j < ts.length := by rw [HLn.out]; exact hlt
        have : ts.getD j [] = ts[j] := by simp [List.getD, List.getElem?_eq_getElem hj2]
        rw [this]; exact List.getElem_mem hj2
      have ht3 := HT.out _ htj
      have HGr := hide (good_rec (h := h) (L := L) (bs := ts.getD j []) HG.out (by omega) (HAre.out _ htj) (by omega))
      have HSt := hide (repL_step (h := h) (L := L) (ts := ts) (j := j) (by rw [HLn.out]; exact hlt))
      have HRd := hide (fun (W : World) (hW : Below w.heap.size w W) => read_any tb tn tc (ts.getD j []) W (hI.keep hW) (by have := hI.1; omega))
      have HRp := hide (fun (W0 W : World) (r q : Nat) (hP : Past W0 (w.heap.size + 1) w1.heap.size p' h L) (hb : Below W0.heap.size W0 W) (hr : W0.heap.size ≤ r) (hs : w.heap.size + 1 ≤ W0.heap.size) (hR : IsR true W r q (some (ts.getD j []))) => replay_any W0 W (w.heap.size + 1) w1.heap.size p' r q h L (ts.getD j []) hP HG.out (by omega) hb hr hs hR (by omega))
      clear hI hcell htj ht3
      generalize recL h L (ts.getD j []) = rr at *
      obtain ⟨er, h', L'⟩ := rr
      dsimp only at *
      obtain ⟨z, hz⟩ : ∃ z : Bool, (er == 0) = z := ⟨_, rfl⟩
      cases z
      · have hne : ¬ er = 0 := by simpa using hz
        have HFin := hide (HEq.out.trans (HSt.out.trans (if_neg hne)))
        clear HSt HGr HEq
        go_wp2_with (first
          | (go_at_call 154; go_must (refine (HRd.out _ (by exact Hw.out)).mono ?_); rintro e w5 ⟨r, q, rfl, hr, hq, hR5, hb5⟩; have HR5 := hide hR5; have HB5 := hide hb5; have hr5 := hide hr; clear hr hq hR5 hb5)
          | (go_at_call 153; go_must (refine (HRp.out _ _ r q HP.out HB5.out hr5.out hwr HR5.out).mono ?_); rintro e w6 ⟨rfl, hb6, -⟩; have HB6 := hide (HB.out.trans ((HB5.out.mono hwr).trans hb6)); obtain ⟨a0, a1, af⟩ := HBA.out _ HB6.out; have a0f := af 0; have a1f := af 1; clear hb6 af))
        have HR := hide (((HBA.out _ HB6.out).set0 (.int .u64 0)).set1 (.int .u64 0))
        obtain ⟨n0, n1, -⟩ := HR.out
        rw [HFin.out]
        refine bodyPost_ret (v := .tuple #[.agg #[.int .u64 0, .int .u64 0], .pointer none, .int .i64 er]) (by simp [results, Tryz.results142, go_sem, n0, n1]) rfl ⟨((HWm.out _ HB6.out).setCell (p := ⟨w.heap.size, 0, none⟩) (Nat.le_refl _) _).setCell (p := ⟨w.heap.size, 1, none⟩) (Nat.le_refl _) _, .inl ⟨hne, rfl⟩⟩
      · have her : er = 0 := by simpa using hz
        subst her
        have HFin := hide (HEq.out.trans (HSt.out.trans (if_pos rfl)))
        clear HSt HEq
        go_wp2_with (first
          | (go_at_call 154; go_must (refine (HRd.out _ (by exact Hw.out)).mono ?_); rintro e w5 ⟨r, q, rfl, hr, hq, hR5, hb5⟩; have HR5 := hide hR5; have HB5 := hide hb5; have hr5 := hide hr; clear hr hq hR5 hb5)
          | (go_at_call 153; go_must (refine (HRp.out _ _ r q HP.out HB5.out hr5.out hwr HR5.out).mono ?_); rintro e w6 ⟨rfl, hb6, hp6⟩; have HB6 := hide (HB.out.trans ((HB5.out.mono hwr).trans hb6)); have HP6 := hide (hp6 rfl); clear hb6 hp6))
        obtain ⟨p6, hP6⟩ := HP6.out
        have HQ6 := hide hP6
        clear hP6
        go_roundw
        case rel => exact ⟨j + 1, h', L', p6, by omega, by go_num, HQ6.out, HGr.out.1, by have := HGr.out.2; omega, HFin.out, HB6.out⟩
        case measure => simp [intOf]; omega
    · have hjn : j = len := by omega
      subst hjn
      have HFin : Hid (repL (0, 0) log0 ts = (0, h, L)) := by
        show _ = _
        rw [HEq.out, List.drop_of_length_le (by rw [HLn.out]; exact Nat.le_refl _)]
        rfl
      have y2 := HP.out.box.2.2.1
      have HCl := hide (clean_any (fun k => SB 4 wr p' k ∨ k = w1.heap.size ∨ k < w.heap.size + 1) (w.heap.size + 1) p' L wr HP.out.log)
      go_wp2_with (first
        | (go_at_call 15; go_must (refine HCl.out.mono ?_); rintro e w6 ⟨rfl, hL6, hp6⟩; have HL6 := hide hL6; have HP6 := hide hp6; have HB6 := hide (HB.out.trans (HP.out.log.below hp6 hwr)); have HX6 := hide (HP.out.box.same (hp6.1.block w1.heap.size HP.out.at HP.out.off)); clear hL6 hp6))
      obtain ⟨k0, k1, k2, -⟩ := HX6.out
      obtain ⟨a0, a1, af⟩ := HBA.out _ HB6.out
      have a0f := af 0
      have a1f := af 1
      have hne : ¬ w.heap.size = w1.heap.size := by omega
      have hne2 : ¬ w1.heap.size = w.heap.size := by omega
      clear af
      go_region_held3 (fun W => W.cell? ⟨w1.heap.size, 0, none⟩ = some (.int .u64 h.1) ∧ W.cell? ⟨w1.heap.size, 1, none⟩ = some (.int .u64 h.2) ∧ W.cell? ⟨w1.heap.size, 2, none⟩ = some (.pointer (some ⟨p', 0, none⟩))) (first | go_keep) (fail)
      all_goals
        have HR := hide (((HBA.out _ HB6.out).set0 (.int .u64 h.1)).set1 (.int .u64 h.2))
        obtain ⟨n0, n1, -⟩ := HR.out
        have kk : Keeps (fun k => k = w.heap.size) w6 ((w6.setCell ⟨w.heap.size, 0, none⟩ (.int .u64 h.1)).setCell ⟨w.heap.size, 1, none⟩ (.int .u64 h.2)) := ((Keeps.self _ w6).also _).also _
        have HKK := hide kk
        clear k0 k1 k2 a0 a1 a0f a1f kk
        have HF := hide (((HL6.out.lies HKK.out (fun k e => .inr (.inr (by omega))) (fun k hk e => by have := (HL6.out.lt hk).2.1; omega)).more (Y := fun k => SB 4 ((w6.setCell ⟨w.heap.size, 0, none⟩ (.int .u64 h.1)).setCell ⟨w.heap.size, 1, none⟩ (.int .u64 h.2)) p' k ∨ k < w.heap.size) (fun k hk => Or.elim hk (fun hk => .inl ((HL6.out.lt (hk.same (HKK.out.block p' HL6.out.at (by have := (HL6.out.lt (k := p') SB.at).2.1; omega)))).2.2)) (fun hk => .inl (.inr (.inr (by omega))))) (fun k hk => .inl hk)).mono (show w.heap.size ≤ w.heap.size + 1 by omega))
        have HZ := hide (((HWm.out _ HB6.out).setCell (p := ⟨w.heap.size, 0, none⟩) (Nat.le_refl _) (.int .u64 h.1)).setCell (p := ⟨w.heap.size, 1, none⟩) (Nat.le_refl _) (.int .u64 h.2))
        go_wp2
        rw [HFin.out]
        refine bodyPost_ret (v := .tuple #[.agg #[.int .u64 h.1, .int .u64 h.2], .pointer (some ⟨p', 0, none⟩), .int .i64 0]) (by simp [results, Tryz.results142, go_sem, n0, n1]) rfl ⟨HZ.out.drew, .inr ⟨rfl, p', rfl, HF.out.drew⟩⟩

theorem replayAll_any (a : Option Addr) (len cap : Nat) (ts : List (List Int)) (w : World) (h : IsTexts w a len cap ts) (hl : len ≤ 20000) (ht : ∀ t ∈ ts, t.length ≤ 20000) :
    Calls Tryz.prog 142 #[.slice a len cap] w fun e w' => AllPost w (repL (0, 0) log0 ts) e w' := by
  refine (replayAll2_any a len cap ts w h hl ht).mono ?_
  rintro e w' ⟨hb, h1⟩
  refine ⟨hb, h1.imp id ?_⟩
  rintro ⟨q1, p, q2, q3⟩
  exact ⟨q1, p, q2, q3.more (fun k hk => .inl (.inl hk)) (fun k hk => hk)⟩

end Go.Proofs.YtodmieehdleohaaGreat
