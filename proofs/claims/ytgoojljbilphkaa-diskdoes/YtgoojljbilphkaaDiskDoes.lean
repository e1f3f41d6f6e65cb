/- For any int size and any deeds plenumlaw06.DiskDoes returns true (of a size above 10,000, of more than 40 deeds, and from a deed with more than 200 bytes on the law itself asks nothing): behind each deed the disk's answer, its bytes and how many are synced are those of the document's reference; what was handed in is left as it was. No condition. -/
import Derived.Test.YtgoojljbilphkaaRows
import Derived.WalkKit
import Derived.ProofKit
import Derived.OpenShut
import Derived.ShutString
import Derived.ChangeOld
import Derived.Below
import Derived.Test.YtgoojljbilphkaaDkBoth
import Derived.Deep.RegionHeld
namespace Go.Proofs.Ytgoojljbilphkaa.diskDoes
open Go.ChangeShapes Go.WideShapes Go.ChangeAt Go.RowKit
open Go.ChangeMaps (open_string shut_string)
set_option linter.unusedVariables false

theorem own : ownKnob Try.prog.godebug = none := by kernel_rfl
theorem laidOut : laidOutB Try.prog = true := by kernel_rfl

open NumMath

set_option maxRecDepth 20000 in
set_option maxHeartbeats 8000000 in
theorem walk (a0 : Int) (a1 : Option Addr) (len1 cap1 : Nat) (x1 : List Deed) (w : World) (w0 : (Lit.int .i64 a0).wf = true) (w1 : IsDeeds w a1 len1 cap1 x1) :
    Calls Try.prog 3 #[.int .i64 a0, .slice a1 len1 cap1] w fun e w' => e = .returned (.bool true) ∧ Below w.heap.size w w' := by
  have H1 := hide w1
  have hm1 : (len1 : Int) ≤ 9223372036854775807 := by have := w1.2.1; have := w1.2.2.1; unfold maxLen at this; omega
  obtain ⟨n1, n2⟩ := wf_i64 w0
  clear w0 w1
  by_cases g0 : (10000 : Int) < a0
  · go_enter Try.func3, Try.ntmps3
    go_wp2_with (first
      | (go_at_call 7; refine (dkawake_any _).mono ?_; rintro e wa ⟨rfl, hba⟩))
    go_ret
    exact ⟨rfl, hba⟩
  by_cases g1 : (40 : Int) < (len1 : Int)
  · go_enter Try.func3, Try.ntmps3
    go_wp2_with (first
      | (go_at_call 7; refine (dkawake_any _).mono ?_; rintro e wa ⟨rfl, hba⟩))
    go_ret
    exact ⟨rfl, hba⟩
  have HSz : Hid (a0.toNat ≤ 10000) := by show _ ≤ _; omega
  have HV := H1
  have HNew := hide (dnew_any a0)
  have HXew := hide (xnew_any a0)
  clear n1 n2
  generalize a0.toNat = size at *
  go_enter Try.func3, Try.ntmps3
  go_wp2_with (first
    | (go_at_call 9; refine (HXew.out _).mono ?_; rintro e w2 ⟨rfl, hx2, hb2⟩; have HT0 := hide (both_new HD1.out hb1' hx2 hb2 HSz.out); have hb2' := hb1.trans (hb2.mono hb1.size); clear hx2)
    | (go_at_call 8; refine (HNew.out _).mono ?_; rintro e w1 ⟨rfl, hd1, hb1'⟩; have HD1 := hide hd1; have hb1 := hba.trans (hb1'.mono hba.size); clear hd1)
    | (go_at_call 7; refine (dkawake_any _).mono ?_; rintro e wa ⟨rfl, hba⟩))
  clear hb1' hb2
  have hsa := hba.size
  go_loopw [26] (fun i wr => ∃ (k : Nat) (bs : List Int) (syn : Nat), k ≤ len1 ∧ i = .int .i64 k ∧ Both wr wa.heap.size wa.heap.size w1.heap.size size bs syn ∧ Below w.heap.size w wr) (fun i _ => len1 - (intOf i).toNat)
  case atStart => exact ⟨0, [], 0, Nat.zero_le _, rfl, HT0.out, hb2'⟩
  case round =>
    obtain ⟨k, bs, syn, hk, rfl, htwo, hb⟩ := hrel
    have HT := hide htwo
    have hsz := hb.size
    have hdl := htwo.d.at
    have hxl := htwo.x.at
    have HN1 := hide htwo.h1
    have HN2 := hide htwo.h2
    have HN3 := hide htwo.h3
    clear htwo
    by_cases hlt : k < len1
    · obtain ⟨g, off, rfl, hg, hc⟩ := HV.out.at hlt
      have hk' : k < x1.length := by rw [HV.out.1]; exact hlt
      have hpok := HV.out.2.2.2.1 _ (deed_mem x1 k hk')
      have hcp := (hc k hk').below hb hg
      generalize x1.getD k deed0 = pt at *
      obtain ⟨pk, pa, pl, pc, pb, pn⟩ := pt
      obtain ⟨c0, c1, c2⟩ := hcp
      obtain ⟨⟨m1, m2⟩, hpB⟩ := hpok
      clear hc hk'
      dsimp only at *
      have HPB := hide hpB
      have hpm : (pl : Int) ≤ 9223372036854775807 := by have := hpB.2.1; have := hpB.2.2.1; unfold maxLen at this; omega
      clear hpB
      have HW1 := hide (new_below wr (.cells #[.int .i64 pk, .slice pa pl pc, .int .i64 pn] 30))
      by_cases h200 : (200 : Int) < (pl : Int)
      · go_wp2
        go_ret
        exact ⟨rfl, hb.alloc hsz _⟩
      have HPR : Hid (∀ c ∈ pb, 0 ≤ c ∧ c < 256) := HPB.out.2.2.2.1
      have HPS : Hid (∀ w', Below w.heap.size w w' → SrcB w' pa pl pb) := fun w' hw => (HPB.out.keep hw).src
      have hpl : pl ≤ 1000000000 := by omega
      have hs9 : size ≤ 1000000000 := by have := HN3.out; omega
      have HBF : Hid (bs.length ≤ 1000000000) := by have := HN2.out; show _ ≤ _; omega
      have HBW := hide (HT.out.keep HW1.out)
      have hbW := hb.trans (HW1.out.mono hsz)
      clear m1 m2
      by_cases h0 : pk = 0
      · subst h0
        have HA := hide (fun w h hs hb => dapp_any wa.heap.size wa.heap.size size bs syn pa pl pc pb w h hs hs9 HN2.out hpl hb)
        have HX := hide (fun w h hs hb => xapp_any wa.heap.size w1.heap.size size bs syn pa pl pc pb w h hs HPR.out hs9 HN2.out hpl hb)
        have HNum := hide (dapp_num size bs pb syn HN1.out HN2.out)
        generalize dapp size bs pb = rr at *
        obtain ⟨er, bs'⟩ := rr
        dsimp only at *
        go_wp2
        go_region_held (fun w' => w'.cell? ⟨wr.heap.size, 1, none⟩ = some (.slice pa pl pc)) (first | go_keep | exact hbox3 | exact hbox2) (first
          | (go_at_call 10; refine (HA.out _ HBW.out.d.drew (HPS.out _ hbW.drew) HBW.out.base).mono ?_; rintro e w2 ⟨rfl, hd2, hp2⟩; have hp2 := hp2.drew; have HD2 := hide hd2; have HP2 := hide hp2; have hbox2 := (hp2.cell (g := wr.heap.size) (j := 1) (by simp) (HT.out.newD HW1.out (Nat.le_refl _))).trans (show _ = some (Value.slice pa pl pc) by simp); have hb2' := hbW.trans ((HBW.out.d.below hp2 HBW.out.base).mono hsa); have hlb2 : wr.heap.size < w2.heap.size := World.block_lt_of_cell? _ ⟨wr.heap.size, 1, none⟩ hbox2; clear hd2 hp2)
          | (go_at_call 11; refine (HX.out _ (HBW.out.mid HP2.out) (HPS.out _ hb2') (Nat.le_trans HBW.out.base HP2.out.size)).mono ?_; rintro e w3 ⟨rfl, hd3, hp3⟩; have HT3 := hide (HBW.out.next HP2.out HD2.out hp3 hd3 HNum.out.1 HNum.out.2); have hbox3 := (hp3.cell (g := wr.heap.size) (j := 1) hlb2 (HT.out.newX HW1.out HP2.out (Nat.le_refl _))).trans hbox2; have hb3' := hbW.trans ((HBW.out.below HP2.out hp3).mono hsa); clear hd3 hp3))
        all_goals
          obtain ⟨sa, sn, sc, hx0, hx1, hxB⟩ := HT3.out.xs
          have q0 := (show IsBytes w3.drew sa sn sc bs' from hxB).conv
          have HXB := hide hxB
          have HF3 := hide HT3.out.few
          clear hxB
          go_wp2
          go_region_held (fun w' => w'.cell? ⟨w1.heap.size, 0, none⟩ = some (.slice sa sn sc) ∧ w'.cell? ⟨w1.heap.size, 1, none⟩ = some (.int .i64 (syn : Int))) (first | go_keep | exact ⟨hx0', hx1'⟩) (first
            | (go_at_call 20; refine (dbytes_any wa.heap.size wa.heap.size size bs' syn _ HT3.out.d.drew HF3.out).mono ?_; rintro e w6 ⟨v6, rfl, hown6, hb6⟩; have hb6u := below_undrew hb6; have q6 := hown6.holds.conv; have q7 := (HXB.out.keep hb6u).conv; have hx0' := (hb6u.cell (p := ⟨w1.heap.size, 0, none⟩) HT3.out.x.at).trans hx0; have hx1' := (hb6u.cell (p := ⟨w1.heap.size, 1, none⟩) HT3.out.x.at).trans hx1; have HT6 := hide (HT3.out.keep hb6u); have hb6' := hb3'.trans (hb6u.mono hb3'.size); clear hown6 hb6 hb6u)
            | (go_at_call 21; refine (dsynced_any wa.heap.size wa.heap.size size bs' syn _ HT6.out.d).mono ?_; rintro e w' ⟨rfl, hw⟩; have hw := hw.symm; subst hw))
          all_goals
            go_wp2
            go_roundw
            case rel => exact ⟨k + 1, bs', syn, by omega, by go_num, HT6.out, hb6'⟩
            case measure => simp [intOf]; omega
      have h0' : (pk == 0) = false := by simp [h0]
      by_cases h1 : pk = 1
      · subst h1
        have HA := hide (fun w h => dsync_any wa.heap.size wa.heap.size size bs syn w h HBF.out)
        have HX := hide (fun w h => xsync_any wa.heap.size w1.heap.size size bs syn w h HBF.out)
        obtain ⟨syn', HSy⟩ : ∃ syn', Hid (bs.length = syn') := ⟨_, rfl⟩
        rw [HSy.out] at HA HX
        go_wp2_with (first
          | (go_at_call 12; refine (HA.out _ HBW.out.d).mono ?_; rintro e w2 ⟨rfl, hd2, hp2⟩; have HD2 := hide hd2; have HP2 := hide hp2; have hb2' := hbW.trans ((HBW.out.d.below hp2 HBW.out.base).mono hsa); clear hd2 hp2)
          | (go_at_call 13; refine (HX.out _ (HBW.out.mid HP2.out)).mono ?_; rintro e w3 ⟨rfl, hd3, hp3⟩; have HT3 := hide (HBW.out.next HP2.out HD2.out hp3 hd3 (Nat.le_of_eq HSy.out.symm) HN2.out); have hb3' := hbW.trans ((HBW.out.below HP2.out hp3).mono hsa); clear hd3 hp3))
        obtain ⟨sa, sn, sc, hx0, hx1, hxB⟩ := HT3.out.xs
        have q0 := (show IsBytes w3.drew sa sn sc bs from hxB).conv
        have HXB := hide hxB
        have HF3 := hide HT3.out.few
        clear hxB
        go_wp2
        go_region_held (fun w' => w'.cell? ⟨w1.heap.size, 0, none⟩ = some (.slice sa sn sc) ∧ w'.cell? ⟨w1.heap.size, 1, none⟩ = some (.int .i64 (syn' : Int))) (first | go_keep | exact ⟨hx0', hx1'⟩) (first
          | (go_at_call 20; refine (dbytes_any wa.heap.size wa.heap.size size bs syn' _ HT3.out.d.drew HF3.out).mono ?_; rintro e w6 ⟨v6, rfl, hown6, hb6⟩; have hb6u := below_undrew hb6; have q6 := hown6.holds.conv; have q7 := (HXB.out.keep hb6u).conv; have hx0' := (hb6u.cell (p := ⟨w1.heap.size, 0, none⟩) HT3.out.x.at).trans hx0; have hx1' := (hb6u.cell (p := ⟨w1.heap.size, 1, none⟩) HT3.out.x.at).trans hx1; have HT6 := hide (HT3.out.keep hb6u); have hb6' := hb3'.trans (hb6u.mono hb3'.size); clear hown6 hb6 hb6u)
          | (go_at_call 21; refine (dsynced_any wa.heap.size wa.heap.size size bs syn' _ HT6.out.d).mono ?_; rintro e w' ⟨rfl, hw⟩; have hw := hw.symm; subst hw))
        all_goals
          go_wp2
          go_roundw
          case rel => exact ⟨k + 1, bs, syn', by omega, by go_num, HT6.out, hb6'⟩
          case measure => simp [intOf]; omega
      have h1' : (pk == 1) = false := by simp [h1]
      by_cases h2 : pk = 2
      · subst h2
        have HA := hide (fun w h hs hb => dswap_any wa.heap.size wa.heap.size size bs syn pa pl pc pb w h hs hpl hb)
        have HX := hide (fun w h hs hb => xswap_any wa.heap.size w1.heap.size size bs syn pa pl pc pb w h hs HPR.out hpl hb)
        have HNum := hide (dswap_num size bs syn pb HN1.out HN2.out)
        generalize dswap size bs syn pb = rr at *
        obtain ⟨er, bs', syn'⟩ := rr
        dsimp only at *
        go_wp2
        go_region_held (fun w' => w'.cell? ⟨wr.heap.size, 1, none⟩ = some (.slice pa pl pc)) (first | go_keep | exact hbox3 | exact hbox2) (first
          | (go_at_call 14; refine (HA.out _ HBW.out.d.drew (HPS.out _ hbW.drew) HBW.out.base).mono ?_; rintro e w2 ⟨rfl, hd2, hp2⟩; have hp2 := hp2.drew; have HD2 := hide hd2; have HP2 := hide hp2; have hbox2 := (hp2.cell (g := wr.heap.size) (j := 1) (by simp) (HT.out.newD HW1.out (Nat.le_refl _))).trans (show _ = some (Value.slice pa pl pc) by simp); have hb2' := hbW.trans ((HBW.out.d.below hp2 HBW.out.base).mono hsa); have hlb2 : wr.heap.size < w2.heap.size := World.block_lt_of_cell? _ ⟨wr.heap.size, 1, none⟩ hbox2; clear hd2 hp2)
          | (go_at_call 15; refine (HX.out _ (HBW.out.mid HP2.out) (HPS.out _ hb2') (Nat.le_trans HBW.out.base HP2.out.size)).mono ?_; rintro e w3 ⟨rfl, hd3, hp3⟩; have HT3 := hide (HBW.out.next HP2.out HD2.out hp3 hd3 HNum.out.1 HNum.out.2); have hbox3 := (hp3.cell (g := wr.heap.size) (j := 1) hlb2 (HT.out.newX HW1.out HP2.out (Nat.le_refl _))).trans hbox2; have hb3' := hbW.trans ((HBW.out.below HP2.out hp3).mono hsa); clear hd3 hp3))
        all_goals
          obtain ⟨sa, sn, sc, hx0, hx1, hxB⟩ := HT3.out.xs
          have q0 := (show IsBytes w3.drew sa sn sc bs' from hxB).conv
          have HXB := hide hxB
          have HF3 := hide HT3.out.few
          clear hxB
          go_wp2
          go_region_held (fun w' => w'.cell? ⟨w1.heap.size, 0, none⟩ = some (.slice sa sn sc) ∧ w'.cell? ⟨w1.heap.size, 1, none⟩ = some (.int .i64 (syn' : Int))) (first | go_keep | exact ⟨hx0', hx1'⟩) (first
            | (go_at_call 20; refine (dbytes_any wa.heap.size wa.heap.size size bs' syn' _ HT3.out.d.drew HF3.out).mono ?_; rintro e w6 ⟨v6, rfl, hown6, hb6⟩; have hb6u := below_undrew hb6; have q6 := hown6.holds.conv; have q7 := (HXB.out.keep hb6u).conv; have hx0' := (hb6u.cell (p := ⟨w1.heap.size, 0, none⟩) HT3.out.x.at).trans hx0; have hx1' := (hb6u.cell (p := ⟨w1.heap.size, 1, none⟩) HT3.out.x.at).trans hx1; have HT6 := hide (HT3.out.keep hb6u); have hb6' := hb3'.trans (hb6u.mono hb3'.size); clear hown6 hb6 hb6u)
            | (go_at_call 21; refine (dsynced_any wa.heap.size wa.heap.size size bs' syn' _ HT6.out.d).mono ?_; rintro e w' ⟨rfl, hw⟩; have hw := hw.symm; subst hw))
          all_goals
            go_wp2
            go_roundw
            case rel => exact ⟨k + 1, bs', syn', by omega, by go_num, HT6.out, hb6'⟩
            case measure => simp [intOf]; omega
      have h2' : (pk == 2) = false := by simp [h2]
      by_cases h3 : pk = 3
      · subst h3
        have HA := hide (fun w h => dcut_any wa.heap.size wa.heap.size size bs syn pn w h HBF.out)
        have HX := hide (fun w h hb => xcut_any wa.heap.size w1.heap.size size bs syn pn w h HBF.out hb)
        have HNum := hide (dcut_num size bs syn pn HN1.out HN2.out)
        generalize dcut bs syn pn = rr at *
        obtain ⟨er, bs', syn'⟩ := rr
        dsimp only at *
        go_wp2
        go_region_held (fun w' => w'.cell? ⟨wr.heap.size, 2, none⟩ = some (.int .i64 pn)) (first | go_keep | exact hbox3 | exact hbox2) (first
          | (go_at_call 16; refine (HA.out _ HBW.out.d.drew).mono ?_; rintro e w2 ⟨rfl, hd2, hp2⟩; have hp2 := hp2.drew; have HD2 := hide hd2; have HP2 := hide hp2; have hbox2 := (hp2.cell (g := wr.heap.size) (j := 2) (by simp) (HT.out.newD HW1.out (Nat.le_refl _))).trans (show _ = some (Value.int .i64 pn) by simp); have hb2' := hbW.trans ((HBW.out.d.below hp2 HBW.out.base).mono hsa); have hlb2 : wr.heap.size < w2.heap.size := World.block_lt_of_cell? _ ⟨wr.heap.size, 2, none⟩ hbox2; clear hd2 hp2)
          | (go_at_call 17; refine (HX.out _ (HBW.out.mid HP2.out) (Nat.le_trans HBW.out.base HP2.out.size)).mono ?_; rintro e w3 ⟨rfl, hd3, hp3⟩; have HT3 := hide (HBW.out.next HP2.out HD2.out hp3 hd3 HNum.out.1 HNum.out.2); have hbox3 := (hp3.cell (g := wr.heap.size) (j := 2) hlb2 (HT.out.newX HW1.out HP2.out (Nat.le_refl _))).trans hbox2; have hb3' := hbW.trans ((HBW.out.below HP2.out hp3).mono hsa); clear hd3 hp3))
        all_goals
          obtain ⟨sa, sn, sc, hx0, hx1, hxB⟩ := HT3.out.xs
          have q0 := (show IsBytes w3.drew sa sn sc bs' from hxB).conv
          have HXB := hide hxB
          have HF3 := hide HT3.out.few
          clear hxB
          go_wp2
          go_region_held (fun w' => w'.cell? ⟨w1.heap.size, 0, none⟩ = some (.slice sa sn sc) ∧ w'.cell? ⟨w1.heap.size, 1, none⟩ = some (.int .i64 (syn' : Int))) (first | go_keep | exact ⟨hx0', hx1'⟩) (first
            | (go_at_call 20; refine (dbytes_any wa.heap.size wa.heap.size size bs' syn' _ HT3.out.d.drew HF3.out).mono ?_; rintro e w6 ⟨v6, rfl, hown6, hb6⟩; have hb6u := below_undrew hb6; have q6 := hown6.holds.conv; have q7 := (HXB.out.keep hb6u).conv; have hx0' := (hb6u.cell (p := ⟨w1.heap.size, 0, none⟩) HT3.out.x.at).trans hx0; have hx1' := (hb6u.cell (p := ⟨w1.heap.size, 1, none⟩) HT3.out.x.at).trans hx1; have HT6 := hide (HT3.out.keep hb6u); have hb6' := hb3'.trans (hb6u.mono hb3'.size); clear hown6 hb6 hb6u)
            | (go_at_call 21; refine (dsynced_any wa.heap.size wa.heap.size size bs' syn' _ HT6.out.d).mono ?_; rintro e w' ⟨rfl, hw⟩; have hw := hw.symm; subst hw))
          all_goals
            go_wp2
            go_roundw
            case rel => exact ⟨k + 1, bs', syn', by omega, by go_num, HT6.out, hb6'⟩
            case measure => simp [intOf]; omega
      have h3' : (pk == 3) = false := by simp [h3]
      have HA := hide (fun w h hs => dcrash_any wa.heap.size wa.heap.size size bs syn pn pa pl pc pb w h hs hpl HBF.out HN1.out)
      have HX := hide (fun w h hs hb => xcrash_any wa.heap.size w1.heap.size size bs syn pn pa pl pc pb w h hs HPR.out hpl HBF.out HN1.out hb)
      have HNum := hide (Nat.le_trans (crashL_length bs syn pn pb HN1.out).2 HN2.out)
      generalize crashL bs syn pn pb = bs' at *
      obtain ⟨syn', HSy⟩ : ∃ syn', Hid (bs'.length = syn') := ⟨_, rfl⟩
      rw [HSy.out] at HA HX
      go_wp2_with (first
        | (go_at_call 18; refine (HA.out _ HBW.out.d (HPS.out _ hbW)).mono ?_; rintro e w2 ⟨rfl, hd2, hp2⟩; have HD2 := hide hd2; have HP2 := hide hp2; have hbox2 := (hp2.cell (g := wr.heap.size) (j := 1) (by simp) (HT.out.newD HW1.out (Nat.le_refl _))).trans (show _ = some (Value.slice pa pl pc) by simp); have hbox3 := (hp2.cell (g := wr.heap.size) (j := 2) (by simp) (HT.out.newD HW1.out (Nat.le_refl _))).trans (show _ = some (Value.int .i64 pn) by simp); have hb2' := hbW.trans ((HBW.out.d.below hp2 HBW.out.base).mono hsa); clear hd2 hp2)
        | (go_at_call 19; refine (HX.out _ (HBW.out.mid HP2.out) (HPS.out _ hb2') (Nat.le_trans HBW.out.base HP2.out.size)).mono ?_; rintro e w3 ⟨rfl, hd3, hp3⟩; have HT3 := hide (HBW.out.next HP2.out HD2.out hp3 hd3 (Nat.le_of_eq HSy.out.symm) HNum.out); have hb3' := hbW.trans ((HBW.out.below HP2.out hp3).mono hsa); clear hd3 hp3))
      obtain ⟨sa, sn, sc, hx0, hx1, hxB⟩ := HT3.out.xs
      have q0 := (show IsBytes w3.drew sa sn sc bs' from hxB).conv
      have HXB := hide hxB
      have HF3 := hide HT3.out.few
      clear hxB
      go_wp2
      go_region_held (fun w' => w'.cell? ⟨w1.heap.size, 0, none⟩ = some (.slice sa sn sc) ∧ w'.cell? ⟨w1.heap.size, 1, none⟩ = some (.int .i64 (syn' : Int))) (first | go_keep | exact ⟨hx0', hx1'⟩) (first
        | (go_at_call 20; refine (dbytes_any wa.heap.size wa.heap.size size bs' syn' _ HT3.out.d.drew HF3.out).mono ?_; rintro e w6 ⟨v6, rfl, hown6, hb6⟩; have hb6u := below_undrew hb6; have q6 := hown6.holds.conv; have q7 := (HXB.out.keep hb6u).conv; have hx0' := (hb6u.cell (p := ⟨w1.heap.size, 0, none⟩) HT3.out.x.at).trans hx0; have hx1' := (hb6u.cell (p := ⟨w1.heap.size, 1, none⟩) HT3.out.x.at).trans hx1; have HT6 := hide (HT3.out.keep hb6u); have hb6' := hb3'.trans (hb6u.mono hb3'.size); clear hown6 hb6 hb6u)
        | (go_at_call 21; refine (dsynced_any wa.heap.size wa.heap.size size bs' syn' _ HT6.out.d).mono ?_; rintro e w' ⟨rfl, hw⟩; have hw := hw.symm; subst hw))
      all_goals
        go_wp2
        go_roundw
        case rel => exact ⟨k + 1, bs', syn', by omega, by go_num, HT6.out, hb6'⟩
        case measure => simp [intOf]; omega
    · have hkl : k = len1 := by omega
      subst hkl
      go_wp2
      go_ret
      exact ⟨rfl, hb⟩

set_option maxRecDepth 100000 in
theorem lifted (os : Os) (started : os.Started) (H : Type) (enc : TypeId × Value → H) :
    ReturnsInHanded {} Try.checked os 3 .any (Rows.diskDoesSpec.pre6 enc Try.prog Try.f3 Rows.diskDoesRow.domain false) (Rows.diskDoesSpec.post enc Try.prog Try.f3 false true false false) := by
  refine returnsInHanded_of_change (C := Try.checked) own started (by kernel_rfl) Try.func3
    (ChangeSpec.witness6 (enc := enc) (C := Try.checked) false ⟨#[], #[.int .i64 0, .slice none 0 0], []⟩ 8 (by kernel_rfl) (by kernel_rfl) (by kernel_rfl) (by kernel_rfl)) ?_
  intro W base args ds gs before hval0 hW hcnd _
  have hval : ∀ (j : Nat) t v, Try.f3.params[j]? = some t → args[j]? = some v → Value.okWide Try.prog W .any base t v := hval0
  have hW' := hW
  obtain ⟨p, q, hA0, hV, rfl, hfz, hnd⟩ := hW
  have hA : DataW.TrodAll enc Try.prog W 0 (fun _ => true) true Try.f3.params.toList args.toList ds p := hA0
  rw [Try.params3] at hA hval
  obtain ⟨v0, vs0, d0, ds0, p0, q0, hargs, rfl, rfl, h0, r0⟩ := trodAll_cons hA
  obtain ⟨v1, vs1, d1, ds1, p1, q1, rfl, rfl, rfl, h1, r1⟩ := trodAll_cons r0
  obtain ⟨rfl, rfl, rfl⟩ := trodAll_nil r1
  obtain rfl : args = #[v0, v1] := by cases args; simp_all
  obtain ⟨rfl, rfl⟩ := trodVars_none hV
  have k0 := h0
  have lt0 : ∀ x ∈ p0, x.block < W.heap.size := by obtain ⟨m, hm⟩ := k0; exact DataW.trod_lt m _ _ _ hm
  obtain ⟨a0, rfl, w0⟩ : ∃ n, v0 = .int .i64 n ∧ (Lit.int .i64 n).wf = true := by
    obtain ⟨n, hn, _, _, hw⟩ := open_int Try.underlying3 (hval 0 3 v0 rfl rfl) h0
    exact ⟨n, hn, hw⟩
  obtain ⟨a1, len1, cap1, rfl⟩ := okWide_slice Try.underlying22 (hval 1 22 v1 rfl rfl)
  have k1 := h1
  have lt1 : ∀ x ∈ p1, x.block < W.heap.size := by obtain ⟨m, hm⟩ := k1; exact DataW.trod_lt m _ _ _ hm
  obtain ⟨x1, w1⟩ : ∃ xs, IsDeeds W a1 len1 cap1 xs := by
    obtain ⟨fuel, hf⟩ := h1
    exact open_deeds (by simpa [Value.cells] using hf)
  clear hA0 hval0
  refine (walk a0 a1 len1 cap1 x1 W w0 w1).mono fun e W' ⟨he, bel⟩ => ?_
  subst he
  exact ⟨_, rfl, _, _, _, [], _, [], hW', trodAll_mk1 (shut_bool Try.underlying4 _), (trodAll_cons_mk (Below.trod laidOut (by kernel_rfl) (of_decide_eq_true (by kernel_rfl)) k0 bel lt0) (trodAll_cons_mk (Below.trod laidOut (by kernel_rfl) (of_decide_eq_true (by kernel_rfl)) k1 bel lt1) trodAll_mk0)), rfl, bel.frame _, fun h => by cases h⟩

theorem over : Rows.diskDoesRow.holds Try.pinned (OpenSpec.ofChange Rows.diskDoesSpec) :=
  OpenClaim.holds_of_wide 3 Try.f3 rfl rfl rfl rfl rfl rfl rfl ⟨rfl, rfl, rfl, rfl, rfl⟩ rfl rfl rfl rfl rfl (by kernel_rfl) Try.func3 (by kernel_rfl)
    (of_decide_eq_true (by kernel_rfl)) (by unfold Func.isWrapper; first | (rw [if_pos (by decide +kernel)]; kernel_rfl) | (rw [if_neg (by decide +kernel)]; exact ⟨rfl, rfl⟩))
    (fun os started H enc _ => lifted os started H enc)

theorem proved : Rows.DiskDoesSaid := over
end Go.Proofs.Ytgoojljbilphkaa.diskDoes
namespace Go.Proofs.Ytgoojljbilphkaa
theorem diskDoes_holds : Rows.DiskDoesSaid := diskDoes.proved
#print axioms diskDoes_holds
end Go.Proofs.Ytgoojljbilphkaa
