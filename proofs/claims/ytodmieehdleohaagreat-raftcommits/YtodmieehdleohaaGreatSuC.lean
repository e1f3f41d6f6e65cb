/- partitionOrdered at numbers. What pdqsort keeps from round to round. pdqsortOrdered at fewer than 50 numbers, slices.Sort. -/
import Derived.Test.YtodmieehdleohaaGreatSuB
namespace Go.Proofs.YtodmieehdleohaaGreat
open Go.RowKit NumMath
set_option linter.unusedVariables false
set_option maxRecDepth 100000

structure PA (a b i j : Nat) (p : Int) (ys : List Int) : Prop where
  i0 : a + 1 ≤ i
  ij : i ≤ j + 1
  jb : j < b
  pa : ys.getD a 0 = p
  lo : ∀ k, a < k → k < i → ys.getD k 0 < p
  hi : ∀ k, j < k → k < b → p ≤ ys.getD k 0

theorem PA.up {a b i j : Nat} {p : Int} {ys : List Int} (h : PA a b i j p ys) (hij : i ≤ j) (hv : ys.getD i 0 < p) : PA a b (i + 1) j p ys :=
  ⟨by have := h.i0; omega, by omega, h.jb, h.pa, fun k h1 h2 => by
    by_cases e : k = i
    · subst e; omega
    · exact h.lo k h1 (by omega), h.hi⟩

theorem PA.down {a b i j : Nat} {p : Int} {ys : List Int} (h : PA a b i (j + 1) p ys) (hij : i ≤ j + 1) (hv : ¬ ys.getD (j + 1) 0 < p) : PA a b i j p ys :=
  ⟨h.i0, by omega, by have := h.jb; omega, h.pa, h.lo, fun k h1 h2 => by
    by_cases e : k = j + 1
    · subst e; omega
    · exact h.hi k (by omega) h2⟩

theorem PA.swap {a b i j : Nat} {p : Int} {ys : List Int} (h : PA a b i (j + 1) p ys) (hl : b ≤ ys.length) (hij : i ≤ j + 1) (hi : ¬ ys.getD i 0 < p) (hj : ys.getD (j + 1) 0 < p) : PA a b (i + 1) j p (swapL ys i (j + 1)) := by
  have hne : i ≠ j + 1 := fun e => by rw [e] at hi; exact hi hj
  have := h.i0
  have := h.jb
  have sg := fun k => swap_get ys i (j + 1) k (by omega) (by omega)
  refine ⟨by omega, by omega, by omega, ?_, ?_, ?_⟩
  · rw [sg, if_neg (by omega), if_neg (by omega)]; exact h.pa
  · intro k h1 h2
    rw [sg, if_neg (by omega)]
    by_cases e : k = i
    · rw [if_pos e]; omega
    · rw [if_neg e]; exact h.lo k h1 (by omega)
  · intro k h1 h2
    rw [sg]
    by_cases e : k = j + 1
    · rw [if_pos e]; omega
    · rw [if_neg e, if_neg (by omega)]; exact h.hi k (by omega) h2

theorem pa_new {a b q : Nat} {xs : List Int} (hl : b ≤ xs.length) (hq : a ≤ q ∧ q < b) : PA a b (a + 1) (b - 1) (xs.getD q 0) (swapL xs a q) := by
  have sg := fun k => swap_get xs a q k (by omega) (by omega)
  have e : (swapL xs a q).getD a 0 = xs.getD q 0 := by
    rw [sg]
    by_cases e : a = q
    · rw [if_pos e, ← e]
    · rw [if_neg e, if_pos rfl]
  exact ⟨by omega, by omega, by omega, e, fun k h1 h2 => by omega, fun k h1 h2 => by omega⟩

/-- parted at m: below it what is less than what stands there, behind it the rest -/
def Parted (a b m : Nat) (ys : List Int) : Prop := (a ≤ m ∧ m < b) ∧ (∀ k, a ≤ k → k < m → ys.getD k 0 < ys.getD m 0) ∧ ∀ k, m < k → k < b → ys.getD m 0 ≤ ys.getD k 0

theorem PA.fin {a b i j : Nat} {p : Int} {ys : List Int} (h : PA a b i j p ys) (hl : b ≤ ys.length) (hij : j < i) : Parted a b j (swapL ys j a) := by
  have := h.i0
  have := h.ij
  have := h.jb
  have sg := fun k => swap_get ys j a k (by omega) (by omega)
  have ej : (swapL ys j a).getD j 0 = p := by
    rw [sg]
    by_cases e : j = a
    · rw [if_pos e, e]; exact h.pa
    · rw [if_neg e, if_pos rfl]; exact h.pa
  refine ⟨⟨by omega, by omega⟩, fun k h1 h2 => ?_, fun k h1 h2 => ?_⟩
  · rw [ej, sg]
    by_cases e : k = a
    · rw [if_pos e]; exact h.lo j (by omega) (by omega)
    · rw [if_neg e, if_neg (by omega)]; exact h.lo k (by omega) (by omega)
  · rw [ej, sg, if_neg (by omega), if_neg (by omega)]
    exact h.hi k h1 h2

def PartPost (w : World) (g n cap a b : Nat) (xs : List Int) (e : Ending) (w' : World) : Prop :=
  ∃ (m : Nat) (z : Bool), e = .returned (.tuple #[.int .i64 m, .bool z]) ∧ ∃ ys, RU w' g n cap ys ∧ Sh a b xs ys ∧ Parted a b m ys ∧ Keeps (fun k => k = g) w w'

set_option maxHeartbeats 2000000 in
theorem part_any (g n cap a b q : Nat) (xs : List Int) (w : World) (h : RU w g n cap xs) (hq : a ≤ q ∧ q < b) (hb : b ≤ n) (hn : n ≤ 1000000) :
    Calls Tryz.prog 177 #[.slice (some ⟨g, 0, none⟩) n cap, .int .i64 a, .int .i64 b, .int .i64 q] w fun e w' => PartPost w g n cap a b xs e w' := by
  have H := hide h
  have hxl := h.len
  have hqb : q < b := hq.2
  have ca := h.cell (i := a) (by omega)
  have cq := h.cell (i := q) (by omega)
  have fa := h.frozen a
  have fq := h.frozen q
  have HSw := hide (fun k => (h.drewN k).swap a q)
  have HSh := hide (Sh.swap (a := a) (b := b) (xs := xs) (i := a) (j := q) (by omega) ⟨by omega, by omega⟩ hq)
  have HPE := hide (pa_new (a := a) (b := b) (xs := xs) (by omega) hq)
  have c2 := (h.set a (xs.getD q 0)).cell (i := q) (by omega)
  obtain ⟨X, hX⟩ : ∃ v, xs.getD a 0 = v := ⟨_, rfl⟩
  obtain ⟨p, hY⟩ : ∃ v, xs.getD q 0 = v := ⟨_, rfl⟩
  rw [hX] at ca
  rw [hY] at cq c2
  rw [hX, hY] at HSw
  rw [hY] at HPE
  obtain ⟨v2, hv2⟩ : ∃ v, (xs.set a p).getD q 0 = v := ⟨_, rfl⟩
  rw [hv2] at c2
  have ian : (a : Int) < (n : Int) := by omega
  have iqn : (q : Int) < (n : Int) := by omega
  obtain ⟨b1, hb1⟩ : ∃ b1 : Nat, b1 = b - 1 := ⟨_, rfl⟩
  have eb1 : (b : Int) - 1 = (b1 : Int) := by omega
  rw [← hb1] at HPE
  have HB1 := hide hb1
  have hb1b : b1 < 1000000 := by omega
  clear h hX hY hv2 hb1
  go_enter Tryz.func177, Tryz.ntmps177
  go_wp2
  go_region
  have hR := HSw.out 1
  have hK := ((Keeps.refl (fun k => k = g) w).drN 1).set2 (i := a) (j := q) (.int .u64 p) (.int .u64 X)
  have hS := HSh.out
  have hP := HPE.out
  obtain ⟨ys, hys⟩ : ∃ ys, swapL xs a q = ys := ⟨_, rfl⟩
  rw [hys] at hR hS hP
  have hR : RU ((w.setCell ⟨g, a, none⟩ (.int .u64 p)).setCell ⟨g, q, none⟩ (.int .u64 X)).drew g n cap ys := hR
  have hK : Keeps (fun k => k = g) w ((w.setCell ⟨g, a, none⟩ (.int .u64 p)).setCell ⟨g, q, none⟩ (.int .u64 X)).drew := hK
  generalize ((w.setCell ⟨g, a, none⟩ (.int .u64 p)).setCell ⟨g, q, none⟩ (.int .u64 X)).drew = wr at *
  have HR := hide hR
  have HS := hide hS
  have HP := hide hP
  have HK := hide hK
  have hyl := hR.len
  obtain ⟨i, hi⟩ : ∃ i : Nat, i = a + 1 := ⟨_, rfl⟩
  have eai : (a : Int) + 1 = (i : Int) := by omega
  rw [← hi] at HP
  obtain ⟨j, hj⟩ : ∃ j : Nat, b1 = j := ⟨_, rfl⟩
  subst hj
  have hi0 := HP.out.i0
  have hij0 := HP.out.ij
  have hjb := HP.out.jb
  have hwi : IntKind.i64.wrap (i : Int) = (i : Int) := kw_nat i (by omega)
  have hwj : IntKind.i64.wrap (b1 : Int) = (b1 : Int) := kw_nat b1 (by omega)
  clear hR hS hP hK HSw HSh HPE H ca cq fa fq c2 hys hi
  go_upto_block 0 with fail
  go_cut [10] (fun s9 wx => ∃ i' : Nat, s9 = .int .i64 i' ∧ i ≤ i' ∧ PA a b i' b1 p ys ∧ (i' ≤ b1 → ¬ ys.getD i' 0 < p) ∧ RU wx g n cap ys ∧ Keeps (fun k => k = g) w wx)
  case first =>
    go_wp2_with fail
    go_loopg [10] (b1 + 1 - i) (fun gk s9 wx => ∃ i' : Nat, gk = b1 + 1 - i' ∧ s9 = .int .i64 i' ∧ i ≤ i' ∧ PA a b i' b1 p ys ∧ RU wx g n cap ys ∧ Keeps (fun k => k = g) w wx)
    case atStart => exact ⟨i, rfl, rfl, Nat.le_refl _, HP.out, HR.out, HK.out⟩
    case round =>
      clear HR HP HK
      obtain ⟨i', rfl, rfl, hii, hP, hR, hK⟩ := hrel
      have HR := hide hR
      have HP := hide hP
      have HK := hide hK
      have hij1 := hP.ij
      clear hR hP hK
      by_cases hij : i' ≤ b1
      · have hgd : decide ((i' : Int) ≤ (b1 : Int)) = true := by simp; omega
        have hgd2 : decide (i' ≤ b1) = true := by simp; omega
        have ca := HR.out.cell (i := a) (by omega)
        rw [HP.out.pa] at ca
        have ci := HR.out.cell (i := i') (by omega)
        have HUp := hide (fun hv => HP.out.up hij hv)
        obtain ⟨X, hX⟩ : ∃ v, ys.getD i' 0 = v := ⟨_, rfl⟩
        rw [hX] at ci HUp
        have HX := hide hX
        obtain ⟨z, hz⟩ : ∃ z : Bool, decide (X < p) = z := ⟨_, rfl⟩
        have HL := hide (less_any X p)
        rw [hz] at HL
        have i1 : (i' : Int) < (n : Int) := by omega
        clear hX
        go_wp2
        go_quiet (first | (go_at_call 175; refine Calls.quiet_of_same (HL.out _)))
        cases z
        · have hpX : ¬ X < p := by simpa using hz
          go_wp2
          go_meet
          exact ⟨i', rfl, hii, HP.out, fun _ => by rw [HX.out]; exact hpX, HR.out.drewN _, HK.out.drN _⟩
        · have hpX : X < p := by simpa using hz
          have HU := hide (HUp.out (by first | exact hpX | omega))
          go_wp2
          go_roundg (b1 + 1 - (i' + 1))
          case measure => omega
          case rel => exact ⟨i' + 1, rfl, by go_num, by omega, HU.out, HR.out.drewN _, HK.out.drN _⟩
      · have hgd : decide ((i' : Int) ≤ (b1 : Int)) = false := by simp; omega
        have hgd2 : decide (i' ≤ b1) = false := by simp; omega
        go_wp2
        go_quiet (first | fail)
        go_wp2
        go_meet
        exact ⟨i', rfl, hii, HP.out, fun h => absurd h hij, HR.out.drewN _, HK.out.drN _⟩
  case rest =>
    clear HR HP HK hij0
    obtain ⟨i', rfl, hii, hP, hv, hR, hK⟩ := hcut
    have HR := hide hR
    have HP := hide hP
    have HV := hide hv
    have HK := hide hK
    have hij0 := hP.ij
    clear hR hP hK hv
    go_upto_block 2 with fail
    go_cut [11] (fun s10 wx => ∃ j' : Nat, s10 = .int .i64 j' ∧ j' ≤ b1 ∧ PA a b i' j' p ys ∧ (i' ≤ j' → ¬ ys.getD i' 0 < p) ∧ (i' ≤ j' → ys.getD j' 0 < p) ∧ RU wx g n cap ys ∧ Keeps (fun k => k = g) w wx)
    case first =>
      go_wp2_with fail
      go_loopg [11] (b1 + 1 - i') (fun gk s10 wx => ∃ j' : Nat, gk = j' + 1 - i' ∧ s10 = .int .i64 j' ∧ j' ≤ b1 ∧ PA a b i' j' p ys ∧ RU wx g n cap ys ∧ Keeps (fun k => k = g) w wx)
      case atStart => exact ⟨b1, rfl, rfl, Nat.le_refl _, HP.out, HR.out, HK.out⟩
      case round =>
        clear HR HP HK
        obtain ⟨j', rfl, rfl, hjj, hP, hR, hK⟩ := hrel
        have HR := hide hR
        have HP := hide hP
        have HK := hide hK
        have hij1 := hP.ij
        clear hR hP hK
        by_cases hij : i' ≤ j'
        · obtain ⟨j2, hj2⟩ : ∃ j2 : Nat, j' = j2 + 1 := ⟨j' - 1, by omega⟩
          subst hj2
          have hgd : decide ((i' : Int) ≤ ((j2 + 1 : Nat) : Int)) = true := by simp; omega
          have hgd2 : decide (i' ≤ j2 + 1) = true := by simp; omega
          have hgd3 : decide ((i' : Int) ≤ (j2 : Int) + 1) = true := by simp; omega
          have ca := HR.out.cell (i := a) (by omega)
          rw [HP.out.pa] at ca
          have ci := HR.out.cell (i := j2 + 1) (by omega)
          have HDn := hide (fun hv => HP.out.down hij hv)
          obtain ⟨X, hX⟩ : ∃ v, ys.getD (j2 + 1) 0 = v := ⟨_, rfl⟩
          rw [hX] at ci HDn
          have HX := hide hX
          obtain ⟨z, hz⟩ : ∃ z : Bool, decide (X < p) = z := ⟨_, rfl⟩
          have HL := hide (less_any X p)
          rw [hz] at HL
          have i1 : (j2 : Int) + 1 < (n : Int) := by omega
          clear hX
          go_wp2
          go_quiet (first | (go_at_call 175; refine Calls.quiet_of_same (HL.out _)))
          cases z
          · have hpX : ¬ X < p := by simpa using hz
            have HU := hide (HDn.out (by first | exact hpX | omega))
            go_wp2
            go_roundg (j2 + 1 - i')
            case measure => omega
            case rel => exact ⟨j2, rfl, by go_num, by omega, HU.out, HR.out.drewN _, HK.out.drN _⟩
          · have hpX : X < p := by simpa using hz
            go_wp2
            go_meet
            exact ⟨j2 + 1, by go_num, hjj, HP.out, fun h => HV.out (by omega), fun _ => by rw [HX.out]; exact hpX, HR.out.drewN _, HK.out.drN _⟩
        · have hgd : decide ((i' : Int) ≤ (j' : Int)) = false := by simp; omega
          have hgd2 : decide (i' ≤ j') = false := by simp; omega
          go_wp2
          go_quiet (first | fail)
          go_wp2
          go_meet
          exact ⟨j', rfl, hjj, HP.out, fun h => absurd h hij, fun h => absurd h hij, HR.out.drewN _, HK.out.drN _⟩
    case rest =>
      clear HR HP HK hij0
      obtain ⟨j', rfl, hjj, hP, hv1, hv2, hR, hK⟩ := hcut
      have HR := hide hR
      have HP := hide hP
      have HV1 := hide hv1
      have HV2 := hide hv2
      have HK := hide hK
      have hij0 := hP.ij
      have hjb2 := hP.jb
      have hi02 := hP.i0
      clear hR hP hK hv1 hv2 HV
      by_cases hfin : (j' : Int) < (i' : Int)
      · have hfj : j' < i' := by omega
        have ca := HR.out.cell (i := a) (by omega)
        have cj := HR.out.cell (i := j') (by omega)
        have fa := HR.out.frozen a
        have fj := HR.out.frozen j'
        have HSw := hide (fun k => (HR.out.drewN k).swap j' a)
        have HS2 := hide (HS.out.trans (Sh.swap (xs := ys) (i := j') (j := a) (by omega) ⟨by omega, by omega⟩ ⟨by omega, by omega⟩))
        have HPt := hide (HP.out.fin (by omega) (by omega))
        have cj2 := (HR.out.set j' (ys.getD a 0)).cell (i := a) (by omega)
        obtain ⟨X, hX⟩ : ∃ v, ys.getD a 0 = v := ⟨_, rfl⟩
        obtain ⟨Y, hY⟩ : ∃ v, ys.getD j' 0 = v := ⟨_, rfl⟩
        rw [hX] at ca cj2
        rw [hY] at cj
        rw [hX, hY] at HSw
        obtain ⟨v2, hv2⟩ : ∃ v, (ys.set j' X).getD a 0 = v := ⟨_, rfl⟩
        rw [hv2] at cj2
        have i1 : (j' : Int) < (n : Int) := by omega
        clear hX hY hv2
        go_wp2
        go_region
        all_goals
          go_wp2
          go_ret2
          exact ⟨j', true, rfl, swapL ys j' a, HSw.out _, HS2.out, HPt.out, (HK.out.drN _).set2 _ _⟩
      · skip
        obtain ⟨j2, hj2⟩ : ∃ j2 : Nat, j' = j2 + 1 := ⟨j' - 1, by omega⟩
        subst hj2
        have HN := hide (HP.out.swap (by omega) (by omega) (HV1.out (by omega)) (HV2.out (by omega)))
        have hne : i' ≠ j2 + 1 := fun e => HV1.out (by omega) (by rw [e]; exact HV2.out (by omega))
        have e1 : ¬ i' = j2 + 1 := hne
        have e2 : ¬ j2 + 1 = i' := fun e => hne e.symm
        have cp := HR.out.cell (i := i') (by omega)
        have cq := HR.out.cell (i := j2 + 1) (by omega)
        have fp := HR.out.frozen i'
        have fq := HR.out.frozen (j2 + 1)
        have HSw := hide (fun k => (HR.out.drewN k).swap i' (j2 + 1))
        have HS2 := hide (HS.out.trans (Sh.swap (xs := ys) (i := i') (j := j2 + 1) (by omega) ⟨by omega, by omega⟩ ⟨by omega, by omega⟩))
        obtain ⟨X, hX⟩ : ∃ v, ys.getD i' 0 = v := ⟨_, rfl⟩
        obtain ⟨Y, hY⟩ : ∃ v, ys.getD (j2 + 1) 0 = v := ⟨_, rfl⟩
        rw [hX] at cp
        rw [hY] at cq
        rw [hX, hY] at HSw
        have i1 : (i' : Int) < (n : Int) := by omega
        have i2 : (j2 : Int) + 1 < (n : Int) := by omega
        clear hX hY HV1 HV2 hne
        go_wp2
        go_region
        go_wp2
        go_loopg [10, 11] (j2 + 1 - (i' + 1)) (fun gk s9 s10 wr => ∃ (i j : Nat) (ys : List Int), gk = j + 1 - i ∧ s9 = .int .i64 i ∧ s10 = .int .i64 j ∧ RU wr g n cap ys ∧ Sh a b xs ys ∧ PA a b i j p ys ∧ Keeps (fun k => k = g) w wr)
        case atStart => exact ⟨i' + 1, j2, swapL ys i' (j2 + 1), rfl, by go_num, by go_num, HSw.out _, HS2.out, HN.out, (HK.out.drN _).set2 _ _⟩
        case round =>
          clear HR HS HP HK HN HSw HS2 cp cq fp fq hij0 hjb2 hi02 hii hjj e1 e2 i1 i2 hfin
          obtain ⟨i, j, ys, rfl, rfl, rfl, hR, hS, hP, hK⟩ := hrel
          have HR := hide hR
          have HS := hide hS
          have HP := hide hP
          have HK := hide hK
          have hyl := hR.len
          have hi0 := hP.i0
          have hij0 := hP.ij
          have hjb := hP.jb
          clear hR hS hP hK
          go_upto_block 6 with fail
          go_cut [10] (fun s9 wx => ∃ i' : Nat, s9 = .int .i64 i' ∧ i ≤ i' ∧ PA a b i' j p ys ∧ (i' ≤ j → ¬ ys.getD i' 0 < p) ∧ RU wx g n cap ys ∧ Keeps (fun k => k = g) w wx)
          case first =>
            go_wp2_with fail
            go_loopg [10] (j + 1 - i) (fun gk s9 wx => ∃ i' : Nat, gk = j + 1 - i' ∧ s9 = .int .i64 i' ∧ i ≤ i' ∧ PA a b i' j p ys ∧ RU wx g n cap ys ∧ Keeps (fun k => k = g) w wx)
            case atStart => exact ⟨i, rfl, rfl, Nat.le_refl _, HP.out, HR.out, HK.out⟩
            case round =>
              clear HR HP HK
              obtain ⟨i', rfl, rfl, hii, hP, hR, hK⟩ := hrel
              have HR := hide hR
              have HP := hide hP
              have HK := hide hK
              have hij1 := hP.ij
              clear hR hP hK
              by_cases hij : i' ≤ j
              · have hgd : decide ((i' : Int) ≤ (j : Int)) = true := by simp; omega
                have hgd2 : decide (i' ≤ j) = true := by simp; omega
                have ca := HR.out.cell (i := a) (by omega)
                rw [HP.out.pa] at ca
                have ci := HR.out.cell (i := i') (by omega)
                have HUp := hide (fun hv => HP.out.up hij hv)
                obtain ⟨X, hX⟩ : ∃ v, ys.getD i' 0 = v := ⟨_, rfl⟩
                rw [hX] at ci HUp
                have HX := hide hX
                obtain ⟨z, hz⟩ : ∃ z : Bool, decide (X < p) = z := ⟨_, rfl⟩
                have HL := hide (less_any X p)
                rw [hz] at HL
                have i1 : (i' : Int) < (n : Int) := by omega
                clear hX
                go_wp2
                go_quiet (first | (go_at_call 175; refine Calls.quiet_of_same (HL.out _)))
                cases z
                · have hpX : ¬ X < p := by simpa using hz
                  go_wp2
                  go_meet
                  exact ⟨i', rfl, hii, HP.out, fun _ => by rw [HX.out]; exact hpX, HR.out.drewN _, HK.out.drN _⟩
                · have hpX : X < p := by simpa using hz
                  have HU := hide (HUp.out (by first | exact hpX | omega))
                  go_wp2
                  go_roundg (j + 1 - (i' + 1))
                  case measure => omega
                  case rel => exact ⟨i' + 1, rfl, by go_num, by omega, HU.out, HR.out.drewN _, HK.out.drN _⟩
              · have hgd : decide ((i' : Int) ≤ (j : Int)) = false := by simp; omega
                have hgd2 : decide (i' ≤ j) = false := by simp; omega
                go_wp2
                go_quiet (first | fail)
                go_wp2
                go_meet
                exact ⟨i', rfl, hii, HP.out, fun h => absurd h hij, HR.out.drewN _, HK.out.drN _⟩
          case rest =>
            clear HR HP HK hij0
            obtain ⟨i', rfl, hii, hP, hv, hR, hK⟩ := hcut
            have HR := hide hR
            have HP := hide hP
            have HV := hide hv
            have HK := hide hK
            have hij0 := hP.ij
            clear hR hP hK hv
            go_upto_block 8 with fail
            go_cut [11] (fun s10 wx => ∃ j' : Nat, s10 = .int .i64 j' ∧ j' ≤ j ∧ PA a b i' j' p ys ∧ (i' ≤ j' → ¬ ys.getD i' 0 < p) ∧ (i' ≤ j' → ys.getD j' 0 < p) ∧ RU wx g n cap ys ∧ Keeps (fun k => k = g) w wx)
            case first =>
              go_wp2_with fail
              go_loopg [11] (j + 1 - i') (fun gk s10 wx => ∃ j' : Nat, gk = j' + 1 - i' ∧ s10 = .int .i64 j' ∧ j' ≤ j ∧ PA a b i' j' p ys ∧ RU wx g n cap ys ∧ Keeps (fun k => k = g) w wx)
              case atStart => exact ⟨j, rfl, rfl, Nat.le_refl _, HP.out, HR.out, HK.out⟩
              case round =>
                clear HR HP HK
                obtain ⟨j', rfl, rfl, hjj, hP, hR, hK⟩ := hrel
                have HR := hide hR
                have HP := hide hP
                have HK := hide hK
                have hij1 := hP.ij
                clear hR hP hK
                by_cases hij : i' ≤ j'
                · obtain ⟨j2, hj2⟩ : ∃ j2 : Nat, j' = j2 + 1 := ⟨j' - 1, by omega⟩
                  subst hj2
                  have hgd : decide ((i' : Int) ≤ ((j2 + 1 : Nat) : Int)) = true := by simp; omega
                  have hgd2 : decide (i' ≤ j2 + 1) = true := by simp; omega
                  have hgd3 : decide ((i' : Int) ≤ (j2 : Int) + 1) = true := by simp; omega
                  have ca := HR.out.cell (i := a) (by omega)
                  rw [HP.out.pa] at ca
                  have ci := HR.out.cell (i := j2 + 1) (by omega)
                  have HDn := hide (fun hv => HP.out.down hij hv)
                  obtain ⟨X, hX⟩ : ∃ v, ys.getD (j2 + 1) 0 = v := ⟨_, rfl⟩
                  rw [hX] at ci HDn
                  have HX := hide hX
                  obtain ⟨z, hz⟩ : ∃ z : Bool, decide (X < p) = z := ⟨_, rfl⟩
                  have HL := hide (less_any X p)
                  rw [hz] at HL
                  have i1 : (j2 : Int) + 1 < (n : Int) := by omega
                  clear hX
                  go_wp2
                  go_quiet (first | (go_at_call 175; refine Calls.quiet_of_same (HL.out _)))
                  cases z
                  · have hpX : ¬ X < p := by simpa using hz
                    have HU := hide (HDn.out (by first | exact hpX | omega))
                    go_wp2
                    go_roundg (j2 + 1 - i')
                    case measure => omega
                    case rel => exact ⟨j2, rfl, by go_num, by omega, HU.out, HR.out.drewN _, HK.out.drN _⟩
                  · have hpX : X < p := by simpa using hz
                    go_wp2
                    go_meet
                    exact ⟨j2 + 1, by go_num, hjj, HP.out, fun h => HV.out (by omega), fun _ => by rw [HX.out]; exact hpX, HR.out.drewN _, HK.out.drN _⟩
                · have hgd : decide ((i' : Int) ≤ (j' : Int)) = false := by simp; omega
                  have hgd2 : decide (i' ≤ j') = false := by simp; omega
                  go_wp2
                  go_quiet (first | fail)
                  go_wp2
                  go_meet
                  exact ⟨j', rfl, hjj, HP.out, fun h => absurd h hij, fun h => absurd h hij, HR.out.drewN _, HK.out.drN _⟩
            case rest =>
              clear HR HP HK hij0
              obtain ⟨j', rfl, hjj, hP, hv1, hv2, hR, hK⟩ := hcut
              have HR := hide hR
              have HP := hide hP
              have HV1 := hide hv1
              have HV2 := hide hv2
              have HK := hide hK
              have hij0 := hP.ij
              have hjb2 := hP.jb
              have hi02 := hP.i0
              clear hR hP hK hv1 hv2 HV
              by_cases hfin : (j' : Int) < (i' : Int)
              · have hfj : j' < i' := by omega
                have ca := HR.out.cell (i := a) (by omega)
                have cj := HR.out.cell (i := j') (by omega)
                have fa := HR.out.frozen a
                have fj := HR.out.frozen j'
                have HSw := hide (fun k => (HR.out.drewN k).swap j' a)
                have HS2 := hide (HS.out.trans (Sh.swap (xs := ys) (i := j') (j := a) (by omega) ⟨by omega, by omega⟩ ⟨by omega, by omega⟩))
                have HPt := hide (HP.out.fin (by omega) (by omega))
                have cj2 := (HR.out.set j' (ys.getD a 0)).cell (i := a) (by omega)
                obtain ⟨X, hX⟩ : ∃ v, ys.getD a 0 = v := ⟨_, rfl⟩
                obtain ⟨Y, hY⟩ : ∃ v, ys.getD j' 0 = v := ⟨_, rfl⟩
                rw [hX] at ca cj2
                rw [hY] at cj
                rw [hX, hY] at HSw
                obtain ⟨v2, hv2⟩ : ∃ v, (ys.set j' X).getD a 0 = v := ⟨_, rfl⟩
                rw [hv2] at cj2
                have i1 : (j' : Int) < (n : Int) := by omega
                clear hX hY hv2
                go_wp2
                go_region
                all_goals
                  go_wp2
                  go_ret2
                  exact ⟨j', false, rfl, swapL ys j' a, HSw.out _, HS2.out, HPt.out, (HK.out.drN _).set2 _ _⟩
              · skip
                obtain ⟨j2, hj2⟩ : ∃ j2 : Nat, j' = j2 + 1 := ⟨j' - 1, by omega⟩
                subst hj2
                have HN := hide (HP.out.swap (by omega) (by omega) (HV1.out (by omega)) (HV2.out (by omega)))
                have hne : i' ≠ j2 + 1 := fun e => HV1.out (by omega) (by rw [e]; exact HV2.out (by omega))
                have e1 : ¬ i' = j2 + 1 := hne
                have e2 : ¬ j2 + 1 = i' := fun e => hne e.symm
                have cp := HR.out.cell (i := i') (by omega)
                have cq := HR.out.cell (i := j2 + 1) (by omega)
                have fp := HR.out.frozen i'
                have fq := HR.out.frozen (j2 + 1)
                have HSw := hide (fun k => (HR.out.drewN k).swap i' (j2 + 1))
                have HS2 := hide (HS.out.trans (Sh.swap (xs := ys) (i := i') (j := j2 + 1) (by omega) ⟨by omega, by omega⟩ ⟨by omega, by omega⟩))
                obtain ⟨X, hX⟩ : ∃ v, ys.getD i' 0 = v := ⟨_, rfl⟩
                obtain ⟨Y, hY⟩ : ∃ v, ys.getD (j2 + 1) 0 = v := ⟨_, rfl⟩
                rw [hX] at cp
                rw [hY] at cq
                rw [hX, hY] at HSw
                have i1 : (i' : Int) < (n : Int) := by omega
                have i2 : (j2 : Int) + 1 < (n : Int) := by omega
                clear hX hY HV1 HV2 hne
                go_wp2
                go_region
                all_goals
                  go_wp2
                  go_roundg (j2 + 1 - (i' + 1))
                  case measure => omega
                  case rel => exact ⟨i' + 1, j2, swapL ys i' (j2 + 1), rfl, by go_num, by go_num, HSw.out _, HS2.out, HN.out, (HK.out.drN _).set2 _ _⟩

end Go.Proofs.YtodmieehdleohaaGreat

namespace Go.Proofs.YtodmieehdleohaaGreat
open Go.RowKit NumMath
set_option linter.unusedVariables false
set_option maxRecDepth 100000

/-- all pairs of A to B that do not both lie in a to b stand in order -/
def Out (A B a b : Nat) (ys : List Int) : Prop := ∀ i j, A ≤ i → i < j → j < B → (i < a ∨ b ≤ j) → ys.getD i 0 ≤ ys.getD j 0

/-- what stands ahead of a is no greater than what stands from a to b -/
def Low (a b : Nat) (ys : List Int) : Prop := 0 < a → ∀ k, a ≤ k → k < b → ys.getD (a - 1) 0 ≤ ys.getD k 0

theorem out_start (A B : Nat) (ys : List Int) : Out A B A B ys := fun i j h1 h2 h3 h4 => by omega

theorem Out.sh {A B a b : Nat} {ys zs : List Int} (h : Out A B a b ys) (hs : Sh a b ys zs) (hl : b ≤ ys.length) (hB : b ≤ B) (hA : A ≤ a) : Out A B a b zs := by
  intro i j h1 h2 h3 h4
  rcases h4 with h4 | h4
  · rw [hs.out i (.inl h4)]
    by_cases hj : a ≤ j ∧ j < b
    · exact hs.all hl (P := fun v => ys.getD i 0 ≤ v) (fun k k1 k2 => h i k h1 (by omega) (by omega) (.inl h4)) j hj.1 hj.2
    · rw [hs.out j (by omega)]; exact h i j h1 h2 h3 (.inl h4)
  · rw [hs.out j (.inr h4)]
    by_cases hi : a ≤ i ∧ i < b
    · exact hs.all hl (P := fun v => v ≤ ys.getD j 0) (fun k k1 k2 => h k j (by omega) (by omega) h3 (.inr h4)) i hi.1 hi.2
    · rw [hs.out i (by omega)]; exact h i j h1 h2 h3 (.inr h4)

theorem Low.sh {a b : Nat} {ys zs : List Int} (h : Low a b ys) (hs : Sh a b ys zs) (hl : b ≤ ys.length) : Low a b zs := by
  intro h0 k k1 k2
  rw [hs.out (a - 1) (by omega)]
  exact hs.all hl (P := fun v => ys.getD (a - 1) 0 ≤ v) (h h0) k k1 k2

theorem Out.done {A B a b : Nat} {ys : List Int} (h : Out A B a b ys) (hs : Srt a b ys) : Srt A B ys := fun i j h1 h2 h3 => by
  by_cases hc : i < a ∨ b ≤ j
  · exact h i j h1 h2 h3 hc
  · exact hs i j (by omega) h2 (by omega)

theorem out_eq {A B a b m : Nat} {p : Int} {ys : List Int} (hO : Out A B a b ys) (hA : A ≤ a) (hm : a < m) (hmb : m ≤ b) (hlo : ∀ k, a ≤ k → k < m → ys.getD k 0 ≤ p) (hp : ∀ k, a ≤ k → k < b → p ≤ ys.getD k 0) : Out A B m b ys ∧ Low m b ys := by
  constructor
  · intro i j h1 h2 h3 h4
    by_cases hc : i < a ∨ b ≤ j
    · exact hO i j h1 h2 h3 hc
    · have := hlo i (by omega) (by omega)
      have := hp j (by omega) (by omega)
      omega
  · intro h0 k k1 k2
    have := hlo (m - 1) (by omega) (by omega)
    have := hp k (by omega) k2
    omega

theorem out_left {A B a b m : Nat} {ys zs : List Int} (hO : Out A B a b ys) (hA : A ≤ a) (hB : b ≤ B) (hl : b ≤ ys.length) (hP : Parted a b m ys) (hS : Sh a m ys zs) (hT : Srt a m zs) : Out A B (m + 1) b zs ∧ Low (m + 1) b zs := by
  obtain ⟨⟨m1, m2⟩, pl, ph⟩ := hP
  have hO2 := hO.sh (hS.mono (Nat.le_refl _) (by omega)) hl hB hA
  have e : ∀ k, m ≤ k → zs.getD k 0 = ys.getD k 0 := fun k hk => hS.out k (.inr hk)
  have pz : ∀ k, a ≤ k → k < m → zs.getD k 0 < ys.getD m 0 := hS.all (by omega) (P := fun v => v < ys.getD m 0) pl
  constructor
  · intro i j h1 h2 h3 h4
    by_cases hc : i < a ∨ b ≤ j
    · exact hO2 i j h1 h2 h3 hc
    · by_cases hi : i < m
      · by_cases hj : j < m
        · exact hT i j (by omega) h2 hj
        · have := pz i (by omega) hi
          rw [e j (by omega)]
          by_cases hjm : j = m
          · subst hjm; omega
          · have := ph j (by omega) (by omega); omega
      · rw [e i (by omega), e j (by omega), show i = m by omega]
        exact ph j (by omega) (by omega)
  · intro h0 k k1 k2
    rw [show m + 1 - 1 = m by omega, e m (Nat.le_refl _), e k (by omega)]
    exact ph k (by omega) k2

theorem out_right {A B a b m : Nat} {ys zs : List Int} (hO : Out A B a b ys) (hL : Low a b ys) (hA : A ≤ a) (hB : b ≤ B) (hl : b ≤ ys.length) (hP : Parted a b m ys) (hS : Sh (m + 1) b ys zs) (hT : Srt (m + 1) b zs) : Out A B a m zs ∧ Low a m zs := by
  obtain ⟨⟨m1, m2⟩, pl, ph⟩ := hP
  have hO2 := hO.sh (hS.mono (by omega) (Nat.le_refl _)) hl hB hA
  have e : ∀ k, k ≤ m → zs.getD k 0 = ys.getD k 0 := fun k hk => hS.out k (.inl (by omega))
  have pz : ∀ k, m + 1 ≤ k → k < b → ys.getD m 0 ≤ zs.getD k 0 := hS.all hl (P := fun v => ys.getD m 0 ≤ v) (fun k k1 k2 => ph k (by omega) k2)
  constructor
  · intro i j h1 h2 h3 h4
    by_cases hc : i < a ∨ b ≤ j
    · exact hO2 i j h1 h2 h3 hc
    · by_cases hi : i ≤ m
      · rw [e i hi]
        have hle : ys.getD i 0 ≤ ys.getD m 0 := by
          by_cases him : i = m
          · rw [him]; exact Int.le_refl _
          · have := pl i (by omega) (by omega); omega
        by_cases hj : j ≤ m
        · rw [e j hj, show j = m by omega]; exact hle
        · have := pz j (by omega) (by omega); omega
      · exact hT i j (by omega) h2 (by omega)
  · intro h0 k k1 k2
    rw [e (a - 1) (by omega), e k (by omega)]
    exact hL h0 k k1 (by omega)

theorem low_left {a b m : Nat} {ys : List Int} (hL : Low a b ys) (hm : m ≤ b) : Low a m ys := fun h0 k k1 k2 => hL h0 k k1 (by omega)

theorem low_right {a b m : Nat} {ys : List Int} (hP : Parted a b m ys) : Low (m + 1) b ys := fun h0 k k1 k2 => by
  rw [show m + 1 - 1 = m by omega]
  exact hP.2.2 k (by omega) k2

end Go.Proofs.YtodmieehdleohaaGreat

namespace Go.Proofs.YtodmieehdleohaaGreat
open Go.RowKit NumMath
set_option linter.unusedVariables false
set_option maxRecDepth 100000

set_option maxHeartbeats 4000000 in
theorem pdq_any (g n cap : Nat) (hn : n < 50) : ∀ (N a b lim : Nat) (xs : List Int) (w : World), b - a ≤ N → RU w g n cap xs → a ≤ b → b ≤ n → Low a b xs → lim ≤ 100 →
    Calls Tryz.prog 156 #[.slice (some ⟨g, 0, none⟩) n cap, .int .i64 a, .int .i64 b, .int .i64 lim] w fun e w' => SortPost w g n cap a b xs e w' := by
  intro N
  induction N using Nat.strongRecOn with
  | _ N ih =>
  intro a b lim xs w hN h hab hb hLow hlim
  have IH := hide ih
  have H := hide h
  have HLow := hide hLow
  have hxl := h.len
  clear ih h hLow
  go_enter Tryz.func156, Tryz.ntmps156
  go_wp2
  go_loopg [1, 2, 3, 8, 9] (b - a) (fun gk s1 s2 s3 s8 s9 wr => ∃ (a' b' l' : Nat) (zb zp : Bool) (ys : List Int), gk = b' - a' ∧ s1 = .int .i64 a' ∧ s2 = .int .i64 b' ∧ s3 = .int .i64 l' ∧ s8 = .bool zb ∧ s9 = .bool zp ∧ a ≤ a' ∧ a' ≤ b' ∧ b' ≤ b ∧ l' ≤ 100 ∧ RU wr g n cap ys ∧ Sh a b xs ys ∧ Out a b a' b' ys ∧ Low a' b' ys ∧ Keeps (fun k => k = g) w wr)
  case atStart => exact ⟨a, b, lim, true, true, xs, rfl, rfl, rfl, rfl, rfl, rfl, Nat.le_refl _, hab, Nat.le_refl _, hlim, H.out, Sh.refl _ _ _, out_start _ _ _, HLow.out, Keeps.refl _ _⟩
  case round =>
    obtain ⟨a', b', l', zb, zp, ys, rfl, rfl, rfl, rfl, rfl, rfl, ha1, hab', hb1, hl1, hR, hS, hO, hL, hK⟩ := hrel
    have HR := hide hR
    have HS := hide hS
    have HO := hide hO
    have HL := hide hL
    have HK := hide hK
    have hyl := hR.len
    clear hR hS hO hL hK H HLow
    obtain ⟨l, hl⟩ : ∃ l : Nat, l = b' - a' := ⟨_, rfl⟩
    have el : (b' : Int) - (a' : Int) = (l : Int) := by omega
    have hwl : IntKind.i64.wrap (l : Int) = (l : Int) := kw_nat l (by omega)
    have hlb : l < 50 := by omega
    have HLl := hide hl
    clear hl
    by_cases h12 : (l : Int) ≤ 12
    · have HC := hide (insert_any g n cap a' b' ys wr HR.out hab' (by omega) (by omega))
      go_wp2_with (first
        | (go_at_call 169; go_must (refine HC.out.mono ?_); rintro e w2 ⟨rfl, zs, hR2, hS2, hT2, hK2⟩; have HR2 := hide hR2; have HS2 := hide hS2; have HT2 := hide hT2; have HK2 := hide hK2; clear hR2 hS2 hT2 hK2))
      refine bodyPost_ret (results_none rfl _ _ _) rfl ?_
      exact ⟨rfl, zs, HR2.out, HS.out.trans (HS2.out.mono ha1 hb1), (HO.out.sh HS2.out (by omega) hb1 ha1).done HT2.out, HK.out.trans HK2.out⟩
    by_cases hz0 : l' = 0
    · subst hz0
      have HC := hide (heap_any g n cap a' b' ys wr HR.out (by have := HLl.out; omega) (by omega) (by omega))
      go_wp2_with (first
        | (go_at_call 170; go_must (refine HC.out.mono ?_); rintro e w2 ⟨rfl, zs, hR2, hS2, hT2, hK2⟩; have HR2 := hide hR2; have HS2 := hide hS2; have HT2 := hide hT2; have HK2 := hide hK2; clear hR2 hS2 hT2 hK2))
      refine bodyPost_ret (results_none rfl _ _ _) rfl ?_
      exact ⟨rfl, zs, HR2.out, HS.out.trans (HS2.out.mono ha1 hb1), (HO.out.sh HS2.out (by omega) hb1 ha1).done HT2.out, HK.out.trans HK2.out⟩
    have hl0 : ((l' : Int) == 0) = false := by simp; omega
    have hl0' : ((l' : Nat) == 0) = false := by simp; omega
    have hl13 : 13 ≤ l := by omega
    go_upto_if 35 with fail
    go_cut [3] (fun s3 wx => ∃ (l2 : Nat) (zs : List Int), s3 = .int .i64 l2 ∧ l2 ≤ 100 ∧ RU wx g n cap zs ∧ Sh a' b' ys zs ∧ Keeps (fun k => k = g) w wx)
    case first =>
      cases zb
      · have HC := hide (break_any g n cap a' b' ys wr HR.out (by have := HLl.out; omega) (by omega) (by omega) (by omega))
        obtain ⟨l3, hl3⟩ : ∃ l3 : Nat, l3 = l' - 1 := ⟨_, rfl⟩
        have el3 : (l' : Int) - 1 = (l3 : Int) := by omega
        have hl3b : l3 ≤ 100 := by omega
        clear hl3
        go_wp2_with (first
          | (go_at_call 171; go_must (refine HC.out.mono ?_); rintro e w2 ⟨rfl, zs, hR2, hS2, hK2⟩; have HR2 := hide hR2; have HS2 := hide hS2; have HK2 := hide hK2; clear hR2 hS2 hK2))
        go_meet
        exact ⟨l3, zs, rfl, hl3b, HR2.out, HS2.out, HK.out.trans HK2.out⟩
      · go_wp2
        go_meet
        exact ⟨l', ys, rfl, hl1, HR.out, Sh.refl _ _ _, HK.out⟩
    case rest =>
      obtain ⟨l2, zs, rfl, hl2, hR, hS, hK⟩ := hcut
      have HO2 := hide (HO.out.sh hS (by omega) hb1 ha1)
      have HL2 := hide (HL.out.sh hS (by omega))
      have HS2 := hide (HS.out.trans (hS.mono ha1 hb1))
      have hzl := hS.len
      clear HR HK HO HL HS
      have HR := hide hR
      have HK := hide hK
      clear hR hK hS
      have HCp := hide (choose_any g n cap a' b' zs wc HR.out (by have := HLl.out; omega) (by omega) (by omega) (by omega))
      go_upto_if 50 with (first
        | (go_at_call 172; go_must (refine HCp.out.mono ?_); rintro e wp ⟨pv, t, rfl, hpv, ht, hbp⟩; have HRp := hide (HR.out.keep hbp); have HKp := hide (HK.out.trans (Below.keeps hbp _)); clear hbp))
      go_cut [11, 12] (fun s11 s12 wx => ∃ (pv : Nat) (t : Int) (vs : List Int), s11 = .int .i64 pv ∧ s12 = .int .i64 t ∧ (a' ≤ pv ∧ pv < b') ∧ RU wx g n cap vs ∧ Sh a' b' zs vs ∧ Keeps (fun k => k = g) w wx)
      case first =>
        rcases ht with rfl | rfl | rfl
        · go_wp2
          go_meet
          exact ⟨pv, 0, zs, rfl, rfl, hpv, HRp.out, Sh.refl _ _ _, HKp.out⟩
        · go_wp2
          go_meet
          exact ⟨pv, 1, zs, rfl, rfl, hpv, HRp.out, Sh.refl _ _ _, HKp.out⟩
        · have HC := hide (reverse_any g n cap a' b' zs wp HRp.out (by omega) (by omega) (by omega))
          obtain ⟨bm, hbm⟩ : ∃ bm : Nat, bm = b' - 1 := ⟨_, rfl⟩
          have ebm : (b' : Int) - 1 = (bm : Int) := by omega
          obtain ⟨pd, hpd⟩ : ∃ pd : Nat, pd = pv - a' := ⟨_, rfl⟩
          have epd : (pv : Int) - (a' : Int) = (pd : Int) := by omega
          obtain ⟨p3, hp3⟩ : ∃ p3 : Nat, p3 = bm - pd := ⟨_, rfl⟩
          have ep3 : (bm : Int) - (pd : Int) = (p3 : Int) := by omega
          have w1 : IntKind.i64.wrap (bm : Int) = (bm : Int) := kw_nat bm (by omega)
          have w2 : IntKind.i64.wrap (pd : Int) = (pd : Int) := kw_nat pd (by omega)
          have w3 : IntKind.i64.wrap (p3 : Int) = (p3 : Int) := kw_nat p3 (by omega)
          have hp3b : a' ≤ p3 ∧ p3 < b' := by omega
          have hbmb : bm < 50 := by omega
          have hpdb : pd < 50 := by omega
          have hp3c : p3 < 50 := by omega
          clear hbm hpd hp3
          go_wp2_with (first
            | (go_at_call 173; go_must (refine HC.out.mono ?_); rintro e w2 ⟨rfl, vs, hR2, hS3, hK2⟩; have HR2 := hide hR2; have HS3 := hide hS3; have HK2 := hide hK2; clear hR2 hS3 hK2))
          go_meet
          exact ⟨p3, 1, vs, rfl, rfl, hp3b, HR2.out, HS3.out, HKp.out.trans HK2.out⟩
      case rest =>
        clear hpv ht HRp HKp HR HK HCp
        obtain ⟨pv2, t2, vs, rfl, rfl, hpv2, hR, hS, hK⟩ := hcut
        have HO3 := hide (HO2.out.sh hS (by omega) hb1 ha1)
        have HL3 := hide (HL2.out.sh hS (by omega))
        have HS3 := hide (HS2.out.trans (hS.mono ha1 hb1))
        have hvl := hS.len
        clear HO2 HL2 HS2
        have HR := hide hR
        have HK := hide hK
        clear hR hK hS
        go_upto_region 15 with fail
        go_cut [68] (fun s68 wx => wc = wx ∧ ∃ z : Bool, s68 = .bool z)
        case first =>
          obtain ⟨z1, hz1⟩ : ∃ z : Bool, (t2 == 1) = z := ⟨_, rfl⟩
          cases zb <;> cases zp <;> cases z1
          all_goals
            go_wp2
            go_meet
            exact ⟨rfl, _, rfl⟩
        case rest =>
          obtain ⟨rfl, z, rfl⟩ := hcut
          have HCq := hide (partial_any g n cap a' b' vs wc HR.out (by omega) (by omega) (by omega) (by omega))
          go_upto_if 68 with fail
          go_cut [] (fun wx => RU wx g n cap vs ∧ Keeps (fun k => k = g) w wx)
          case first =>
            cases z
            · go_wp2
              go_meet
              exact ⟨HR.out, HK.out⟩
            · go_wp2_with (first
                | (go_at_call 174; go_must (refine HCq.out.mono ?_); rintro e w2 ⟨zq, rfl, hq, hb2⟩; have HQ := hide hq; have HB2 := hide hb2; clear hq hb2; cases zq))
              · go_meet
                exact ⟨HR.out.keep HB2.out, HK.out.trans (Below.keeps HB2.out _)⟩
              · refine bodyPost_ret (results_none rfl _ _ _) rfl ?_
                exact ⟨rfl, vs, HR.out.keep HB2.out, HS3.out, HO3.out.done (HQ.out (by first | rfl | trivial)), HK.out.trans (Below.keeps HB2.out _)⟩
          case rest =>
            clear HR HK HCq
            obtain ⟨hR, hK⟩ := hcut
            have HR := hide hR
            have HK := hide hK
            clear hR hK
            go_upto_region 17 with fail
            go_cut [87] (fun s87 wx => ∃ z : Bool, s87 = .bool z ∧ (z = true → 0 < a' ∧ ¬ vs.getD (a' - 1) 0 < vs.getD pv2 0) ∧ RU wx g n cap vs ∧ Keeps (fun k => k = g) w wx)
            case first =>
              by_cases ha0 : 0 < a'
              · obtain ⟨a0, ha0e⟩ : ∃ a0 : Nat, a0 = a' - 1 := ⟨_, rfl⟩
                have ea0 : (a' : Int) - 1 = (a0 : Int) := by omega
                have w0 : IntKind.i64.wrap (a0 : Int) = (a0 : Int) := kw_nat a0 (by omega)
                have hgd : decide ((0 : Int) < (a' : Int)) = true := by simp; omega
                have hgd2 : decide (0 < a') = true := by simp; omega
                have c0 := HR.out.cell (i := a0) (by omega)
                have cp := HR.out.cell (i := pv2) (by omega)
                obtain ⟨X, hX⟩ : ∃ v, vs.getD a0 0 = v := ⟨_, rfl⟩
                obtain ⟨Y, hY⟩ : ∃ v, vs.getD pv2 0 = v := ⟨_, rfl⟩
                have HX : Hid (vs.getD (a' - 1) 0 = X) := by show _ = _; rw [← ha0e]; exact hX
                have HY := hide hY
                rw [hX] at c0
                rw [hY] at cp
                obtain ⟨z3, hz3⟩ : ∃ z : Bool, decide (X < Y) = z := ⟨_, rfl⟩
                have HLs := hide (less_any X Y)
                rw [hz3] at HLs
                have i1 : (a0 : Int) < (n : Int) := by omega
                have i2 : (pv2 : Int) < (n : Int) := by omega
                clear hX hY ha0e
                go_quiet (first | (go_at_call 175; first | (refine Calls.quiet_of_same (HLs.out _)) | (refine (HLs.out _).mono ?_; rintro e w2 ⟨rfl, rfl⟩; exact ⟨rfl, _, rfl⟩)))
                cases z3
                · have hXY : ¬ X < Y := by simpa using hz3
                  go_wp2
                  go_meet
                  exact ⟨true, rfl, fun _ => ⟨ha0, by rw [HX.out, HY.out]; exact hXY⟩, HR.out.drewN _, HK.out.drN _⟩
                · go_wp2
                  go_meet
                  exact ⟨false, rfl, (fun h => by cases h), HR.out.drewN _, HK.out.drN _⟩
              · have hgd : decide ((0 : Int) < (a' : Int)) = false := by simp; omega
                have hgd2 : decide (0 < a') = false := by simp; omega
                go_quiet (first | fail)
                go_wp2
                go_meet
                exact ⟨false, rfl, (fun h => by cases h), HR.out.drewN _, HK.out.drN _⟩
            case rest =>
              clear HR HK
              obtain ⟨z, rfl, hz, hR, hK⟩ := hcut
              have HR := hide hR
              have HK := hide hK
              have HZ := hide hz
              clear hR hK hz
              cases z
              · have HC := hide (part_any g n cap a' b' pv2 vs wc HR.out hpv2 (by omega) (by omega))
                obtain ⟨th, hth⟩ : ∃ th : Nat, th = l / 8 := ⟨_, rfl⟩
                have eth : (l : Int).tdiv 8 = (th : Int) := by rw [hth]; rfl
                have hthb : th < 50 := by omega
                clear hth HZ
                go_upto_region 24 with (first
                  | (go_at_call 177; go_must (refine HC.out.mono ?_); rintro e w2 ⟨m, zq, rfl, us, hR2, hS4, hP2, hK2⟩; have HR2 := hide hR2; have HS4 := hide hS4; have HP2 := hide hP2; have HK2 := hide (HK.out.trans hK2); obtain ⟨hm1, hm2⟩ := hP2.1; (obtain ⟨ll, hll⟩ : ∃ ll : Nat, ll = m - a' := ⟨_, rfl⟩); (obtain ⟨rl, hrl⟩ : ∃ rl : Nat, rl = b' - m := ⟨_, rfl⟩); have ell : (m : Int) - (a' : Int) = (ll : Int) := (by omega); have erl : (b' : Int) - (m : Int) = (rl : Int) := (by omega); have wll : IntKind.i64.wrap (ll : Int) = (ll : Int) := kw_nat ll (by omega); have wrl : IntKind.i64.wrap (rl : Int) = (rl : Int) := kw_nat rl (by omega); have hllb : ll < 50 := (by omega); have hrlb : rl < 50 := (by omega); clear hR2 hS4 hP2 hK2 hll hrl))
                have hul := HS4.out.len
                have HO4 := hide (HO3.out.sh HS4.out (by omega) hb1 ha1)
                have HL4 := hide (HL3.out.sh HS4.out (by omega))
                have HS5 := hide (HS3.out.trans (HS4.out.mono ha1 hb1))
                clear HO3 HL3 HS3 HS4 HR HK HC
                by_cases hlr : (ll : Int) < (rl : Int)
                · have HC := hide (IH.out (m - a') (by omega) a' m l2 us w2 (Nat.le_refl _) HR2.out hm1 (by omega) (low_left HL4.out (by omega)) hl2)
                  go_wp2_with (first
                    | (go_at_call 156; go_must (refine HC.out.mono ?_); rintro e w3 ⟨rfl, ts, hR3, hS6, hT3, hK3⟩; have HR3 := hide hR3; have HS6 := hide hS6; have HT3 := hide hT3; have HK3 := hide hK3; clear hR3 hS6 hT3 hK3))
                  have HOF := hide (out_left HO4.out ha1 hb1 (by omega) HP2.out HS6.out HT3.out)
                  go_roundg (b' - (m + 1))
                  case measure => omega
                  case rel => exact ⟨m + 1, b', l2, _, zq, ts, rfl, by go_num, rfl, rfl, rfl, rfl, by omega, by omega, hb1, hl2, HR3.out, HS5.out.trans (HS6.out.mono ha1 (by omega)), HOF.out.1, HOF.out.2, HK2.out.trans HK3.out⟩
                · have HC := hide (IH.out (b' - (m + 1)) (by omega) (m + 1) b' l2 us w2 (Nat.le_refl _) HR2.out (by omega) (by omega) (low_right HP2.out) hl2)
                  go_wp2_with (first
                    | (go_at_call 156; go_must (refine HC.out.mono ?_); rintro e w3 ⟨rfl, ts, hR3, hS6, hT3, hK3⟩; have HR3 := hide hR3; have HS6 := hide hS6; have HT3 := hide hT3; have HK3 := hide hK3; clear hR3 hS6 hT3 hK3))
                  have HOF := hide (out_right HO4.out HL4.out ha1 hb1 (by omega) HP2.out HS6.out HT3.out)
                  go_roundg (m - a')
                  case measure => omega
                  case rel => exact ⟨a', m, l2, _, zq, ts, rfl, rfl, rfl, rfl, rfl, rfl, ha1, hm1, by omega, hl2, HR3.out, HS5.out.trans (HS6.out.mono (by omega) hb1), HOF.out.1, HOF.out.2, HK2.out.trans HK3.out⟩
              · obtain ⟨ha0, hnl⟩ := HZ.out rfl
                have HC := hide (parteq_any g n cap a' b' pv2 vs wc HR.out hpv2 (by omega) (by omega))
                have HMin : Hid (∀ k, a' ≤ k → k < b' → vs.getD pv2 0 ≤ vs.getD k 0) := fun k k1 k2 => by have := HL3.out ha0 k k1 k2; omega
                have HNl := hide hnl
                clear hnl HZ
                go_wp2_with (first
                  | (go_at_call 176; go_must (refine HC.out.mono ?_); rintro e w2 ⟨m, rfl, hm, us, hR2, hS4, hlo, hK2⟩; have HR2 := hide hR2; have HS4 := hide hS4; have HLo := hide hlo; have HK2 := hide hK2; clear hR2 hS4 hlo hK2))
                have HO4 := hide (out_eq (HO3.out.sh HS4.out (by omega) hb1 ha1) ha1 hm.1 hm.2 HLo.out (HS4.out.all (by omega) (P := fun v => vs.getD pv2 0 ≤ v) HMin.out))
                go_roundg (b' - m)
                case measure => omega
                case rel => exact ⟨m, b', l2, zb, zp, us, rfl, rfl, rfl, rfl, rfl, rfl, by omega, by omega, hb1, hl2, HR2.out, HS3.out.trans (HS4.out.mono ha1 hb1), HO4.out.1, HO4.out.2, HK.out.trans HK2.out⟩

set_option maxHeartbeats 400000 in
theorem sort_any (g n cap : Nat) (xs : List Int) (w : World) (h : RU w g n cap xs) (hn : n < 50) :
    Calls Tryz.prog 145 #[.slice (some ⟨g, 0, none⟩) n cap] w fun e w' => SortPost w g n cap 0 n xs e w' := by
  have HL := hide (len_any (n : Int) w (by omega) (by omega))
  rw [Int.toNat_natCast] at HL
  have hbl : bitLen n ≤ 8 := bitLen_le8 n (by omega)
  have hw : IntKind.u64.wrap (n : Int) = (n : Int) := by rw [IntKind.wrap_u64]; omega
  have HC := hide (pdq_any g n cap hn n 0 n (bitLen n) xs w (by omega) h (Nat.zero_le _) (Nat.le_refl _) (fun h => by omega) (by omega))
  generalize bitLen n = bl at *
  clear h
  go_enter Tryz.func145, Tryz.ntmps145
  go_wp2_with (first
    | (go_at_call 157; go_must (refine HL.out.mono ?_); rintro e w' ⟨rfl, hw⟩; have hw := hw.symm; subst hw)
    | (go_at_call 156; go_must (refine HC.out.mono ?_); rintro e w2 hp; have HP := hide hp; obtain ⟨rfl, -⟩ := hp))
  go_end0
  exact HP.out

end Go.Proofs.YtodmieehdleohaaGreat
