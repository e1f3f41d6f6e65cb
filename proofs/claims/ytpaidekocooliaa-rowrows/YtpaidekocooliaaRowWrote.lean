/- wrote: parts as a Writer has them, and as the reference says: the same bytes. -/
import Derived.Test.YtpaidekocooliaaRowParts
import Derived.Test.YtpaidekocooliaaRowRef
namespace Go.Proofs.Ytpaidekocooliaa
open Go.RowKit NumMath
set_option linter.unusedVariables false

/-- a number of 64 bits as one that may be below 0 -/
def asI (n : Int) : Int := if n < 9223372036854775808 then n else n - 18446744073709551616

theorem asI_range (n : Int) (h1 : 0 ≤ n) (h2 : n ≤ 18446744073709551615) : -9223372036854775808 ≤ asI n ∧ asI n ≤ 9223372036854775807 := by unfold asI; split <;> omega
theorem asI_wrap (n : Int) (h1 : 0 ≤ n) (h2 : n ≤ 18446744073709551615) : wrap64 n = asI n := by unfold asI wrap64; split <;> omega

/-- a part's bytes -/
def partL (p : Part) : List Int := if p.k = 0 then numL p.n else if p.k = 1 then numL (zigV (asI p.n)) else if p.k = 2 then numL p.len ++ p.b else valL p.v
def partsL (ps : List Part) : List Int := ps.flatMap partL

theorem partL_0 {p : Part} (h : p.k = 0) : partL p = numL p.n := by unfold partL; rw [if_pos h]
theorem partL_1 {p : Part} (h : p.k = 1) : partL p = numL (zigV (asI p.n)) := by unfold partL; rw [if_neg (by omega), if_pos h]
theorem partL_2 {p : Part} (h : p.k = 2) : partL p = numL p.len ++ p.b := by unfold partL; rw [if_neg (by omega), if_neg (by omega), if_pos h]
theorem partL_3 {p : Part} (h0 : ¬ p.k = 0) (h1 : ¬ p.k = 1) (h2 : ¬ p.k = 2) : partL p = valL p.v := by unfold partL; rw [if_neg h0, if_neg h1, if_neg h2]

theorem partsL_take (ps : List Part) (k : Nat) (h : k < ps.length) : partsL (ps.take (k + 1)) = partsL (ps.take k) ++ partL (ps.getD k part0) := by
  unfold partsL
  rw [List.take_add_one, List.flatMap_append]
  simp [List.getD, List.getElem?_eq_getElem h]

theorem valL_few (v : Val) (hf : v.fits) (h : v.s.size ≤ 1000) : (valL v).length ≤ 11 + v.s.size := by
  obtain ⟨z1, z2⟩ := zigV_range v.n hf.2.1.1 hf.2.1.2
  have h1 := numL_length (zigV v.n) z1 z2
  have h2 := numL_length (v.s.size : Int) (by omega) (by omega)
  unfold valL
  split
  · rw [List.length_cons]; omega
  · split
    · rw [List.length_cons, List.length_append, sb_length]; omega
    · simp only [List.length_singleton]; omega

theorem partL_few (w : World) (p : Part) (hok : p.ok w) (hf : p.len ≤ 200 ∧ p.v.s.size ≤ 200) : (partL p).length ≤ 220 := by
  obtain ⟨⟨n1, n2⟩, _, hv, hB⟩ := hok
  obtain ⟨i1, i2⟩ := asI_range p.n n1 n2
  obtain ⟨z1, z2⟩ := zigV_range _ i1 i2
  have h1 := numL_length p.n n1 n2
  have h2 := numL_length _ z1 z2
  have h3 := numL_length (p.len : Int) (by omega) (by omega)
  have h4 := valL_few p.v hv (by omega)
  have h5 := hB.1
  unfold partL
  split
  · omega
  · split
    · omega
    · split
      · rw [List.length_append]; omega
      · omega

theorem partsL_few (w : World) : ∀ (ps : List Part), (∀ p ∈ ps, p.ok w) → (∀ p ∈ ps, p.len ≤ 200 ∧ p.v.s.size ≤ 200) → (partsL ps).length ≤ 220 * ps.length := by
  intro ps
  induction ps with
  | nil => intro _ _; exact Nat.le_refl _
  | cons p r ih =>
    intro h h'
    have h1 := partL_few w p (h p List.mem_cons_self) (h' p List.mem_cons_self)
    have h2 := ih (fun x hx => h x (List.mem_cons_of_mem _ hx)) (fun x hx => h' x (List.mem_cons_of_mem _ hx))
    unfold partsL at h2 ⊢
    rw [List.flatMap_cons, List.length_append, List.length_cons]
    omega

/-- the slice v lies off the Writer's blocks -/
def OffW (w : World) (p : Nat) (v : Value) : Prop := ∀ g, v.ownBlock = some g → ¬ WB w p g

theorem wrote_step {w1 w2 w3 : World} {base p : Nat} {v v3 : Value} {bs bs' xs : List Int} (hP : WPost w1 base p xs w2) (hown : OwnB w3 w2.heap.size v3 bs') (hb : Below w2.heap.size w2 w3) : OffW w3 p v3 := by
  intro g hg hx
  have h1 := (World.ownsRow.lt hown g hg).1
  have h2 := (hP.1.lt (hP.1.same hb hx)).1
  omega

theorem OwnB.off {w w' : World} {base p : Nat} {v : Value} {bs xs : List Int} (h : OwnB w base v bs) (hP : WPost w base p xs w') (ho : OffW w p v) : OwnB w' base v bs :=
  h.lies (fun g hg => hP.2.1.block g (World.ownsRow.lt h g hg).2 (ho g hg))

/-- as wText_any; of a text of no bytes it does not matter where it lies -/
theorem wTextO (base p : Nat) (bs : List Int) (a : Option Addr) (len cap : Nat) (xs : List Int) (w : World) (h : IsW w base p bs) (hs : SrcB w a len xs) (ho : OffB a (WB w p) ∨ len = 0) (hl : len ≤ 1000000000) (hn : bs.length ≤ 100000000) (hbase : base ≤ w.heap.size) :
    Calls Try.prog 34 #[.pointer (some ⟨p, 0, none⟩), .slice a len cap] w fun e w' => e = .returned (.tuple #[]) ∧ WPost w base p (bs ++ (numL len ++ xs)) w' := wText_any base p bs a len cap xs w h hs ho hl hn hbase

set_option maxHeartbeats 4000000 in
theorem wrote_any (a : Option Addr) (len cap : Nat) (ps : List Part) (w : World) (h : IsParts w a len cap ps) (hfew : fewP ps = true) :
    Calls Try.prog 11 #[.slice a len cap] w fun e w' => ∃ va vb, e = .returned (.tuple #[va, vb]) ∧ OwnB w' w.heap.size va (partsL ps) ∧ OwnB w' w.heap.size vb (partsL ps) ∧ Below w.heap.size w w' := by
  have HV := hide h
  obtain ⟨hl, hlc, hm, hok, -⟩ := h
  unfold maxLen at hm
  have HL : Hid (ps.length = len) := hl
  have HOK := hide hok
  have HFW := hide (fewP_size hfew)
  have HPL : Hid (∀ k, (partsL (ps.take k)).length ≤ 5000) := by
    intro k
    have h1 := partsL_few w (ps.take k) (fun p hp => hok p (List.mem_of_mem_take hp)) (fun p hp => HFW.out.1 p (List.mem_of_mem_take hp))
    have h2 := HFW.out.2
    rw [List.length_take] at h1
    omega
  have H0 := hide (isW_new w w.heap.size _ rfl (Nat.le_refl _))
  clear hl hok hfew
  go_enter Try.func11, Try.ntmps11
  go_wp2
  go_loopw [5, 12] (fun v i wr => ∃ k : Nat, k ≤ len ∧ i = .int .i64 k ∧ IsW wr w.heap.size w.heap.size (partsL (ps.take k)) ∧ OwnB wr w.heap.size v (partsL (ps.take k)) ∧ OffW wr w.heap.size v ∧ Below w.heap.size w wr) (fun _ i _ => len - (intOf i).toNat)
  case atStart => exact ⟨0, Nat.zero_le _, rfl, by rw [List.take_zero]; exact H0.out, by rw [List.take_zero]; exact ownB_nil _ _, (by intro g hg; cases hg), new_below _ _⟩
  case round =>
    obtain ⟨k, hk, rfl, hW, hown, hoff, hb⟩ := hrel
    have HW := hide hW
    have HO := hide hown
    have HQ := hide hoff
    have hsz := hb.size
    have HX := hide (HPL.out k)
    obtain ⟨va, vn', vc, rfl, -⟩ := hown.any
    clear hW hown hoff
    by_cases hlt : k < len
    · obtain ⟨g, off, rfl, hg, hc⟩ := HV.out.at hlt
      have hk' : k < ps.length := by rw [HL.out]; exact hlt
      have hpok := HOK.out _ (part_mem ps k hk')
      have hpf := HFW.out.1 _ (part_mem ps k hk')
      have HT := hide (partsL_take ps k hk')
      have hcp := (hc k hk').below hb hg
      generalize ps.getD k part0 = pt at *
      have HE0 := hide (@partL_0 pt)
      have HE1 := hide (@partL_1 pt)
      have HE2 := hide (@partL_2 pt)
      have HE3 := hide (@partL_3 pt)
      obtain ⟨pk, pn, pa, pl, pc, pb, ⟨vk, vn, vs⟩, pm⟩ := pt
      obtain ⟨c0, c1, c2, c3, c4, c5, c6⟩ := hcp
      obtain ⟨⟨n1, n2⟩, -, hvf, hB⟩ := hpok
      obtain ⟨hp200, hv200⟩ := hpf
      clear hc hk'
      dsimp only at *
      have HVF := hide hvf
      have HBB := hide hB
      clear hvf hB
      generalize partsL (ps.take k) = bs at *
      by_cases h0 : pk = 0
      · subst h0
        rw [HE0.out rfl] at HT
        go_wp2_with (first
          | (go_at_call 32; refine (wN_any w.heap.size w.heap.size bs pn (wr.heap.size + 1) _ (HW.out.keep (((Below.refl _ _).alloc (Nat.le_refl _) _).alloc (by simp) _)) (one_num _ _ _ (by simp)) n1 n2 (by have := HX.out; omega) (by simp; omega)).mono ?_; rintro e w2 ⟨rfl, hpost⟩; have hbox := (hpost.cell (g := wr.heap.size) (i := 1) (by simp; omega) (HW.out.off_new (((Below.refl _ _).alloc (Nat.le_refl _) _).alloc (by simp) _) (Nat.le_refl _))).trans (show _ = some (Value.int .u64 pn) by simp); have hpost' := WPost.ahead HW.out (((Below.refl _ _).alloc (Nat.le_refl _) _).alloc (by simp) _) hpost; have HP := hide hpost'; have hb2 := hb.trans (hpost'.below HW.out hsz); have hsz2 := hpost'.2.1.size; have hsrc := (HO.out.off hpost' HQ.out).src; obtain ⟨sa, sc, se, hss, -⟩ := hsrc; cases se; have HSS := hide hss; clear hpost hpost' hss)
          | (go_at_call 37; go_must (refine (rN_any va bs.length vc bs pn _ HSS.out n1 n2 (by have := HX.out; omega)).mono ?_); rintro e w3 ⟨v3, rfl, hown3, hb3⟩; have HO3 := hide (hown3.mono (base' := w.heap.size) (by omega)); have HQ3 := hide (wrote_step (v := v3) (bs := bs) HP.out hown3 hb3); have HW3 := hide (HP.out.1.keep hb3); have hb3' := hb2.trans (hb3.mono (by omega)); clear hown3 hb3))
        go_roundw
        case rel => exact ⟨k + 1, by omega, by go_num, by rw [HT.out]; exact HW3.out, by rw [HT.out]; exact HO3.out, HQ3.out, hb3'⟩
        case measure => simp [intOf]; omega
      · have h0' : (pk == 0) = false := by simp [h0]
        by_cases h1 : pk = 1
        · subst h1
          rw [HE1.out rfl] at HT
          obtain ⟨i1, i2⟩ := asI_range pn n1 n2
          obtain ⟨z1, z2⟩ := zigV_range _ i1 i2
          have hwr := asI_wrap pn n1 n2
          go_wp2_with (first
            | (go_at_call 33; refine (wI_any w.heap.size w.heap.size bs (asI pn) _ (HW.out.keep (new_below _ _)) i1 i2 (by have := HX.out; omega) (by simp; omega)).mono ?_; rintro e w2 ⟨rfl, hpost⟩; have hbox := (hpost.cell (g := wr.heap.size) (i := 1) (by simp) (HW.out.off_new (new_below _ _) (Nat.le_refl _))).trans (show _ = some (Value.int .u64 pn) by simp); have hpost' := WPost.ahead HW.out (new_below _ _) hpost; have HP := hide hpost'; have hb2 := hb.trans (hpost'.below HW.out hsz); have hsz2 := hpost'.2.1.size; have hsrc := (HO.out.off hpost' HQ.out).src; obtain ⟨sa, sc, se, hss, -⟩ := hsrc; cases se; have HSS := hide hss; clear hpost hpost' hss)
            | (go_at_call 38; refine (rzig_any (asI pn) _ i1 i2).mono ?_; rintro e w' ⟨rfl, hw⟩; have hw := hw.symm; subst hw)
            | (go_at_call 37; go_must (refine (rN_any va bs.length vc bs (zigV (asI pn)) _ HSS.out z1 z2 (by have := HX.out; omega)).mono ?_); rintro e w3 ⟨v3, rfl, hown3, hb3⟩; have HO3 := hide (hown3.mono (base' := w.heap.size) (by omega)); have HQ3 := hide (wrote_step (v := v3) (bs := bs) HP.out hown3 hb3); have HW3 := hide (HP.out.1.keep hb3); have hb3' := hb2.trans (hb3.mono (by omega)); clear hown3 hb3))
          go_roundw
          case rel => exact ⟨k + 1, by omega, by go_num, by rw [HT.out]; exact HW3.out, by rw [HT.out]; exact HO3.out, HQ3.out, hb3'⟩
          case measure => simp [intOf]; omega
        · have h1' : (pk == 1) = false := by simp [h1]
          by_cases h2 : pk = 2
          · subst h2
            rw [HE2.out rfl] at HT
            have HSB : Hid (∀ w', Below w.heap.size w w' → SrcB w' pa pl pb) := fun w' hw => (HBB.out.keep hw).src
            have HOF : Hid (OffB pa (fun k => w.heap.size ≤ k) ∨ pl = 0) := by
              rcases HBB.out.2.2.2.2 with h | ⟨g', off', rfl, hg', _⟩
              · exact .inr h
              · refine .inl ?_
                intro x hx
                cases hx
                show ¬ _ ≤ g'
                omega
            go_wp2_with (first
              | (go_at_call 34; refine (wTextO w.heap.size w.heap.size bs pa pl pc pb _ (HW.out.keep (new_below _ _)) (HSB.out _ (hb.alloc hsz _)) (HOF.out.imp_left (fun h x hx hW => h x hx ((HW.out.keep (new_below _ _)).lt hW).2)) (by omega) (by have := HX.out; omega) (by simp; omega)).mono ?_; rintro e w2 ⟨rfl, hpost⟩; have hbox := (hpost.cell (g := wr.heap.size) (i := 2) (by simp) (HW.out.off_new (new_below _ _) (Nat.le_refl _))).trans (show _ = some (Value.slice pa pl pc) by simp); have hpost' := WPost.ahead HW.out (new_below _ _) hpost; have HP := hide hpost'; have hb2 := hb.trans (hpost'.below HW.out hsz); have hsz2 := hpost'.2.1.size; have hsrc := (HO.out.off hpost' HQ.out).src; obtain ⟨sa, sc, se, hss, -⟩ := hsrc; cases se; have HSS := hide hss; clear hpost hpost' hss)
              | (go_at_call 39; go_must (refine (rText_any va bs.length vc bs pa pl pc pb _ HSS.out (HSB.out _ hb2) (by have := HX.out; omega) (by omega)).mono ?_); rintro e w3 ⟨v3, rfl, hown3, hb3⟩; have HO3 := hide (hown3.mono (base' := w.heap.size) (by omega)); have HQ3 := hide (wrote_step (v := v3) (bs := bs) HP.out hown3 hb3); have HW3 := hide (HP.out.1.keep hb3); have hb3' := hb2.trans (hb3.mono (by omega)); clear hown3 hb3))
            go_roundw
            case rel => exact ⟨k + 1, by omega, by go_num, by rw [HT.out]; exact HW3.out, by rw [HT.out]; exact HO3.out, HQ3.out, hb3'⟩
            case measure => simp [intOf]; omega
          · have h2' : (pk == 2) = false := by simp [h2]
            rw [HE3.out h0 h1 h2] at HT
            go_wp2_with (first
              | (go_at_call 35; refine (wValue_any w.heap.size w.heap.size bs vk vn vs _ (HW.out.keep (new_below _ _)) HVF.out (by have := HX.out; omega) (by simp; omega)).mono ?_; rintro e w2 ⟨rfl, hpost⟩; have hbox3 := (hpost.cell (g := wr.heap.size) (i := 3) (by simp) (HW.out.off_new (new_below _ _) (Nat.le_refl _))).trans (show _ = some (Value.int .i64 vk) by simp); have hbox4 := (hpost.cell (g := wr.heap.size) (i := 4) (by simp) (HW.out.off_new (new_below _ _) (Nat.le_refl _))).trans (show _ = some (Value.int .i64 vn) by simp); have hbox5 := (hpost.cell (g := wr.heap.size) (i := 5) (by simp) (HW.out.off_new (new_below _ _) (Nat.le_refl _))).trans (show _ = some (Value.string vs) by simp); have hpost' := WPost.ahead HW.out (new_below _ _) hpost; have HP := hide hpost'; have hb2 := hb.trans (hpost'.below HW.out hsz); have hsz2 := hpost'.2.1.size; have hsrc := (HO.out.off hpost' HQ.out).src; obtain ⟨sa, sc, se, hss, -⟩ := hsrc; cases se; have HSS := hide hss; clear hpost hpost' hss)
              | (go_at_call 40; go_must (refine (rVal_any va bs.length vc bs vk vn vs _ HSS.out HVF.out (by have := HX.out; omega) (.inr (by omega))).mono ?_); rintro e w3 ⟨v3, rfl, hown3, hb3⟩; have HO3 := hide (hown3.mono (base' := w.heap.size) (by omega)); have HQ3 := hide (wrote_step (v := v3) (bs := bs) HP.out hown3 hb3); have HW3 := hide (HP.out.1.keep hb3); have hb3' := hb2.trans (hb3.mono (by omega)); clear hown3 hb3))
            go_roundw
            case rel => exact ⟨k + 1, by omega, by go_num, by rw [HT.out]; exact HW3.out, by rw [HT.out]; exact HO3.out, HQ3.out, hb3'⟩
            case measure => simp [intOf]; omega
    · have hkl : k = len := by omega
      subst hkl
      rw [List.take_of_length_le (by rw [HL.out]; exact Nat.le_refl _)] at HW HO HX
      go_wp2_with (first
        | (go_at_call 36; refine (wBytes_any w.heap.size w.heap.size _ _ HW.out (by have := HX.out; omega)).mono ?_; rintro e w2 ⟨v2, rfl, hown2, hb2⟩; have HO2 := hide (hown2.mono (base' := w.heap.size) hsz); have HO3 := hide (HO.out.keep hb2); have hb2' := hb.trans (hb2.mono hsz); clear hown2 hb2))
      go_ret2
      exact ⟨_, _, rfl, HO2.out, HO3.out, hb2'⟩

end Go.Proofs.Ytpaidekocooliaa
