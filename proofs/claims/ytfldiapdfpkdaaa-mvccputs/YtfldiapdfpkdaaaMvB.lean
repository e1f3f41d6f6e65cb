/- The reference's Drop. -/
import Derived.Test.YtfldiapdfpkdaaaMvA
namespace Go.Proofs.Ytfldiapdfpkdaaa
open Go.RowKit NumMath Go.ChangeShapes Go.WideShapes Go.Deep
set_option linter.unusedVariables false
set_option maxRecDepth 100000

theorem isIt_c (txn : Int) (m : MC) : isItC txn m.c = isIt txn m := rfl

theorem intents_t (ms : List MC) (txn : Int) : ((ms.filter (isIt txn)).map MC.mb).map MB.t = intentsC (ms.map MC.c) txn := by
  unfold intentsC
  rw [List.filter_map, List.map_map, List.map_map]
  rfl

theorem CellPost.trans {F : Nat → Prop} {w0 w w1 w2 : World} {p : Nat} {cv cv1 cv2 : Value} {st1 st2 : List Cel} {ms1 ms2 : List MC} (h1 : CellPost F w0 w p cv st1 w1 cv1 ms1) (h2 : CellPost F w0 w1 p cv1 st2 w2 cv2 ms2) : CellPost F w0 w p cv st2 w2 cv2 ms2 :=
  ⟨h2.is, h2.eq, keeps_sp h1.kp h1.at' h2.kp, by
    rcases h2.at' with e | ⟨g, e, hle⟩
    · rcases h1.at' with e1 | ⟨g1, e1, hle1⟩
      · exact .inl (e.trans e1)
      · exact .inr ⟨g1, e.trans e1, hle1⟩
    · exact .inr ⟨g, e, Nat.le_trans h1.kp.size hle⟩⟩

/-- keys that were told lie where they lay, outside the store's own blocks -/
def KeysOk (F : Nat → Prop) (w : World) (p : Nat) (cv : Value) (ks : List MB) : Prop := ∀ k ∈ ks, IsBytes w k.a k.n k.c k.t ∧ Out (SpF F p cv) k.a k.n

theorem KeysOk.next {F : Nat → Prop} {w0 w w' : World} {p : Nat} {cv cv' : Value} {st : List Cel} {ms' : List MC} {ks : List MB} (h : KeysOk F w p cv ks) (hp : CellPost F w0 w p cv st w' cv' ms') : KeysOk F w' p cv' ks := by
  intro k hk
  obtain ⟨h1, h2⟩ := h k hk
  refine ⟨h1.lies (hp.kp.wider (Y := SpF F p cv) (fun k hk => .inl hk)) h2, h2.more (isB_blk h1) ?_⟩
  rintro x ((hx | hx) | hx)
  · exact .inl (.inl (.inl hx))
  · rcases hp.at' with e | ⟨g, e, hle⟩
    · rw [e] at hx; exact .inl (.inl (.inr hx))
    · rw [e] at hx; cases hx; exact .inr hle
  · exact .inl (.inr hx)

/-- a slice that lies in none of the store's own blocks -/
def OffS (p : Nat) (cv v : Value) : Prop := ∀ b, v.ownBlock = some b → ¬ Sp p cv b

theorem OffS.next {F : Nat → Prop} {w0 w w' : World} {p : Nat} {cv cv' v : Value} {st : List Cel} {ms' : List MC} (h : OffS p cv v) (hv : ∀ g, v.ownBlock = some g → g < w.heap.size) (hp : CellPost F w0 w p cv st w' cv' ms') : OffS p cv' v := by
  intro b hb hx
  rcases hx with hx | hx
  · exact h b hb (.inl hx)
  · rcases hp.at' with e | ⟨g, e, hle⟩
    · rw [e] at hx; exact h b hb (.inr hx)
    · rw [e] at hx; cases hx; have := hv _ hb; omega

theorem OwnY.sp {α : Type} {L : Lay α} {w w' : World} {base p : Nat} {cv v : Value} {xs : List α} (h : OwnY L w base v xs) (ho : OffS p cv v) (hk : Keeps (Sp p cv) w w') : OwnY L w' base v xs :=
  h.lies (fun g hg => hk.block g (h.lt g hg).2 (ho g hg))

set_option maxHeartbeats 4000000 in
theorem drop_any (F : Nat → Prop) (w0 w : World) (p : Nat) (cv : Value) (ms : List MC) (h : IsXs F w0 w p cv ms) (hs : SortC (ms.map MC.c)) (hf : ms.length ≤ 100000) (hkl : ∀ m ∈ ms, m.kn ≤ 100000) (txn : Int) :
    Calls Try.prog 31 #[.pointer (some ⟨p, 0, none⟩), .int .u64 txn] w fun e w' => e = .returned (.int .i64 (intentsC (ms.map MC.c) txn).length) ∧ ∃ cv' ms', CellPost F w0 w p cv (dropK (ms.map MC.c) txn) w' cv' ms' := by
  have HIn := hide (intents_any F w0 w p cv ms h hf txn)
  have HT := hide (intents_t ms txn)
  have HKs := hide (intents_keys (ms.map MC.c) txn)
  have HKn : Hid (∀ k ∈ (ms.filter (isIt txn)).map MC.mb, k.n ≤ 100000) := by
    intro k hk
    obtain ⟨m, hm, rfl⟩ := List.mem_map.1 hk
    exact hkl m (List.mem_filter.1 hm).1
  have HKo : Hid (KeysOk F w p cv ((ms.filter (isIt txn)).map MC.mb)) := by
    intro k hk
    obtain ⟨m, hm, rfl⟩ := List.mem_map.1 hk
    have := h.ok m (List.mem_filter.1 hm).1
    exact ⟨this.key, this.ko⟩
  have HD : Hid (dropK (ms.map MC.c) txn = (intentsC (ms.map MC.c) txn).foldl dropF (ms.map MC.c)) := by show _ = _; rfl
  have HSo := hide hs
  have HH := hide h
  have hOff0 : ∀ (v : Value), (∀ g, v.ownBlock = some g → w.heap.size ≤ g) → OffS p cv v := by
    rintro v hv b hb (e | e)
    · have := hv b hb; have := h.lt; omega
    · have := hv b hb; have := (h.own.lt b e).2; omega
  have HOff := hide hOff0
  have hstl : (ms.map MC.c).length ≤ 100000 := by rw [List.length_map]; exact hf
  generalize hks : (ms.filter (isIt txn)).map MC.mb = ks at *
  generalize dropK (ms.map MC.c) txn = stD at *
  generalize intentsC (ms.map MC.c) txn = kt at *
  have hkl' : ks.length = kt.length := by rw [← HT.out, List.length_map]
  have hkb : ks.length ≤ 100000 := by
    rw [← hks, List.length_map]
    exact Nat.le_trans (List.length_filter_le _ _) hf
  have HPs := hide (fun W (hW : Below w.heap.size w W) => CellPost.same h hW)
  generalize ms.map MC.c = st at *
  clear h hs hkl hOff0 hks
  go_enter Try.func31, Try.ntmps31
  go_wp2_with (first
    | (go_at_call 18; go_must (refine HIn.out.mono ?_); rintro e w1 ⟨v, rfl, ho, hb⟩; have HO := hide ho; have HB := hide hb; obtain ⟨la, ln, lc, rfl⟩ := ho.any3; have hln := ho.len; clear ho hb))
  have hlc : (lc : Int) ≤ 9223372036854775807 := by have := hln.2.2; unfold maxLen at this; omega
  have hlnk : Hid (kt.length = ln) := by show _ = _; omega
  have hksn : Hid (ks.length = ln) := hln.1
  have hle := hln.2
  clear hkl' hln
  go_loopg [14] ln (fun gk ix wr => ∃ (j : Nat) (cvr : Value) (msr : List MC), gk = ln - j ∧ ix = .int .i64 j ∧ j ≤ ln ∧ CellPost F w0 w p cv ((kt.take j).foldl dropF st) wr cvr msr ∧ KeysOk F wr p cvr ks ∧ OwnY layT wr w.heap.size (.slice la ln lc) ks ∧ OffS p cvr (.slice la ln lc))
  case atStart => exact ⟨0, cv, ms, rfl, rfl, Nat.zero_le _, HPs.out _ HB.out, HKo.out.next (HPs.out _ HB.out), HO.out, HOff.out _ (fun g hg => (HO.out.lt g hg).1)⟩
  case round =>
    obtain ⟨j, cvr, msr, rfl, rfl, hj, hP, hKo, hOw, hOf⟩ := hrel
    have HPr := hide hP
    have HKr := hide hKo
    have HOw := hide hOw
    have HOf := hide hOf
    have cp := hP.is.c
    clear hP hKo hOw hOf
    by_cases hjl : j < ln
    · have hjI : (j : Int) < (ln : Int) := by omega
      obtain ⟨k, hk⟩ : ∃ k, ks[j]? = some k := ⟨_, List.getElem?_eq_getElem (by have := hksn.out; omega)⟩
      have hkt : kt[j]? = some k.t := by rw [← HT.out, List.getElem?_map, hk]; rfl
      have hkey : k.t ∈ keysC st := HKs.out _ (List.mem_of_getElem? hkt)
      have HFs := hide (foldl_take_succ5 dropF st kt j k.t hkt)
      have hkj := dropFs_keys (kt.take j) st HSo.out (fun x hx => HKs.out x (List.mem_of_mem_take hx))
      generalize (kt.take j).foldl dropF st = stj at *
      have hlj : msr.length ≤ 100000 := by
        have h1 := keys_len hkj
        have h2 := congrArg List.length HPr.out.eq
        rw [List.length_map] at h2
        omega
      obtain ⟨hkb', hko'⟩ := HKr.out k (List.mem_of_getElem? hk)
      have hcell := cell_any F w0 _ p cvr msr HPr.out.is hlj k.a k.n k.c k.t hkb' (HKn.out k (List.mem_of_getElem? hk))
      rw [HPr.out.eq] at hcell
      have HCl := hide hcell
      have HAt := hide (insC_at stj k.t)
      have HDf : Hid (dropF stj k.t = (insC stj k.t).modify (plc stj k.t) (setIt ver0)) := by show _ = _; rfl
      generalize dropF stj k.t = stn at *
      generalize plc stj k.t = i at *
      generalize insC stj k.t = st1 at *
      rcases HOw.out.form with ⟨e, eo⟩ | ⟨gl, cl, e, _, hgl, _, _, hCl, _⟩
      · exfalso; rw [eo] at hk; simp at hk
      cases e
      have dk : wr.cell? ⟨gl, j, none⟩ = some (.slice k.a k.n k.c) := by
        have := hCl j k hk 0 _ rfl
        simpa [layT] using this
      clear hCl hcell hkb' hko'
      go_wp2_with (first
        | (go_at_call 50; go_must (refine HCl.out.mono ?_); rintro e w2 ⟨cv2, ms2, rfl, hpost⟩; have HPo := hide hpost; obtain ⟨d0, hd0⟩ := HAt.out; have hd1 := hd0; rw [← hpost.eq, List.getElem?_map] at hd1; obtain ⟨m2, hm2, hmd⟩ := Option.map_eq_some_iff.1 hd1; obtain ⟨g, cap, rfl, hg, hcap, hmx, hr, hfr⟩ := hpost.is.at hm2; have c2 := hpost.is.c; have hil : (i : Int) < (ms2.length : Int) := (by have := (List.getElem?_eq_some_iff.1 hm2).1; omega); have hcapI : (cap : Int) ≤ 9223372036854775807 := (by unfold maxLen at hmx; omega); obtain ⟨-, -, x2, x3, x4, x5, x6⟩ := rangeC hr; have y3 : w2.cell? ⟨g, i * 7 + 2 + 1, none⟩ = some (.int .u64 m2.it.v.tx) := x3; have y4 : w2.cell? ⟨g, i * 7 + 2 + 2, none⟩ = some (.bool m2.it.v.dd) := x4; have y5 : w2.cell? ⟨g, i * 7 + 2 + 3, none⟩ = some (.slice m2.it.va m2.it.vn m2.it.vc) := x5; have y6 : w2.cell? ⟨g, i * 7 + 2 + 4, none⟩ = some (.slice m2.it.ka m2.it.kn m2.it.kc) := x6; have HFin := hide (CellPost.setIt (Below.refl _ _) hpost hm2 (Below.refl _ _) mv0 (mv0_ok w0)); clear hpost hr hd1 x3 x4 x5 x6))
      have hfin := HFin.out
      have hver : mv0.v = ver0 := rfl
      rw [hver, ← HDf.out] at hfin
      go_roundg (ks.length - (j + 1))
      case measure => omega
      case rel => exact ⟨j + 1, _, _, rfl, by go_num, by omega, by rw [HFs.out]; exact HPr.out.trans hfin, HKr.out.next hfin, HOw.out.sp HOf.out hfin.kp, HOf.out.next (fun g hg => (HOw.out.lt g hg).2) hfin⟩
    · have hjI : ¬ (j : Int) < (ln : Int) := by omega
      have ej : kt.take j = kt := List.take_of_length_le (by have := hlnk.out; omega)
      have HFn := HPr.out
      rw [ej, ← HD.out] at HFn
      have HF2 := hide HFn
      clear HFn
      go_wp2
      go_ret
      exact ⟨by rw [hlnk.out]; rfl, _, _, HF2.out⟩

end Go.Proofs.Ytfldiapdfpkdaaa
