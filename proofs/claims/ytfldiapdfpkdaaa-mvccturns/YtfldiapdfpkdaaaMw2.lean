/- Keys with their versions, as plain lists: keys rise; intents dropped and turned, key by key. The reference's Drop. The reference's Turn. -/
import Derived.Test.YtfldiapdfpkdaaaMw1
namespace Go.Proofs.Ytfldiapdfpkdaaa
set_option linter.unusedVariables false

/-- keys rise -/
def SortC (st : List Cel) : Prop := st.Pairwise (fun a b => lessL a.key b.key = true)

theorem lessL_trans : ∀ (a b c : List Int), lessL a b = true → lessL b c = true → lessL a c = true := by
  intro a
  induction a with
  | nil =>
    intro b c h1 h2
    cases c with
    | nil => cases b <;> simp [lessL] at h2
    | cons z r => rfl
  | cons x xs ih =>
    intro b c h1 h2
    cases b with
    | nil => simp [lessL] at h1
    | cons y ys =>
      cases c with
      | nil => simp [lessL] at h2
      | cons z zs =>
        simp only [lessL, Bool.or_eq_true, Bool.and_eq_true, decide_eq_true_eq] at h1 h2 ⊢
        rcases h1 with h1 | ⟨h1, h1'⟩
        · rcases h2 with h2 | ⟨h2, h2'⟩
          · exact .inl (by omega)
          · exact .inl (by omega)
        · rcases h2 with h2 | ⟨h2, h2'⟩
          · exact .inl (by omega)
          · exact .inr ⟨by omega, ih ys zs h1' h2'⟩

theorem plc_mem : ∀ (st : List Cel), SortC st → ∀ (j : Nat) (c : Cel), st[j]? = some c → plc st c.key = j := by
  intro st
  induction st with
  | nil => intro _ j c h; simp at h
  | cons d r ih =>
    intro hs j c h
    have hs' := List.pairwise_cons.1 hs
    unfold plc
    rw [List.takeWhile_cons]
    cases j with
    | zero =>
      simp at h
      subst h
      rw [lessL_self]
      simp
    | succ j =>
      have h' : r[j]? = some c := by simpa using h
      rw [hs'.1 c (List.mem_of_getElem? h'), if_pos rfl, List.length_cons]
      have := ih hs'.2 j c h'
      unfold plc at this
      omega

theorem isAt_mem {st : List Cel} (hs : SortC st) {j : Nat} {c : Cel} (h : st[j]? = some c) : isAt st c.key = true := by
  unfold isAt
  rw [plc_mem st hs j c h, h]
  simp

theorem insC_mem {st : List Cel} (hs : SortC st) {c : Cel} (h : c ∈ st) : insC st c.key = st := by
  obtain ⟨j, hj⟩ := List.getElem?_of_mem h
  unfold insC
  rw [isAt_mem hs hj, if_pos rfl]

def keysC (st : List Cel) : List (List Int) := st.map Cel.key

theorem sort_keys {st st' : List Cel} (h : keysC st' = keysC st) (hs : SortC st) : SortC st' := by
  have e : ∀ l : List Cel, SortC l ↔ (keysC l).Pairwise (fun a b => lessL a b = true) := by
    intro l
    unfold SortC keysC
    rw [List.pairwise_map]
  rw [e, h, ← e]
  exact hs

theorem insC_sort {st : List Cel} (hs : SortC st) (key : List Int) : SortC (insC st key) := by
  unfold insC
  split
  · exact hs
  · rename_i hz
    have hp := plc_le st key
    unfold SortC
    rw [List.pairwise_append]
    have hs' : SortC (st.take (plc st key) ++ st.drop (plc st key)) := by rw [List.take_append_drop]; exact hs
    unfold SortC at hs'
    rw [List.pairwise_append] at hs'
    have hlow : ∀ c ∈ st.take (plc st key), lessL c.key key = true := by
      intro c hc
      obtain ⟨j, hj⟩ := List.getElem?_of_mem hc
      rw [List.getElem?_take] at hj
      split at hj
      · rename_i hlt
        obtain ⟨d, hd, hl⟩ := plc_below st key j hlt
        rw [hd] at hj
        cases hj
        exact hl
      · cases hj
    have hhigh : ∀ c ∈ st.drop (plc st key), lessL key c.key = true := by
      intro c hc
      obtain ⟨j, hj⟩ := List.getElem?_of_mem hc
      rw [List.getElem?_drop] at hj
      have hlt := (List.getElem?_eq_some_iff.1 hj).1
      obtain ⟨d, hd⟩ : ∃ d, st[plc st key]? = some d := ⟨_, List.getElem?_eq_getElem (by omega)⟩
      have h1 := plc_at st key d hd
      have h2 : d.key ≠ key := fun e => by
        unfold isAt at hz
        rw [hd] at hz
        simp [e] at hz
      have h3 : lessL key d.key = true := by
        cases e : lessL key d.key with
        | true => rfl
        | false => exact absurd (lessL_total _ _ h1 e) h2
      cases j with
      | zero => rw [Nat.add_zero, hd] at hj; cases hj; exact h3
      | succ j =>
        have := List.pairwise_iff_getElem.1 hs (plc st key) (plc st key + (j + 1)) (by omega) hlt (by omega)
        rw [(List.getElem?_eq_some_iff.1 hd).2, (List.getElem?_eq_some_iff.1 hj).2] at this
        exact lessL_trans _ _ _ h3 this
    refine ⟨hs'.1, List.pairwise_cons.2 ⟨hhigh, hs'.2.1⟩, fun a ha b hb => ?_⟩
    rcases List.mem_cons.1 hb with rfl | hb
    · exact hlow a ha
    · exact lessL_trans _ _ _ (hlow a ha) (hhigh b hb)

theorem keys_modify (f : Cel → Cel) (hf : ∀ c, (f c).key = c.key) : ∀ (st : List Cel) (i : Nat), keysC (st.modify i f) = keysC st := by
  intro st
  induction st with
  | nil => intro i; simp [keysC]
  | cons c r ih =>
    intro i
    cases i with
    | zero => simp [keysC, hf]
    | succ j => have := ih j; unfold keysC at this ⊢; simp [this]

/-- an intent dropped, by its key -/
def dropF (st : List Cel) (k : List Int) : List Cel := (insC st k).modify (plc st k) (setIt ver0)

def isItC (txn : Int) (c : Cel) : Bool := decide (txn ≠ 0 ∧ c.it.tx = txn)

def intentsC (st : List Cel) (txn : Int) : List (List Int) := (st.filter (isItC txn)).map Cel.key

/-- a transaction's intents dropped -/
def dropK (st : List Cel) (txn : Int) : List Cel := (intentsC st txn).foldl dropF st

theorem mem_keys {st : List Cel} {k : List Int} (h : k ∈ keysC st) : ∃ c ∈ st, c.key = k := List.mem_map.1 h

theorem dropF_keys {st : List Cel} (hs : SortC st) {k : List Int} (h : k ∈ keysC st) : keysC (dropF st k) = keysC st := by
  obtain ⟨c, hc, rfl⟩ := mem_keys h
  unfold dropF
  rw [insC_mem hs hc]
  exact keys_modify (setIt ver0) (fun _ => rfl) _ _

theorem dropFs_keys : ∀ (ks : List (List Int)) (st : List Cel), SortC st → (∀ k ∈ ks, k ∈ keysC st) → keysC (ks.foldl dropF st) = keysC st := by
  intro ks
  induction ks with
  | nil => intro st _ _; rfl
  | cons k r ih =>
    intro st hs h
    have h1 := dropF_keys hs (h k (List.mem_cons_self ..))
    rw [List.foldl_cons, ih _ (sort_keys h1 hs) (fun x hx => by rw [h1]; exact h x (List.mem_cons_of_mem _ hx)), h1]

theorem intents_keys (st : List Cel) (txn : Int) : ∀ k ∈ intentsC st txn, k ∈ keysC st := by
  intro k hk
  obtain ⟨c, hc, rfl⟩ := List.mem_map.1 hk
  exact List.mem_map.2 ⟨c, (List.mem_filter.1 hc).1, rfl⟩

theorem keys_len {st st' : List Cel} (h : keysC st' = keysC st) : st'.length = st.length := by
  have := congrArg List.length h
  simpa [keysC] using this

end Go.Proofs.Ytfldiapdfpkdaaa

namespace Go.Proofs.Ytfldiapdfpkdaaa
open Go.RowKit NumMath Go.ChangeShapes Go.WideShapes Go.Deep
set_option linter.unusedVariables false
set_option maxRecDepth 100000

theorem isIt_c (txn : Int) (m : MC) : isItC txn m.c = isIt txn m := rfl

theorem intents_t (ms : List MC) (txn : Int) : ((ms.filter (isIt txn)).map MC.mb).map MB.t = intentsC (ms.map MC.c) txn := by
  unfold intentsC
  rw [List.filter_map, List.map_map, List.map_map]
  rfl

theorem CellPost.trans {F : Nat → Prop} {w0 w w1 w2 : World} {p : Nat} {cv cv1 cv2 : Value} {st1 st2 : List Cel} {ms1 ms2 : List MC} (h1 : CellPost F w0 w p cv st1 w1 cv1 ms1) (h2 : CellPost F w0 w1 p cv1 st2 w2 cv2 ms2) : CellPost F w0 w p cv st2 w2 cv2 ms2 :=
  ⟨h2.is, h2.eq, keeps_sp h1.kp h1.at' h2.kp, by
    rcases h2.at' with e | ⟨g, e, hle⟩
    · rcases h1.at' with e1 | ⟨g1, e1, hle1⟩
      · exact .inl (e.trans e1)
      · exact .inr ⟨g1, e.trans e1, hle1⟩
    · exact .inr ⟨g, e, Nat.le_trans h1.kp.size hle⟩⟩

/-- keys that were told lie where they lay, outside the store's own blocks -/
def KeysOk (F : Nat → Prop) (w : World) (p : Nat) (cv : Value) (ks : List MB) : Prop := ∀ k ∈ ks, IsBytes w k.a k.n k.c k.t ∧ Out (SpF F p cv) k.a k.n

theorem KeysOk.next {F : Nat → Prop} {w0 w w' : World} {p : Nat} {cv cv' : Value} {st : List Cel} {ms' : List MC} {ks : List MB} (h : KeysOk F w p cv ks) (hp : CellPost F w0 w p cv st w' cv' ms') : KeysOk F w' p cv' ks := by
  intro k hk
  obtain ⟨h1, h2⟩ := h k hk
  refine ⟨h1.lies (hp.kp.wider (Y := SpF F p cv) (fun k hk => .inl hk)) h2, h2.more (isB_blk h1) ?_⟩
  rintro x ((hx | hx) | hx)
  · exact .inl (.inl (.inl hx))
  · rcases hp.at' with e | ⟨g, e, hle⟩
    · rw [e] at hx; exact .inl (.inl (.inr hx))
    · rw [e] at hx; cases hx; exact .inr hle
  · exact .inl (.inr hx)

/-- a slice that lies in none of the store's own blocks -/
def OffS (p : Nat) (cv v : Value) : Prop := ∀ b, v.ownBlock = some b → ¬ Sp p cv b

theorem OffS.next {F : Nat → Prop} {w0 w w' : World} {p : Nat} {cv cv' v : Value} {st : List Cel} {ms' : List MC} (h : OffS p cv v) (hv : ∀ g, v.ownBlock = some g → g < w.heap.size) (hp : CellPost F w0 w p cv st w' cv' ms') : OffS p cv' v := by
  intro b hb hx
  rcases hx with hx | hx
  · exact h b hb (.inl hx)
  · rcases hp.at' with e | ⟨g, e, hle⟩
    · rw [e] at hx; exact h b hb (.inr hx)
    · rw [e] at hx; cases hx; have := hv _ hb; omega

theorem OwnY.sp {α : Type} {L : Lay α} {w w' : World} {base p : Nat} {cv v : Value} {xs : List α} (h : OwnY L w base v xs) (ho : OffS p cv v) (hk : Keeps (Sp p cv) w w') : OwnY L w' base v xs :=
  h.lies (fun g hg => hk.block g (h.lt g hg).2 (ho g hg))

set_option maxHeartbeats 4000000 in
theorem drop_any (F : Nat → Prop) (w0 w : World) (p : Nat) (cv : Value) (ms : List MC) (h : IsXs F w0 w p cv ms) (hs : SortC (ms.map MC.c)) (hf : ms.length ≤ 100000) (hkl : ∀ m ∈ ms, m.kn ≤ 100000) (txn : Int) :
    Calls Try.prog 31 #[.pointer (some ⟨p, 0, none⟩), .int .u64 txn] w fun e w' => e = .returned (.int .i64 (intentsC (ms.map MC.c) txn).length) ∧ ∃ cv' ms', CellPost F w0 w p cv (dropK (ms.map MC.c) txn) w' cv' ms' := by
  have HIn := hide (intents_any F w0 w p cv ms h hf txn)
  have HT := hide (intents_t ms txn)
  have HKs := hide (intents_keys (ms.map MC.c) txn)
  have HKn : Hid (∀ k ∈ (ms.filter (isIt txn)).map MC.mb, k.n ≤ 100000) := by
    intro k hk
    obtain ⟨m, hm, rfl⟩ := List.mem_map.1 hk
    exact hkl m (List.mem_filter.1 hm).1
  have HKo : Hid (KeysOk F w p cv ((ms.filter (isIt txn)).map MC.mb)) := by
    intro k hk
    obtain ⟨m, hm, rfl⟩ := List.mem_map.1 hk
    have := h.ok m (List.mem_filter.1 hm).1
    exact ⟨this.key, this.ko⟩
  have HD : Hid (dropK (ms.map MC.c) txn = (intentsC (ms.map MC.c) txn).foldl dropF (ms.map MC.c)) := by show _ = _; rfl
  have HSo := hide hs
  have HH := hide h
  have hOff0 : ∀ (v : Value), (∀ g, v.ownBlock = some g → w.heap.size ≤ g) → OffS p cv v := by
    rintro v hv b hb (e | e)
    · have := hv b hb; have := h.lt; omega
    · have := hv b hb; have := (h.own.lt b e).2; omega
  have HOff := hide hOff0
  have hstl : (ms.map MC.c).length ≤ 100000 := by rw [List.length_map]; exact hf
  generalize hks : (ms.filter (isIt txn)).map MC.mb = ks at *
  generalize dropK (ms.map MC.c) txn = stD at *
  generalize intentsC (ms.map MC.c) txn = kt at *
  have hkl' : ks.length = kt.length := by rw [← HT.out, List.length_map]
  have hkb : ks.length ≤ 100000 := by
    rw [← hks, List.length_map]
    exact Nat.le_trans (List.length_filter_le _ _) hf
  have HPs := hide (fun W (hW : Below w.heap.size w W) => CellPost.same h hW)
  generalize ms.map MC.c = st at *
  clear h hs hkl hOff0 hks
  go_enter Try.func31, Try.ntmps31
  go_wp2_with (first
    | (go_at_call 18; go_must (refine HIn.out.mono ?_); rintro e w1 ⟨v, rfl, ho, hb⟩; have HO := hide ho; have HB := hide hb; obtain ⟨la, ln, lc, rfl⟩ := ho.any3; have hln := ho.len; clear ho hb))
  have hlc : (lc : Int) ≤ 9223372036854775807 := by have := hln.2.2; unfold maxLen at this; omega
  have hlnk : Hid (kt.length = ln) := by show _ = _; omega
  have hksn : Hid (ks.length = ln) := hln.1
  have hle := hln.2
  clear hkl' hln
  go_loopg [14] ln (fun gk ix wr => ∃ (j : Nat) (cvr : Value) (msr : List MC), gk = ln - j ∧ ix = .int .i64 j ∧ j ≤ ln ∧ CellPost F w0 w p cv ((kt.take j).foldl dropF st) wr cvr msr ∧ KeysOk F wr p cvr ks ∧ OwnY layT wr w.heap.size (.slice la ln lc) ks ∧ OffS p cvr (.slice la ln lc))
  case atStart => exact ⟨0, cv, ms, rfl, rfl, Nat.zero_le _, HPs.out _ HB.out, HKo.out.next (HPs.out _ HB.out), HO.out, HOff.out _ (fun g hg => (HO.out.lt g hg).1)⟩
  case round =>
    obtain ⟨j, cvr, msr, rfl, rfl, hj, hP, hKo, hOw, hOf⟩ := hrel
    have HPr := hide hP
    have HKr := hide hKo
    have HOw := hide hOw
    have HOf := hide hOf
    have cp := hP.is.c
    clear hP hKo hOw hOf
    by_cases hjl : j < ln
    · have hjI : (j : Int) < (ln : Int) := by omega
      obtain ⟨k, hk⟩ : ∃ k, ks[j]? = some k := ⟨_, List.getElem?_eq_getElem (by have := hksn.out; omega)⟩
      have hkt : kt[j]? = some k.t := by rw [← HT.out, List.getElem?_map, hk]; rfl
      have hkey : k.t ∈ keysC st := HKs.out _ (List.mem_of_getElem? hkt)
      have HFs := hide (foldl_take_succ5 dropF st kt j k.t hkt)
      have hkj := dropFs_keys (kt.take j) st HSo.out (fun x hx => HKs.out x (List.mem_of_mem_take hx))
      generalize (kt.take j).foldl dropF st = stj at *
      have hlj : msr.length ≤ 100000 := by
        have h1 := keys_len hkj
        have h2 := congrArg List.length HPr.out.eq
        rw [List.length_map] at h2
        omega
      obtain ⟨hkb', hko'⟩ := HKr.out k (List.mem_of_getElem? hk)
      have hcell := cell_any F w0 _ p cvr msr HPr.out.is hlj k.a k.n k.c k.t hkb' (HKn.out k (List.mem_of_getElem? hk))
      rw [HPr.out.eq] at hcell
      have HCl := hide hcell
      have HAt := hide (insC_at stj k.t)
      have HDf : Hid (dropF stj k.t = (insC stj k.t).modify (plc stj k.t) (setIt ver0)) := by show _ = _; rfl
      generalize dropF stj k.t = stn at *
      generalize plc stj k.t = i at *
      generalize insC stj k.t = st1 at *
      rcases HOw.out.form with ⟨e, eo⟩ | ⟨gl, cl, e, _, hgl, _, _, hCl, _⟩
      · exfalso; rw [eo] at hk; simp at hk
      cases e
      have dk : wr.cell? ⟨gl, j, none⟩ = some (.slice k.a k.n k.c) := by
        have := hCl j k hk 0 _ rfl
        simpa [layT] using this
      clear hCl hcell hkb' hko'
      go_wp2_with (first
        | (go_at_call 50; go_must (refine HCl.out.mono ?_); rintro e w2 ⟨cv2, ms2, rfl, hpost⟩; have HPo := hide hpost; obtain ⟨d0, hd0⟩ := HAt.out; have hd1 := hd0; rw [← hpost.eq, List.getElem?_map] at hd1; obtain ⟨m2, hm2, hmd⟩ := Option.map_eq_some_iff.1 hd1; obtain ⟨g, cap, rfl, hg, hcap, hmx, hr, hfr⟩ := hpost.is.at hm2; have c2 := hpost.is.c; have hil : (i : Int) < (ms2.length : Int) := (by have := (List.getElem?_eq_some_iff.1 hm2).1; omega); have hcapI : (cap : Int) ≤ 9223372036854775807 := (by unfold maxLen at hmx; omega); obtain ⟨-, -, x2, x3, x4, x5, x6⟩ := rangeC hr; have y3 : w2.cell? ⟨g, i * 7 + 2 + 1, none⟩ = some (.int .u64 m2.it.v.tx) := x3; have y4 : w2.cell? ⟨g, i * 7 + 2 + 2, none⟩ = some (.bool m2.it.v.dd) := x4; have y5 : w2.cell? ⟨g, i * 7 + 2 + 3, none⟩ = some (.slice m2.it.va m2.it.vn m2.it.vc) := x5; have y6 : w2.cell? ⟨g, i * 7 + 2 + 4, none⟩ = some (.slice m2.it.ka m2.it.kn m2.it.kc) := x6; have HFin := hide (CellPost.setIt (Below.refl _ _) hpost hm2 (Below.refl _ _) mv0 (mv0_ok w0)); clear hpost hr hd1 x3 x4 x5 x6))
      have hfin := HFin.out
      have hver : mv0.v = ver0 := rfl
      rw [hver, ← HDf.out] at hfin
      go_roundg (ks.length - (j + 1))
      case measure => omega
      case rel => exact ⟨j + 1, _, _, rfl, by go_num, by omega, by rw [HFs.out]; exact HPr.out.trans hfin, HKr.out.next hfin, HOw.out.sp HOf.out hfin.kp, HOf.out.next (fun g hg => (HOw.out.lt g hg).2) hfin⟩
    · have hjI : ¬ (j : Int) < (ln : Int) := by omega
      have ej : kt.take j = kt := List.take_of_length_le (by have := hlnk.out; omega)
      have HFn := HPr.out
      rw [ej, ← HD.out] at HFn
      have HF2 := hide HFn
      clear HFn
      go_wp2
      go_ret
      exact ⟨by rw [hlnk.out]; rfl, _, _, HF2.out⟩

end Go.Proofs.Ytfldiapdfpkdaaa

namespace Go.Proofs.Ytfldiapdfpkdaaa
open Go.RowKit NumMath Go.ChangeShapes Go.WideShapes Go.Deep
set_option linter.unusedVariables false
set_option maxRecDepth 100000

/-- an intent turned into a version, by its key -/
def turnF (ts : Int) (st : List Cel) (k : List Int) : List Cel := match (insC st k)[plc st k]? with
  | some c => putC ((insC st k).modify (plc st k) (setIt ver0)) k { c.it with ts := ts }
  | none => insC st k

def turnK (st : List Cel) (txn ts : Int) : List Cel := (intentsC st txn).foldl (turnF ts) st

theorem putC_keys {st : List Cel} (hs : SortC st) {k : List Int} (h : k ∈ keysC st) (v : Ver) : keysC (putC st k v) = keysC st := by
  obtain ⟨c, hc, rfl⟩ := mem_keys h
  unfold putC
  rw [insC_mem hs hc]
  exact keys_modify (setVs (putP Ver.ts v)) (fun _ => rfl) _ _

theorem turnF_keys (ts : Int) {st : List Cel} (hs : SortC st) {k : List Int} (h : k ∈ keysC st) : keysC (turnF ts st k) = keysC st := by
  have h0 := h
  obtain ⟨c, hc, rfl⟩ := mem_keys h
  unfold turnF
  rw [insC_mem hs hc]
  have h1 := keys_modify (setIt ver0) (fun _ => rfl) st (plc st c.key)
  split
  · rw [putC_keys (sort_keys h1 hs) (by rw [h1]; exact h0), h1]
  · rfl

theorem turnFs_keys (ts : Int) : ∀ (ks : List (List Int)) (st : List Cel), SortC st → (∀ k ∈ ks, k ∈ keysC st) → keysC (ks.foldl (turnF ts) st) = keysC st := by
  intro ks
  induction ks with
  | nil => intro st _ _; rfl
  | cons k r ih =>
    intro st hs h
    have h1 := turnF_keys ts hs (h k (List.mem_cons_self ..))
    rw [List.foldl_cons, ih _ (sort_keys h1 hs) (fun x hx => by rw [h1]; exact h x (List.mem_cons_of_mem _ hx)), h1]

/-- no key has more than b versions -/
def FewV (b : Nat) (st : List Cel) : Prop := ∀ c ∈ st, c.vs.length ≤ b

theorem FewV.ins {b : Nat} {st : List Cel} (h : FewV b st) (k : List Int) : FewV b (insC st k) := by
  intro c hc
  rcases insC_vs st k c hc with h1 | h1
  · rw [h1]; exact Nat.zero_le _
  · exact h c h1

theorem mem_modify {α : Type} (f : α → α) : ∀ (l : List α) (i : Nat) (x : α), x ∈ l.modify i f → x ∈ l ∨ ∃ y ∈ l, x = f y := by
  intro l
  induction l with
  | nil => intro i x h; simp at h
  | cons c r ih =>
    intro i x h
    cases i with
    | zero =>
      simp at h
      rcases h with h | h
      · exact .inr ⟨c, List.mem_cons_self .., h⟩
      · exact .inl (List.mem_cons_of_mem _ h)
    | succ j =>
      simp at h
      rcases h with h | h
      · exact .inl (by rw [h]; exact List.mem_cons_self ..)
      · rcases ih j x h with h1 | ⟨y, hy, e⟩
        · exact .inl (List.mem_cons_of_mem _ h1)
        · exact .inr ⟨y, List.mem_cons_of_mem _ hy, e⟩

theorem putP_len {α : Type} (ts : α → Int) (v : α) (vs : List α) : (putP ts v vs).length ≤ vs.length + 2 := by
  have h := foldP_len ts v vs ([], false)
  unfold putP
  dsimp only
  split
  · simp at h; omega
  · rw [List.length_append]; simp at h ⊢; omega

theorem FewV.put {b : Nat} {st : List Cel} (h : FewV b st) (k : List Int) (v : Ver) : FewV (b + 2) (putC st k v) := by
  intro c hc
  unfold putC at hc
  rcases mem_modify _ _ _ _ hc with h1 | ⟨y, hy, rfl⟩
  · have := h.ins k c h1; omega
  · have h1 := h.ins k y hy
    have h2 := putP_len Ver.ts v y.vs
    show (putP Ver.ts v y.vs).length ≤ _
    omega

theorem FewV.setIt {b : Nat} {st : List Cel} (h : FewV b st) (i : Nat) (v : Ver) : FewV b (st.modify i (setIt v)) := by
  intro c hc
  rcases mem_modify _ _ _ _ hc with h1 | ⟨y, hy, rfl⟩
  · exact h c h1
  · exact h y hy

theorem FewV.turn {b : Nat} {st : List Cel} (h : FewV b st) (ts : Int) (k : List Int) : FewV (b + 2) (turnF ts st k) := by
  unfold turnF
  split
  · exact ((h.ins k).setIt _ _).put k _
  · intro c hc; have := h.ins k c hc; omega

theorem FewV.turns (ts : Int) : ∀ (ks : List (List Int)) (b : Nat) (st : List Cel), FewV b st → FewV (b + 2 * ks.length) (ks.foldl (turnF ts) st) := by
  intro ks
  induction ks with
  | nil => intro b st h; exact h
  | cons k r ih =>
    intro b st h
    have := ih (b + 2) _ (h.turn ts k)
    rw [List.foldl_cons, List.length_cons]
    rw [show b + 2 * (r.length + 1) = b + 2 + 2 * r.length by omega]
    exact this

theorem len_of {ms : List MC} {st : List Cel} {b : Nat} (h : ms.map MC.c = st) (hl : st.length ≤ b) : ms.length ≤ b := by
  rw [← h, List.length_map] at hl; exact hl

theorem few_of {ms : List MC} {st : List Cel} (h : ms.map MC.c = st) (hl : FewV 60000 st) : ∀ m ∈ ms, m.vs.length ≤ 100000 := by
  intro m hm
  have h1 : m.c ∈ st := by rw [← h]; exact List.mem_map_of_mem hm
  have h2 := hl _ h1
  have h3 : m.c.vs.length = m.vs.length := by show (m.vs.map MV.v).length = _; rw [List.length_map]
  omega

set_option maxHeartbeats 4000000 in
theorem turn_any (F : Nat → Prop) (w0 w : World) (p : Nat) (cv : Value) (ms : List MC) (h : IsXs F w0 w p cv ms) (hs : SortC (ms.map MC.c)) (hf : ms.length ≤ 20000) (hfv : ∀ m ∈ ms, m.vs.length ≤ 20000) (hkl : ∀ m ∈ ms, m.kn ≤ 100000) (txn ts : Int) :
    Calls Try.prog 29 #[.pointer (some ⟨p, 0, none⟩), .int .u64 txn, .int .u64 ts] w fun e w' => e = .returned (.int .i64 (intentsC (ms.map MC.c) txn).length) ∧ ∃ cv' ms', CellPost F w0 w p cv (turnK (ms.map MC.c) txn ts) w' cv' ms' := by
  have HIn := hide (intents_any F w0 w p cv ms h (by omega) txn)
  have HT := hide (intents_t ms txn)
  have HKs := hide (intents_keys (ms.map MC.c) txn)
  have HKn : Hid (∀ k ∈ (ms.filter (isIt txn)).map MC.mb, k.n ≤ 100000) := by
    intro k hk
    obtain ⟨m, hm, rfl⟩ := List.mem_map.1 hk
    exact hkl m (List.mem_filter.1 hm).1
  have HKo : Hid (KeysOk F w p cv ((ms.filter (isIt txn)).map MC.mb)) := by
    intro k hk
    obtain ⟨m, hm, rfl⟩ := List.mem_map.1 hk
    have := h.ok m (List.mem_filter.1 hm).1
    exact ⟨this.key, this.ko⟩
  have HD : Hid (turnK (ms.map MC.c) txn ts = (intentsC (ms.map MC.c) txn).foldl (turnF ts) (ms.map MC.c)) := by show _ = _; rfl
  have HSo := hide hs
  have HFv : Hid (FewV 20000 (ms.map MC.c)) := by
    intro c hc
    obtain ⟨m, hm, rfl⟩ := List.mem_map.1 hc
    show (m.vs.map MV.v).length ≤ _
    rw [List.length_map]
    exact hfv m hm
  have HH := hide h
  have hOff0 : ∀ (v : Value), (∀ g, v.ownBlock = some g → w.heap.size ≤ g) → OffS p cv v := by
    rintro v hv b hb (e | e)
    · have := hv b hb; have := h.lt; omega
    · have := hv b hb; have := (h.own.lt b e).2; omega
  have HOff := hide hOff0
  have hstl : (ms.map MC.c).length ≤ 20000 := by rw [List.length_map]; exact hf
  generalize hks : (ms.filter (isIt txn)).map MC.mb = ks at *
  generalize turnK (ms.map MC.c) txn ts = stD at *
  generalize intentsC (ms.map MC.c) txn = kt at *
  have hkl' : ks.length = kt.length := by rw [← HT.out, List.length_map]
  have hkb : ks.length ≤ 20000 := by
    rw [← hks, List.length_map]
    exact Nat.le_trans (List.length_filter_le _ _) hf
  have HPs := hide (fun W (hW : Below w.heap.size w W) => CellPost.same h hW)
  generalize ms.map MC.c = st at *
  clear h hs hkl hOff0 hks hfv
  go_enter Try.func29, Try.ntmps29
  go_wp2_with (first
    | (go_at_call 18; go_must (refine HIn.out.mono ?_); rintro e w1 ⟨v, rfl, ho, hb⟩; have HO := hide ho; have HB := hide hb; obtain ⟨la, ln, lc, rfl⟩ := ho.any3; have hln := ho.len; clear ho hb))
  have hlc : (lc : Int) ≤ 9223372036854775807 := by have := hln.2.2; unfold maxLen at this; omega
  have hlnk : Hid (kt.length = ln) := by show _ = _; omega
  have hksn : Hid (ks.length = ln) := hln.1
  have hle := hln.2
  clear hkl' hln
  go_loopg [17] ln (fun gk ix wr => ∃ (j : Nat) (cvr : Value) (msr : List MC), gk = ln - j ∧ ix = .int .i64 j ∧ j ≤ ln ∧ CellPost F w0 w p cv ((kt.take j).foldl (turnF ts) st) wr cvr msr ∧ KeysOk F wr p cvr ks ∧ OwnY layT wr w.heap.size (.slice la ln lc) ks ∧ OffS p cvr (.slice la ln lc))
  case atStart => exact ⟨0, cv, ms, rfl, rfl, Nat.zero_le _, HPs.out _ HB.out, HKo.out.next (HPs.out _ HB.out), HO.out, HOff.out _ (fun g hg => (HO.out.lt g hg).1)⟩
  case round =>
    obtain ⟨j, cvr, msr, rfl, rfl, hj, hP, hKo, hOw, hOf⟩ := hrel
    have HPr := hide hP
    have HKr := hide hKo
    have HOw := hide hOw
    have HOf := hide hOf
    have cp := hP.is.c
    clear hP hKo hOw hOf
    by_cases hjl : j < ln
    · have hjI : (j : Int) < (ln : Int) := by omega
      obtain ⟨k, hk⟩ : ∃ k, ks[j]? = some k := ⟨_, List.getElem?_eq_getElem (by have := hksn.out; omega)⟩
      have hkt : kt[j]? = some k.t := by rw [← HT.out, List.getElem?_map, hk]; rfl
      have hkey : k.t ∈ keysC st := HKs.out _ (List.mem_of_getElem? hkt)
      have HFs := hide (foldl_take_succ5 (turnF ts) st kt j k.t hkt)
      have hkj := turnFs_keys ts (kt.take j) st HSo.out (fun x hx => HKs.out x (List.mem_of_mem_take hx))
      have hfj := FewV.turns ts (kt.take j) 20000 st HFv.out
      have hfj2 : FewV 60000 ((kt.take j).foldl (turnF ts) st) := fun c hc => by
        have := hfj c hc
        rw [List.length_take] at this
        have := hlnk.out
        have := hksn.out
        omega
      have HFj := hide hfj2
      clear hfj hfj2
      generalize (kt.take j).foldl (turnF ts) st = stj at *
      have hlj : msr.length ≤ 100000 := by
        have h1 := keys_len hkj
        have h2 := congrArg List.length HPr.out.eq
        rw [List.length_map] at h2
        omega
      obtain ⟨hkb', hko'⟩ := HKr.out k (List.mem_of_getElem? hk)
      have hcell := cell_any F w0 _ p cvr msr HPr.out.is hlj k.a k.n k.c k.t hkb' (HKn.out k (List.mem_of_getElem? hk))
      rw [HPr.out.eq] at hcell
      have HCl := hide hcell
      have HAt := hide (insC_at stj k.t)
      have HTf : Hid (∀ c, (insC stj k.t)[plc stj k.t]? = some c → turnF ts stj k.t = putC ((insC stj k.t).modify (plc stj k.t) (setIt ver0)) k.t { c.it with ts := ts }) := fun c hc => by unfold turnF; rw [hc]
      have HFi : Hid (FewV 60000 ((insC stj k.t).modify (plc stj k.t) (setIt ver0))) := (HFj.out.ins _).setIt _ _
      have hl1 := insC_len stj k.t
      have hlj2 : msr.length ≤ 20000 := by
        have h1 := keys_len hkj
        have h2 := congrArg List.length HPr.out.eq
        rw [List.length_map] at h2
        omega
      have hlj3 : stj.length = msr.length := by rw [← HPr.out.eq, List.length_map]
      have HL1 : Hid ((insC stj k.t).length ≤ 100000) := by show _ ≤ _; omega
      have hkn := HKn.out k (List.mem_of_getElem? hk)
      clear hl1 hlj2 hlj3
      generalize turnF ts stj k.t = stn at *
      generalize plc stj k.t = i at *
      generalize insC stj k.t = st1 at *
      rcases HOw.out.form with ⟨e, eo⟩ | ⟨gl, cl, e, _, hgl, _, _, hCl, _⟩
      · exfalso; rw [eo] at hk; simp at hk
      cases e
      have dk : wr.cell? ⟨gl, j, none⟩ = some (.slice k.a k.n k.c) := by
        have := hCl j k hk 0 _ rfl
        simpa [layT] using this
      clear hCl hcell hkb' hko'
      go_wp2_with (first
        | (go_at_call 26; go_must (refine (put_any cell_any F w0 _ p _ _ HI4.out HL4.out HV4.out k.a k.n k.c k.t HK4.out hkn { m2.it with v := { m2.it.v with ts := ts } } HM4.out).mono ?_); rintro e w5 ⟨rfl, cv5, ms5, hp5⟩; have HP5 := hide hp5; clear hp5)
        | (go_at_call 50; go_must (refine HCl.out.mono ?_); rintro e w2 ⟨cv2, ms2, rfl, hpost⟩; obtain ⟨d0, hd0⟩ := HAt.out; have hd1 := hd0; rw [← hpost.eq, List.getElem?_map] at hd1; obtain ⟨m2, hm2, hmd⟩ := Option.map_eq_some_iff.1 hd1; obtain ⟨g, cap, rfl, hg, hcap, hmx, hr, hfr⟩ := hpost.is.at hm2; have c2 := hpost.is.c; have hp2 := hpost.is.lt; have hpn1 : ¬ p = w2.heap.size := (by omega); have hpn2 : ¬ w2.heap.size = p := (by omega); have hgn1 : ¬ g = w2.heap.size := (by omega); have hgn2 : ¬ w2.heap.size = g := (by omega); have hil : (i : Int) < (ms2.length : Int) := (by have := (List.getElem?_eq_some_iff.1 hm2).1; omega); have hcapI : (cap : Int) ≤ 9223372036854775807 := (by unfold maxLen at hmx; omega); obtain ⟨-, -, x2, x3, x4, x5, x6⟩ := rangeC hr; have y3 : w2.cell? ⟨g, i * 7 + 2 + 1, none⟩ = some (.int .u64 m2.it.v.tx) := x3; have y4 : w2.cell? ⟨g, i * 7 + 2 + 2, none⟩ = some (.bool m2.it.v.dd) := x4; have y5 : w2.cell? ⟨g, i * 7 + 2 + 3, none⟩ = some (.slice m2.it.va m2.it.vn m2.it.vc) := x5; have y6 : w2.cell? ⟨g, i * 7 + 2 + 4, none⟩ = some (.slice m2.it.ka m2.it.kn m2.it.kc) := x6; have HFin := hide (CellPost.setIt (Below.refl _ _) hpost hm2 (Below.refl _ _) mv0 (mv0_ok w0)); have HM4 : Hid (MV.ok w0 { m2.it with v := { m2.it.v with ts := ts } }) := (hpost.is.ok m2 (List.mem_of_getElem? hm2)).iok; have HNb := hide (new_below (w2.setCells g (i * 7 + 2) (layV.cells mv0)) (.cells #[.int .u64 ts, .int .u64 m2.it.v.tx, .bool m2.it.v.dd, .slice m2.it.va m2.it.vn m2.it.vc, .slice m2.it.ka m2.it.kn m2.it.kc] 36)); have HI4 := hide (HFin.out.is.keep HNb.out); have HP4 := hide (HFin.out.trans (CellPost.same HFin.out.is HNb.out)); have HK4 := hide ((HKr.out.next HP4.out) k (List.mem_of_getElem? hk)).1; have HE4 := hide HFin.out.eq; have HL4 := hide (len_of HFin.out.eq (by rw [List.length_modify]; exact HL1.out)); have HV4 := hide (few_of HFin.out.eq HFi.out); have HTd := hide (HTf.out d0 hd0); have HMd := hide hmd; clear hpost hr hd1 x3 x4 x5 x6))
      have hfin := HP4.out.trans HP5.out
      have ev : (⟨ts, m2.it.v.tx, m2.it.v.dd, m2.it.v.val, m2.it.v.ks⟩ : Ver) = { d0.it with ts := ts } := by rw [← HMd.out]; rfl
      have hver : mv0.v = ver0 := rfl
      rw [HE4.out, hver, ev, ← HTd.out] at hfin
      go_roundg (ks.length - (j + 1))
      case measure => omega
      case rel => exact ⟨j + 1, _, _, rfl, by go_num, by omega, by rw [HFs.out]; exact HPr.out.trans hfin, HKr.out.next hfin, HOw.out.sp HOf.out hfin.kp, HOf.out.next (fun g hg => (HOw.out.lt g hg).2) hfin⟩
    · have hjI : ¬ (j : Int) < (ln : Int) := by omega
      have ej : kt.take j = kt := List.take_of_length_le (by have := hlnk.out; omega)
      have HFn := HPr.out
      rw [ej, ← HD.out] at HFn
      have HF2 := hide HFn
      clear HFn
      go_wp2
      go_ret
      exact ⟨by rw [hlnk.out]; rfl, _, _, HF2.out⟩

end Go.Proofs.Ytfldiapdfpkdaaa
