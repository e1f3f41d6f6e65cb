/- The reference's record: logs that are alike but for what is new; a reader of the reference at work. The reference's record: a hard state, and what is none. The reference's record: an entry. -/
import Derived.Test.YtjeijeaogdednaaRpD
import Derived.Test.YtjeijeaogdednaaRwXread2
namespace Go.Proofs.Ytjeijeaogdednaa
open Go.RowKit NumMath
set_option linter.unusedVariables false
set_option maxRecDepth 100000

/-- the same but for what is new -/
def Alike (L M : LogS) : Prop := M.s = L.s ∧ M.es = L.es

theorem alike_app {L M : LogS} (h : Alike L M) (es : List Ent) : (appL M es).1 = (appL L es).1 ∧ Alike (appL L es).2 (appL M es).2 := by
  obtain ⟨h1, h2⟩ := h
  obtain ⟨s, es0, y, f⟩ := L
  obtain ⟨s', es', y', f'⟩ := M
  dsimp only at h1 h2
  subst h1
  subst h2
  by_cases h0 : es = []
  · subst h0
    rw [appL_nil, appL_nil]
    exact ⟨rfl, rfl, rfl⟩
  · by_cases hF : Fits ⟨s', es', y, f⟩ es
    · have hF' : Fits ⟨s', es', y', f'⟩ es := hF
      rw [appL_yes h0 hF, appL_yes h0 hF']
      exact ⟨rfl, rfl, rfl⟩
    · have hF' : ¬ Fits ⟨s', es', y', f'⟩ es := hF
      rw [appL_no h0 hF, appL_no h0 hF']
      exact ⟨rfl, rfl, rfl⟩

theorem alike_rest {L M : LogS} (h : Alike L M) (s : Snp) : restL M s = restL L s := by
  obtain ⟨h1, h2⟩ := h
  obtain ⟨s0, es0, y, f⟩ := L
  obtain ⟨s', es', y', f'⟩ := M
  dsimp only at h1 h2
  subst h1
  subst h2
  rfl

theorem alike_rec {h : Int × Int} {L M : LogS} (a : Alike L M) (bs : List Int) : (recL h M bs).1 = (recL h L bs).1 ∧ (recL h M bs).2.1 = (recL h L bs).2.1 ∧ Alike (recL h L bs).2.2 (recL h M bs).2.2 := by
  unfold recL
  by_cases h1 : (rdN 3 (some bs)).1 = 1
  · rw [if_pos h1, if_pos h1]; exact ⟨rfl, rfl, a⟩
  · rw [if_neg h1, if_neg h1]
    by_cases h2 : (rdN 3 (some bs)).1 = 2
    · rw [if_pos h2, if_pos h2]
      by_cases h3 : (entOf (rdN 3 (some bs)).2).2 = 0
      · rw [if_pos h3, if_pos h3]
        have := alike_app a [(entOf (rdN 3 (some bs)).2).1]
        exact ⟨this.1, rfl, this.2⟩
      · rw [if_neg h3, if_neg h3]; exact ⟨rfl, rfl, a⟩
    · rw [if_neg h2, if_neg h2]
      by_cases h3 : (rdN 3 (some bs)).1 = 3
      · rw [if_pos h3, if_pos h3]
        cases hs : snapOf (rdN 3 (some bs)).2 with
        | none => exact ⟨rfl, rfl, a⟩
        | some s => exact ⟨rfl, rfl, rfl, alike_rest a s⟩
      · rw [if_neg h3, if_neg h3]; exact ⟨rfl, rfl, a⟩

theorem good_alike {L M : LogS} (hG : L.Good) (a : Alike L M) (y0 : 0 ≤ M.dirty) (y1 : M.dirty ≤ 18446744073709551615) : M.Good := by
  obtain ⟨h1, h2⟩ := a
  exact ⟨by rw [h1]; exact hG.i0, by rw [h1]; exact hG.i1, by rw [h1]; exact hG.t0, by rw [h1]; exact hG.t1, by rw [h1]; exact hG.m0, by rw [h1]; exact hG.m1, by rw [h1]; exact hG.d1, by rw [h2]; exact hG.n, by rw [h1, h2]; exact hG.at_, by rw [h2]; exact hG.ok, y0, y1⟩

theorem clean_alike {L M : LogS} (a : Alike L M) : M.clean = L.clean := by
  unfold LogS.clean
  rw [a.1, a.2]

/-- what records make of a good log is good -/
theorem rep_good : ∀ (ts : List (List Int)) (h : Int × Int) (L : LogS), L.Good → L.es.length + ts.length ≤ 40000 → (∀ t ∈ ts, t.length ≤ 1000 ∧ ∀ c ∈ t, 0 ≤ c ∧ c < 256) → (repL h L ts).1 = 0 → (repL h L ts).2.2.Good ∧ (repL h L ts).2.2.es.length ≤ L.es.length + ts.length
  | [], h, L, hG, hn, ht, h0 => ⟨hG, by show L.es.length ≤ _; omega⟩
  | b :: r, h, L, hG, hn, ht, h0 => by
    have hb := ht b (List.mem_cons_self ..)
    rw [List.length_cons] at hn ⊢
    obtain ⟨g1, g2⟩ := good_rec (h := h) (L := L) (bs := b) hG (by omega) hb.2 hb.1
    rw [repL] at h0 ⊢
    by_cases hz : (recL h L b).1 = 0
    · rw [if_pos hz] at h0 ⊢
      have := rep_good r _ _ g1 (by omega) (fun t hm => ht t (List.mem_cons_of_mem _ hm)) h0
      exact ⟨this.1, by omega⟩
    · rw [if_neg hz] at h0
      exact absurd h0 hz

/-- a reader of the reference at work: the call's boxes (the hard state that came in, the answer, the reader) are the first three new blocks -/
structure XS (w : World) (q : Nat) (h : Int × Int) (st : Option (List Int)) (W : World) : Prop where
  rd : IsR false W (w.heap.size + 2) q st
  bl : Below w.heap.size w W
  a : Box2 W w.heap.size (.int .u64 h.1) (.int .u64 h.2)
  b : Box2 W (w.heap.size + 1) (.int .u64 0) (.int .u64 0)
  hq : q ≤ w.heap.size

theorem XS.lt {w : World} {q : Nat} {h : Int × Int} {st : Option (List Int)} {W : World} (H : XS w q h st W) : w.heap.size + 2 < W.heap.size := H.rd.at

theorem XS.call {w : World} {q : Nat} {h : Int × Int} {st st' : Option (List Int)} {W W' : World} (H : XS w q h st W) (k : RPost false W (w.heap.size + 2) q st' W') : XS w q h st' W' := by
  have hlt := H.lt
  exact ⟨k.1, H.bl.trans (k.2.below H.bl.size (fun i hi => by omega)), H.a.same (k.2.block _ (by omega) (by omega)), H.b.same (k.2.block _ (by omega) (by omega)), H.hq⟩

theorem XS.below {w : World} {q : Nat} {h : Int × Int} {st : Option (List Int)} {W W' : World} (H : XS w q h st W) (k : Below W.heap.size W W') : XS w q h st W' :=
  H.call ⟨H.rd.keep k, Below.keeps k _⟩

theorem XS.set {w : World} {q : Nat} {h : Int × Int} {st : Option (List Int)} {W : World} (H : XS w q h st W) {g : Nat} (hg : w.heap.size + 2 < g) (i : Nat) (v : Value) : XS w q h st (W.setCell ⟨g, i, none⟩ v) := by
  have hq := H.hq
  have hk : Keeps (fun k => k = g) W (W.setCell ⟨g, i, none⟩ v) := Keeps.set v
  exact ⟨H.rd.lies hk (by omega) (by omega), H.bl.trans (hk.below H.bl.size (fun i hi => by omega)), H.a.same (hk.block _ (by have := H.lt; omega) (by omega)), H.b.same (hk.block _ (by have := H.lt; omega) (by omega)), hq⟩

theorem xs_new {w : World} {a : Option Addr} {len cap q : Nat} {bs : List Int} (h : Int × Int) (hI : IsBytes w a len cap bs) (hq : len ≠ 0 → ∀ x, a = some x → x.block = q) (hq2 : q ≤ w.heap.size) (t1 t2 t3 : TypeId) :
    XS w q h (some bs) (((w.alloc (.cells #[.int .u64 h.1, .int .u64 h.2] t1)).alloc (.cells #[.int .u64 0, .int .u64 0] t2)).alloc (.cells #[.slice a len cap, .bool false] t3)) := by
  have b1 := new_below w (.cells #[.int .u64 h.1, .int .u64 h.2] t1)
  have b2 := new_below (w.alloc (.cells #[.int .u64 h.1, .int .u64 h.2] t1)) (.cells #[.int .u64 0, .int .u64 0] t2)
  have b3 := new_below ((w.alloc (.cells #[.int .u64 h.1, .int .u64 h.2] t1)).alloc (.cells #[.int .u64 0, .int .u64 0] t2)) (.cells #[.slice a len cap, .bool false] t3)
  refine ⟨isR_new false t3 _ a len cap bs _ q (by simp) ((hI.keep b1).keep b2) ?_ (by omega), (b1.trans (b2.mono b1.size)).trans (b3.mono (Nat.le_trans b1.size b2.size)), ((box2_new w _ _ t1 _ rfl).same (b2.block _ (by simp))).same (b3.block _ (by simp; omega)), (box2_new _ _ _ t2 _ (by simp)).same (b3.block _ (by simp)), hq2⟩
  intro h0 x hx
  refine ⟨hq h0 x hx, ?_⟩
  rcases hI.2.2.2.2 with h | ⟨g, off, e, hg, _⟩
  · exact absurd h h0
  · rw [hx] at e
    cases e
    have := hq h0 _ hx
    dsimp only at this
    simp
    omega

/-- the answer is laid -/
theorem XS.fin {w : World} {q : Nat} {h : Int × Int} {st : Option (List Int)} {W : World} (H : XS w q h st W) (u0 u1 : Value) :
    Box2 ((W.setCell ⟨w.heap.size + 1, 0, none⟩ u0).setCell ⟨w.heap.size + 1, 1, none⟩ u1) (w.heap.size + 1) u0 u1 ∧ Below w.heap.size w ((W.setCell ⟨w.heap.size + 1, 0, none⟩ u0).setCell ⟨w.heap.size + 1, 1, none⟩ u1) := by
  have hk : Keeps (fun k => k = w.heap.size + 1) W ((W.setCell ⟨w.heap.size + 1, 0, none⟩ u0).setCell ⟨w.heap.size + 1, 1, none⟩ u1) := ((Keeps.self _ W).also _).also _
  exact ⟨(H.b.set0 u0).set1 u1, H.bl.trans (hk.below H.bl.size (fun i hi => by omega))⟩

/-- what the reference's one leaves -/
def OnePost (X : Nat → Prop) (w : World) (base p : Nat) (x : Int × (Int × Int) × LogS) (e : Ending) (w' : World) : Prop :=
  SPost 4 w p w' ∧ ∃ t v, e = .returned (.tuple #[.agg #[.int .u64 t, .int .u64 v], .int .i64 x.1]) ∧ (x.1 = 0 → (t, v) = x.2.1 ∧ ∃ L', Alike x.2.2 L' ∧ (0 ≤ L'.dirty ∧ L'.dirty ≤ 18446744073709551615) ∧ IsL (fun k => X k ∨ SB 4 w' p k) w' base p L')

theorem one_bad {X : Nat → Prop} {w w' : World} {base p : Nat} {x : Int × (Int × Int) × LogS} {h : Int × Int} (hp : p < w.heap.size) (hb : Below w.heap.size w w') (hx : x.1 = 30) : OnePost X w base p x (.returned (.tuple #[.agg #[.int .u64 h.1, .int .u64 h.2], .int .i64 30])) w' :=
  ⟨SPost.of_below hp hb, h.1, h.2, by rw [hx], fun e => by rw [hx] at e; cases e⟩

theorem one_calm {X : Nat → Prop} {w w' : World} {base p : Nat} {h : Int × Int} {L : LogS} (hL : IsL X w base p L) (hG : L.Good) (hb : Below w.heap.size w w') : OnePost X w base p (0, h, L) (.returned (.tuple #[.agg #[.int .u64 h.1, .int .u64 h.2], .int .i64 0])) w' :=
  ⟨SPost.of_below hL.at hb, h.1, h.2, rfl, fun _ => ⟨rfl, L, ⟨rfl, rfl⟩, ⟨hG.y0, hG.y1⟩, isL_wide (hL.keep hb)⟩⟩

/-- the log has been changed, then the answer is laid -/
theorem one_log {X : Nat → Prop} {w W w5 : World} {base p q : Nat} {h : Int × Int} {st : Option (List Int)} {L' : LogS} (H : XS w q h st W) (hp : p < w.heap.size) (hSX : ∀ k, SB 4 w p k → X k) (hX : ∀ k, X k → k < w.heap.size) (h5 : SPost 4 W p w5) (hL : IsL (fun k => (X k ∨ (w.heap.size ≤ k ∧ k ≤ w.heap.size + 2)) ∨ SB 4 w5 p k) w5 base p L') (u0 u1 : Value) :
    Box2 ((w5.setCell ⟨w.heap.size + 1, 0, none⟩ u0).setCell ⟨w.heap.size + 1, 1, none⟩ u1) (w.heap.size + 1) u0 u1 ∧ SPost 4 w p ((w5.setCell ⟨w.heap.size + 1, 0, none⟩ u0).setCell ⟨w.heap.size + 1, 1, none⟩ u1) ∧ IsL (fun k => X k ∨ SB 4 ((w5.setCell ⟨w.heap.size + 1, 0, none⟩ u0).setCell ⟨w.heap.size + 1, 1, none⟩ u1) p k) ((w5.setCell ⟨w.heap.size + 1, 0, none⟩ u0).setCell ⟨w.heap.size + 1, 1, none⟩ u1) base p L' := by
  have hlt := H.lt
  have hk : Keeps (fun k => k = w.heap.size + 1) w5 ((w5.setCell ⟨w.heap.size + 1, 0, none⟩ u0).setCell ⟨w.heap.size + 1, 1, none⟩ u1) := ((Keeps.self _ w5).also _).also _
  have hW : ∀ k, SB 4 W p k → SB 4 w p k := fun k hk => hk.same (H.bl.block p hp)
  have h5s : ∀ k, SB 4 w5 p k → SB 4 w p k ∨ W.heap.size ≤ k := fun k hk => (h5.2 k hk).imp (hW k) id
  have hnS : ∀ k, SB 4 w5 p k → k ≠ w.heap.size + 1 := fun k hk e => (h5s k hk).elim (fun h => by have := hX k (hSX k h); omega) (fun h => by omega)
  have hne : ¬ SB 4 W p (w.heap.size + 1) := fun h => by have := hX _ (hSX _ (hW _ h)); omega
  have eP := hk.block p hL.at (by omega)
  have hS : ∀ k, SB 4 ((w5.setCell ⟨w.heap.size + 1, 0, none⟩ u0).setCell ⟨w.heap.size + 1, 1, none⟩ u1) p k → SB 4 w5 p k := fun k hk => hk.same eP
  refine ⟨((H.b.same (h5.1.block _ (by omega) hne)).set0 u0).set1 u1, ?_, ?_⟩
  · have s5 := SPost.ahead hp H.bl h5
    exact ⟨(s5.1.setNew (by omega) u0).setNew (by omega) u1, fun k hk => s5.2 k (hS k hk)⟩
  · exact (hL.lies hk (fun k e => .inl (.inr (by omega))) (fun k hk e => hnS k hk e)).more (fun k hk => .inl (hk.elim (fun h => .inl (.inl h)) (fun h => .inr (hS k h)))) (fun k hk => .inr hk)

end Go.Proofs.Ytjeijeaogdednaa

namespace Go.Proofs.Ytjeijeaogdednaa
open Go.RowKit NumMath
set_option linter.unusedVariables false
set_option maxRecDepth 100000

set_option maxHeartbeats 400000 in
theorem one_hard (X : Nat → Prop) (w : World) (base p q : Nat) (h1 h2 : Int) (L : LogS) (a : Option Addr) (len cap : Nat) (bs : List Int) (hL : IsL X w base p L) (hG : L.Good) (hI : IsBytes w a len cap bs) (hq : len ≠ 0 → ∀ x, a = some x → x.block = q) (hq2 : q ≤ w.heap.size) (hk : (rdN 3 (some bs)).1 = 1) :
    Calls Try.prog 72 #[.agg #[.int .u64 h1, .int .u64 h2], .pointer (some ⟨p, 0, none⟩), .slice a len cap] w fun e w' => OnePost X w base p ((hardOf (rdN 3 (some bs)).2).2, (hardOf (rdN 3 (some bs)).2).1, L) e w' := by
  have hp := hL.at
  have HL := hide hL
  have HG := hide hG
  have HS0 := hide (xs_new (h1, h2) hI hq hq2 48 48 96)
  have HN := hide (fun (W : World) (hW : IsR false W (w.heap.size + 2) q (some bs)) => xN_any (w.heap.size + 2) q (some bs) 3 W hW (by decide) (by decide))
  rw [hk] at HN
  have HE : Hid (hardOf (rdN 3 (some bs)).2 = (((rdN m64 (rdN 3 (some bs)).2).1, (rdN m64 (rdN m64 (rdN 3 (some bs)).2).2).1), rdEnd (rdN m64 (rdN m64 (rdN 3 (some bs)).2).2).2)) := rfl
  generalize hardOf (rdN 3 (some bs)).2 = ho at *
  generalize (rdN 3 (some bs)).2 = st0 at *
  have HN1 := hide (fun (W : World) (hW : IsR false W (w.heap.size + 2) q st0) => xN_any (w.heap.size + 2) q st0 m64 W hW (by decide) (by decide))
  generalize rdN m64 st0 = r1 at *
  obtain ⟨t, st1⟩ := r1
  dsimp only at *
  have HN2 := hide (fun (W : World) (hW : IsR false W (w.heap.size + 2) q st1) => xN_any (w.heap.size + 2) q st1 m64 W hW (by decide) (by decide))
  generalize rdN m64 st1 = r2 at *
  obtain ⟨v, st2⟩ := r2
  dsimp only at *
  have HEn := hide (fun (W : World) (hW : IsR false W (w.heap.size + 2) q st2) => xend_any (w.heap.size + 2) q st2 W hW)
  have H30 := hide (@rdEnd_30 st2)
  have he := HE.out
  subst he
  generalize rdEnd st2 = er at *
  clear HE hL hG hI hq hq2 hk
  obtain ⟨z, hz⟩ : ∃ z : Bool, (er == 0) = z := ⟨_, rfl⟩
  cases z
  · have her : er = 30 := H30.out (by simpa using hz)
    subst her
    go_enter Try.func72, Try.ntmps72
    go_wp2_with (first
      | (go_at_call 60; go_must (refine (HEn.out _ (by exact HSd.out.rd)).mono ?_); rintro e w' ⟨rfl, hw⟩; have hw := hw.symm; subst hw; obtain ⟨a0, a1, -⟩ := HSd.out.a; obtain ⟨c0, c1, cf⟩ := HSd.out.b; have c0f := cf 0; have c1f := cf 1; clear cf)
      | (go_at_call 59; have hchk := HSb.out; clear hchk; refine (HN2.out _ (by exact HSb.out.rd)).mono ?_; rintro e w3 ⟨rfl, hR3⟩; have hbx := HBx.out.same (hR3.2.block _ (by simp) (by have := HS2.out.lt; omega)); have k1 := hbx.2.1; have k1f := hbx.2.2 1; have HBd := hide (hbx.set1 (.int .u64 v)); have HSd := hide ((HSb.out.call hR3).set (g := w2.heap.size) HS2.out.lt 1 (.int .u64 v)); clear hbx hR3)
      | (go_at_call 59; have hchk := HS1.out; clear hchk; refine (HN1.out _ (by exact HS1.out.rd)).mono ?_; rintro e w2 ⟨rfl, hR2⟩; have HS2 := hide (HS1.out.call hR2); have HSb := hide (HS2.out.below (new_below w2 (.cells #[.int .u64 t, .int .u64 0] 48))); have HBx := hide (box2_new w2 (.int .u64 t) (.int .u64 0) 48 _ rfl); clear hR2)
      | (go_at_call 59; go_must (refine (HN.out _ (by exact HS0.out.rd)).mono ?_); rintro e w1 ⟨rfl, hR1⟩; have HS1 := hide (HS0.out.call hR1); clear hR1))
    have HF := hide (HSd.out.fin (.int .u64 h1) (.int .u64 h2))
    obtain ⟨n0, n1, -⟩ := HF.out.1
    refine bodyPost_ret (v := .tuple #[.agg #[.int .u64 h1, .int .u64 h2], .int .i64 30]) (by simp [results, Try.results72, go_sem, n0, n1]) rfl ?_
    exact one_bad (h := (h1, h2)) hp HF.out.2 rfl
  · have her : er = 0 := by simpa using hz
    subst her
    go_enter Try.func72, Try.ntmps72
    go_wp2_with (first
      | (go_at_call 60; go_must (refine (HEn.out _ (by exact HSd.out.rd)).mono ?_); rintro e w' ⟨rfl, hw⟩; have hw := hw.symm; subst hw; obtain ⟨a0, a1, -⟩ := HBd.out; obtain ⟨c0, c1, cf⟩ := HSd.out.b; have c0f := cf 0; have c1f := cf 1; clear cf)
      | (go_at_call 59; have hchk := HSb.out; clear hchk; refine (HN2.out _ (by exact HSb.out.rd)).mono ?_; rintro e w3 ⟨rfl, hR3⟩; have hbx := HBx.out.same (hR3.2.block _ (by simp) (by have := HS2.out.lt; omega)); have k1 := hbx.2.1; have k1f := hbx.2.2 1; have HBd := hide (hbx.set1 (.int .u64 v)); have HSd := hide ((HSb.out.call hR3).set (g := w2.heap.size) HS2.out.lt 1 (.int .u64 v)); clear hbx hR3)
      | (go_at_call 59; have hchk := HS1.out; clear hchk; refine (HN1.out _ (by exact HS1.out.rd)).mono ?_; rintro e w2 ⟨rfl, hR2⟩; have HS2 := hide (HS1.out.call hR2); have HSb := hide (HS2.out.below (new_below w2 (.cells #[.int .u64 t, .int .u64 0] 48))); have HBx := hide (box2_new w2 (.int .u64 t) (.int .u64 0) 48 _ rfl); clear hR2)
      | (go_at_call 59; go_must (refine (HN.out _ (by exact HS0.out.rd)).mono ?_); rintro e w1 ⟨rfl, hR1⟩; have HS1 := hide (HS0.out.call hR1); clear hR1))
    have HF := hide (HSd.out.fin (.int .u64 t) (.int .u64 v))
    obtain ⟨n0, n1, -⟩ := HF.out.1
    refine bodyPost_ret (v := .tuple #[.agg #[.int .u64 t, .int .u64 v], .int .i64 0]) (by simp [results, Try.results72, go_sem, n0, n1]) rfl ?_
    exact one_calm (h := (t, v)) HL.out HG.out HF.out.2

set_option maxHeartbeats 400000 in
theorem one_none (X : Nat → Prop) (w : World) (base p q : Nat) (h1 h2 : Int) (L M : LogS) (a : Option Addr) (len cap : Nat) (bs : List Int) (hL : IsL X w base p L) (hI : IsBytes w a len cap bs) (hq : len ≠ 0 → ∀ x, a = some x → x.block = q) (hq2 : q ≤ w.heap.size) (hk1 : ¬ (rdN 3 (some bs)).1 = 1) (hk2 : ¬ (rdN 3 (some bs)).1 = 2) (hk3 : ¬ (rdN 3 (some bs)).1 = 3) :
    Calls Try.prog 72 #[.agg #[.int .u64 h1, .int .u64 h2], .pointer (some ⟨p, 0, none⟩), .slice a len cap] w fun e w' => OnePost X w base p (30, (h1, h2), M) e w' := by
  have hp := hL.at
  have HS0 := hide (xs_new (h1, h2) hI hq hq2 48 48 96)
  have HN := hide (fun (W : World) (hW : IsR false W (w.heap.size + 2) q (some bs)) => xN_any (w.heap.size + 2) q (some bs) 3 W hW (by decide) (by decide))
  generalize rdN 3 (some bs) = rr at *
  obtain ⟨k, st1⟩ := rr
  dsimp only at *
  have k1 : (k == 1) = false := by simp [hk1]
  have k2 : (k == 2) = false := by simp [hk2]
  have k3 : (k == 3) = false := by simp [hk3]
  clear hL hI hq hq2 hk1 hk2 hk3
  go_enter Try.func72, Try.ntmps72
  go_wp2_with (first
    | (go_at_call 59; go_must (refine (HN.out _ (by exact HS0.out.rd)).mono ?_); rintro e w1 ⟨rfl, hR1⟩; have HS1 := hide (HS0.out.call hR1); obtain ⟨a0, a1, -⟩ := HS1.out.a; obtain ⟨c0, c1, cf⟩ := HS1.out.b; have c0f := cf 0; have c1f := cf 1; clear cf hR1))
  have HF := hide (HS1.out.fin (.int .u64 h1) (.int .u64 h2))
  obtain ⟨n0, n1, -⟩ := HF.out.1
  refine bodyPost_ret (v := .tuple #[.agg #[.int .u64 h1, .int .u64 h2], .int .i64 30]) (by simp [results, Try.results72, go_sem, n0, n1]) rfl ?_
  exact one_bad (h := (h1, h2)) hp HF.out.2 rfl

end Go.Proofs.Ytjeijeaogdednaa

namespace Go.Proofs.Ytjeijeaogdednaa
open Go.RowKit NumMath
set_option linter.unusedVariables false
set_option maxRecDepth 100000

theorem xapp_one {X : Nat → Prop} {w W : World} {base p g : Nat} {L : LogS} {en : Ent} {a : Option Addr} {n c : Nat} (hL : IsL X w base p L) (hX : ∀ k, X k → k < w.heap.size ∧ base ≤ k) (hlt : w.heap.size + 2 < W.heap.size) (hW : Below w.heap.size w W) (hG : L.Good) (hn : L.es.length ≤ 40000) (hok : en.ok) (hg : g < W.heap.size) (hgp : w.heap.size ≤ g) (hC : CellM W g 0 ⟨en, a, n, c⟩) (hI : IsBytes W a n c en.d) (hy : n ≠ 0 → ∀ y, a = some y → y.block < base) :
    Calls Try.prog 14 #[.pointer (some ⟨p, 0, none⟩), .slice (some ⟨g, 0, none⟩) 1 1] W fun e w' => e = .returned (.int .i64 (appL L [en]).1) ∧ IsL (fun k => (X k ∨ (w.heap.size ≤ k ∧ k ≤ w.heap.size + 2)) ∨ SB 4 w' p k) w' base p (appL L [en]).2 ∧ SPost 4 W p w' := by
  have hp := hL.at
  have hbp := (hL.lt (k := p) SB.at).2.1
  have hY : ∀ k, (X k ∨ (w.heap.size ≤ k ∧ k ≤ w.heap.size + 2)) → k < W.heap.size ∧ base ≤ k := by
    rintro k (hk | hk)
    · have := hX k hk; omega
    · omega
  have hL2 : IsL (fun k => X k ∨ (w.heap.size ≤ k ∧ k ≤ w.heap.size + 2)) W base p L := (hL.more (Y := fun k => X k ∨ (w.heap.size ≤ k ∧ k ≤ w.heap.size + 2)) (fun k hk => hk.imp id And.left) (fun k hk => .inl (hL.lt hk).2.2)).keep hW
  have hd : n = 0 ∨ ∀ y, a = some y → ¬ (X y.block ∨ (w.heap.size ≤ y.block ∧ y.block ≤ w.heap.size + 2)) := by
    by_cases h0 : n = 0
    · exact .inl h0
    · exact .inr (fun y he hx => by have := hy h0 y he; have := hY _ hx; omega)
  exact xapp_any (fun k => X k ∨ (w.heap.size ≤ k ∧ k ≤ w.heap.size + 2)) base p L (some ⟨g, 0, none⟩) 1 1 [⟨en, a, n, c⟩] W hL2 hG (isMs_one _ _ _ _ hg hC ⟨hok, hI, hd⟩) (.inr (fun y hy' => by cases hy'; show g ≠ p; omega)) (by omega) (by omega) (fun k hk => (hY k hk).1) (by omega)

/-- a text that was told, with its room -/
theorem isB_text {w : World} {a : Option Addr} {n c : Nat} {d : List Int} (h : SrcB w a n d) (h1 : n ≤ c) (h2 : c ≤ maxLen) (hb : ∀ x ∈ d, 0 ≤ x ∧ x < 256) : IsBytes w a n c d := ⟨h.1, h1, h2, hb, h.2⟩

theorem isB_setNew {w : World} {a : Option Addr} {n c q g i : Nat} {d : List Int} {v : Value} (h : IsBytes w a n c d) (hq : n ≠ 0 → ∀ x, a = some x → x.block = q) (hg : q ≠ g) : IsBytes (w.setCell ⟨g, i, none⟩ v) a n c d :=
  isB_liesX h (keeps_cell (g := g) (i := i) v) (by
    by_cases h0 : n = 0
    · exact .inl h0
    · exact .inr (fun y hy e => hg (by rw [← hq h0 y hy]; exact e)))

theorem num_nil (most : Int) : (rdN most (some [])).1 = 0 := rfl

set_option maxHeartbeats 800000 in
theorem one_ent (X : Nat → Prop) (w : World) (base p q : Nat) (h1 h2 : Int) (L : LogS) (a : Option Addr) (len cap : Nat) (bs : List Int) (hL : IsL X w base p L) (hX : ∀ k, X k → k < w.heap.size ∧ base ≤ k) (hG : L.Good) (hn : L.es.length ≤ 40000) (hI : IsBytes w a len cap bs) (hq : len ≠ 0 → ∀ x, a = some x → x.block = q) (hqb : q < base) (hl : bs.length ≤ 1000) (hk : (rdN 3 (some bs)).1 = 2) :
    Calls Try.prog 72 #[.agg #[.int .u64 h1, .int .u64 h2], .pointer (some ⟨p, 0, none⟩), .slice a len cap] w fun e w' => OnePost X w base p (if (entOf (rdN 3 (some bs)).2).2 = 0 then ((appL L [(entOf (rdN 3 (some bs)).2).1]).1, (h1, h2), (appL L [(entOf (rdN 3 (some bs)).2).1]).2) else ((entOf (rdN 3 (some bs)).2).2, (h1, h2), L)) e w' := by
  have hp := hL.at
  have hbp := (hL.lt (k := p) SB.at).2.1
  have hq2 : q ≤ w.heap.size := by omega
  have HS0 := hide (xs_new (h1, h2) hI hq hq2 48 48 96)
  have hby0 : Byt (some bs) := by intro xs hx; cases hx; exact hI.2.2.2.1
  have hby := byt_rdN 3 (some bs) hby0 (by decide)
  have hlf := left_rdN 3 (some bs) hby0
  have hlb : rdLeft (some bs) = bs.length := rfl
  obtain ⟨hok, hdl, hlf3⟩ := entOf_ok _ hby
  have hb2 := byt_rdN m64 _ (byt_rdN m64 _ hby (by decide)) (by decide)
  have hb3 : Byt (rdI (rdN m64 (rdN m64 (rdN 3 (some bs)).2).2).2).2 := byt_rdN m64 _ hb2 (by decide)
  have HBy := hide (byt_rdT m63 _ hb3).1
  have hbd := rdT_bound _ hb3 (by omega)
  have HN := hide (fun (W : World) (hW : IsR false W (w.heap.size + 2) q (some bs)) => xN_any (w.heap.size + 2) q (some bs) 3 W hW (by decide) (by decide))
  rw [hk] at HN
  have HE : Hid (entOf (rdN 3 (some bs)).2 = (⟨(rdN m64 (rdN 3 (some bs)).2).1, (rdN m64 (rdN m64 (rdN 3 (some bs)).2).2).1, (rdI (rdN m64 (rdN m64 (rdN 3 (some bs)).2).2).2).1, (rdT m63 (rdI (rdN m64 (rdN m64 (rdN 3 (some bs)).2).2).2).2).1⟩, rdEnd (rdT m63 (rdI (rdN m64 (rdN m64 (rdN 3 (some bs)).2).2).2).2).2)) := rfl
  have hle3 : rdLeft (rdI (rdN m64 (rdN m64 (rdN 3 (some bs)).2).2).2).2 ≤ 1000000000 := by omega
  generalize entOf (rdN 3 (some bs)).2 = ho at *
  generalize (rdN 3 (some bs)).2 = st0 at *
  have HN1 := hide (fun (W : World) (hW : IsR false W (w.heap.size + 2) q st0) => xN_any (w.heap.size + 2) q st0 m64 W hW (by decide) (by decide))
  generalize rdN m64 st0 = r1 at *
  obtain ⟨ei, st1⟩ := r1
  dsimp only at *
  have HN2 := hide (fun (W : World) (hW : IsR false W (w.heap.size + 2) q st1) => xN_any (w.heap.size + 2) q st1 m64 W hW (by decide) (by decide))
  generalize rdN m64 st1 = r2 at *
  obtain ⟨et, st2⟩ := r2
  dsimp only at *
  have HN3 := hide (fun (W : World) (hW : IsR false W (w.heap.size + 2) q st2) => xI_any (w.heap.size + 2) q st2 W hW)
  generalize rdI st2 = r3 at *
  obtain ⟨ek, st3⟩ := r3
  dsimp only at *
  have HN4 := hide (fun (W : World) (hW : IsR false W (w.heap.size + 2) q st3) => xT_any (w.heap.size + 2) q st3 1048576 W hW (by decide) (by decide) hle3)
  rw [hbd] at HN4
  generalize rdT m63 st3 = r4 at *
  obtain ⟨ed, st4⟩ := r4
  dsimp only at *
  have HEn := hide (fun (W : World) (hW : IsR false W (w.heap.size + 2) q st4) => xend_any (w.heap.size + 2) q st4 W hW)
  have H30 := hide (@rdEnd_30 st4)
  have he := HE.out
  subst he
  generalize rdEnd st4 = er at *
  dsimp only at *
  have HL := hide hL
  have HX := hide hX
  have HGa := hide (good_app (L := L) (es := [⟨ei, et, ek, ed⟩]) hG (by intro e he; rw [List.mem_singleton.1 he]; exact ⟨hok, by dsimp only; omega⟩) (by simp; omega))
  have HApp := hide (fun (W : World) (g : Nat) (a : Option Addr) (n c : Nat) hlt hW hg hgp hC hI hy => xapp_one (X := X) (w := w) (W := W) (base := base) (p := p) (g := g) (L := L) (en := ⟨ei, et, ek, ed⟩) (a := a) (n := n) (c := c) hL hX hlt hW hG hn hok hg hgp hC hI hy)
  clear HE hL hG hI hq hk hbd hb2 hb3 hby hby0 hlf hlb hlf3 hle3 hl hok hdl hn
  obtain ⟨z, hz⟩ : ∃ z : Bool, (er == 0) = z := ⟨_, rfl⟩
  cases z
  · have her : er = 30 := H30.out (by simpa using hz)
    subst her
    rw [if_neg (by decide)]
    go_enter Try.func72, Try.ntmps72
    go_wp2_with (first
      | (go_at_call 60; go_must (refine (HEn.out _ (by exact HSf.out.rd)).mono ?_); rintro e w' ⟨rfl, hw⟩; have hw := hw.symm; subst hw; obtain ⟨a0, a1, -⟩ := HSf.out.a; obtain ⟨c0, c1, cf⟩ := HSf.out.b; have c0f := cf 0; have c1f := cf 1; clear cf)
      | (go_at_call 89; go_must (refine (HN4.out _ (by exact HSe.out.rd)).mono ?_); rintro e w5 ⟨a5, n5, c5, rfl, hs5, hy5, hR5, hc5, hm5⟩; have hbx := HBe.out.same (hR5.2.block _ (HGe.out) (by have := HS2.out.lt; omega)); have k3 := hbx.2.2.2.1; have k3f := hbx.2.2.2.2 3; have HSf := hide ((HSe.out.call hR5).set (g := w2.heap.size) HS2.out.lt 3 (.slice a5 n5 c5)); clear hbx hs5 hy5 hR5 hc5 hm5)
      | (go_at_call 88; go_must (refine (HN3.out _ (by exact HSd.out.rd)).mono ?_); rintro e w4 ⟨rfl, hR4⟩; have hbx := HBd.out.same (hR4.2.block _ (HGd.out) (by have := HS2.out.lt; omega)); have k2 := hbx.2.2.1; have k2f := hbx.2.2.2.2 2; have HBe := hide (hbx.set2 (.int .i64 ek)); have HSe := hide ((HSd.out.call hR4).set (g := w2.heap.size) HS2.out.lt 2 (.int .i64 ek)); have HGe := hide (World.block_lt_of_cell? _ ⟨w2.heap.size, 0, none⟩ HBe.out.1); clear hbx hR4)
      | (go_at_call 59; have hchk := HSb.out; clear hchk; refine (HN2.out _ (by exact HSb.out.rd)).mono ?_; rintro e w3 ⟨rfl, hR3⟩; have hbx := HBx.out.same (hR3.2.block _ (by simp) (by have := HS2.out.lt; omega)); have k1 := hbx.2.1; have k1f := hbx.2.2.2.2 1; have HBd := hide (hbx.set1 (.int .u64 et)); have HSd := hide ((HSb.out.call hR3).set (g := w2.heap.size) HS2.out.lt 1 (.int .u64 et)); have HGd := hide (World.block_lt_of_cell? _ ⟨w2.heap.size, 0, none⟩ HBd.out.1); clear hbx hR3)
      | (go_at_call 59; have hchk := HS1.out; clear hchk; refine (HN1.out _ (by exact HS1.out.rd)).mono ?_; rintro e w2 ⟨rfl, hR2⟩; have HS2 := hide (HS1.out.call hR2); have HSb := hide (HS2.out.below (new_below w2 (.cells #[.int .u64 ei, .int .u64 0, .int .i64 0, .slice none 0 0] 50))); have HBx := hide (box4_new w2 (.int .u64 ei) (.int .u64 0) (.int .i64 0) (.slice none 0 0) 50 _ rfl); clear hR2)
      | (go_at_call 59; go_must (refine (HN.out _ (by exact HS0.out.rd)).mono ?_); rintro e w1 ⟨rfl, hR1⟩; have HS1 := hide (HS0.out.call hR1); clear hR1))
    have HF := hide (HSf.out.fin (.int .u64 h1) (.int .u64 h2))
    obtain ⟨n0, n1, -⟩ := HF.out.1
    refine bodyPost_ret (v := .tuple #[.agg #[.int .u64 h1, .int .u64 h2], .int .i64 30]) (by simp [results, Try.results72, go_sem, n0, n1]) rfl ?_
    exact one_bad (h := (h1, h2)) hp HF.out.2 rfl
  · have her : er = 0 := by simpa using hz
    subst her
    rw [if_pos rfl]
    go_enter Try.func72, Try.ntmps72
    go_wp2_with (first
      | (go_at_call 60; go_must (refine (HEn.out _ (by exact HSf.out.rd)).mono ?_); rintro e w' ⟨rfl, hw⟩; have hw := hw.symm; subst hw)
      | (go_at_call 89; go_must (refine (HN4.out _ (by exact HSe.out.rd)).mono ?_); rintro e w5 ⟨a5, n5, c5, rfl, hs5, hy5, hR5, hc5, hm5⟩; have hbx := HBe.out.same (hR5.2.block _ (HGe.out) (by have := HS2.out.lt; omega)); have k3 := hbx.2.2.2.1; have k3f := hbx.2.2.2.2 3; have HBf := hide (hbx.set3 (.slice a5 n5 c5)); have HSf := hide ((HSe.out.call hR5).set (g := w2.heap.size) HS2.out.lt 3 (.slice a5 n5 c5)); have HY5 := hide (fun (h : n5 ≠ 0) (y : Addr) (e : a5 = some y) => (hy5 h y e).1); have HI5 := hide (isB_setNew (g := w2.heap.size) (i := 3) (v := .slice a5 n5 c5) (isB_text hs5 hc5 hm5 HBy.out) (fun h y e => (hy5 h y e).1) (by have := HS2.out.lt; omega)); clear hbx hs5 hy5 hR5 hc5 hm5)
      | (go_at_call 88; go_must (refine (HN3.out _ (by exact HSd.out.rd)).mono ?_); rintro e w4 ⟨rfl, hR4⟩; have hbx := HBd.out.same (hR4.2.block _ (HGd.out) (by have := HS2.out.lt; omega)); have k2 := hbx.2.2.1; have k2f := hbx.2.2.2.2 2; have HBe := hide (hbx.set2 (.int .i64 ek)); have HSe := hide ((HSd.out.call hR4).set (g := w2.heap.size) HS2.out.lt 2 (.int .i64 ek)); have HGe := hide (World.block_lt_of_cell? _ ⟨w2.heap.size, 0, none⟩ HBe.out.1); clear hbx hR4)
      | (go_at_call 59; have hchk := HSb.out; clear hchk; refine (HN2.out _ (by exact HSb.out.rd)).mono ?_; rintro e w3 ⟨rfl, hR3⟩; have hbx := HBx.out.same (hR3.2.block _ (by simp) (by have := HS2.out.lt; omega)); have k1 := hbx.2.1; have k1f := hbx.2.2.2.2 1; have HBd := hide (hbx.set1 (.int .u64 et)); have HSd := hide ((HSb.out.call hR3).set (g := w2.heap.size) HS2.out.lt 1 (.int .u64 et)); have HGd := hide (World.block_lt_of_cell? _ ⟨w2.heap.size, 0, none⟩ HBd.out.1); clear hbx hR3)
      | (go_at_call 59; have hchk := HS1.out; clear hchk; refine (HN1.out _ (by exact HS1.out.rd)).mono ?_; rintro e w2 ⟨rfl, hR2⟩; have HS2 := hide (HS1.out.call hR2); have HSb := hide (HS2.out.below (new_below w2 (.cells #[.int .u64 ei, .int .u64 0, .int .i64 0, .slice none 0 0] 50))); have HBx := hide (box4_new w2 (.int .u64 ei) (.int .u64 0) (.int .i64 0) (.slice none 0 0) 50 _ rfl); clear hR2)
      | (go_at_call 59; go_must (refine (HN.out _ (by exact HS0.out.rd)).mono ?_); rintro e w1 ⟨rfl, hR1⟩; have HS1 := hide (HS0.out.call hR1); clear hR1))
    have HGf : Hid (w2.heap.size < _) := World.block_lt_of_cell? _ ⟨w2.heap.size, 0, none⟩ HBf.out.1
    have HG2 := hide HS2.out.lt
    clear HBx HBd HBe HSb HSd HSe HGd HGe HS0 HS1 k1 k1f k2 k2f k3 k3f
    generalize hW5 : w5.setCell ⟨w2.heap.size, 3, none⟩ (.slice a5 n5 c5) = W5 at *
    clear hW5 HS2
    have hne1 : ¬ w2.heap.size = w.heap.size + 1 := by have := HG2.out; omega
    have hne2 : ¬ w.heap.size + 1 = w2.heap.size := by have := HG2.out; omega
    obtain ⟨a0, a1, -⟩ := HSf.out.a
    obtain ⟨b0, b1, b2, b3, -⟩ := HBf.out
    have HAt := hide (fun (o : Obj) => (show Below W5.heap.size W5 (W5.drew.alloc o) from ((Below.refl _ W5).drew).alloc (Nat.le_refl _) o))
    have HFar : Hid (∀ W k, Below W5.heap.size W5 W → w.heap.size ≤ k → ¬ SB 4 W p k) := fun W k hW hk hs => by
      have hb := HSf.out.bl.trans (hW.mono HSf.out.bl.size)
      have := (HL.out.lt (hs.same (hb.block p hp))).1
      omega
    have hbE : Hid (W5.drew.cell? ⟨w.heap.size, 0, none⟩ = some (.int .u64 h1) ∧ W5.drew.cell? ⟨w.heap.size, 1, none⟩ = some (.int .u64 h2) ∧ W5.drew.cell? ⟨w2.heap.size, 0, none⟩ = some (.int .u64 ei) ∧ W5.drew.cell? ⟨w2.heap.size, 1, none⟩ = some (.int .u64 et) ∧ W5.drew.cell? ⟨w2.heap.size, 2, none⟩ = some (.int .i64 ek) ∧ W5.drew.cell? ⟨w2.heap.size, 3, none⟩ = some (.slice a5 n5 c5)) := ⟨a0, a1, b0, b1, b2, b3⟩
    go_region_held3 (fun W => W.cell? ⟨w.heap.size, 0, none⟩ = some (.int .u64 h1) ∧ W.cell? ⟨w.heap.size, 1, none⟩ = some (.int .u64 h2) ∧ W.cell? ⟨w2.heap.size, 0, none⟩ = some (.int .u64 ei) ∧ W.cell? ⟨w2.heap.size, 1, none⟩ = some (.int .u64 et) ∧ W.cell? ⟨w2.heap.size, 2, none⟩ = some (.int .i64 ek) ∧ W.cell? ⟨w2.heap.size, 3, none⟩ = some (.slice a5 n5 c5)) (first | with_reducible exact hbE.out | go_keep) (first
      | (go_at_call 14; refine (HApp.out _ W5.heap.size a5 n5 c5 (by have := HSf.out.lt; simp; omega) (HSf.out.bl.trans ((HAt.out _).mono HSf.out.bl.size)) (by simp) (by exact HSf.out.bl.size) (cellM_new W5.drew ⟨ei, et, ek, ed⟩ a5 n5 c5 W5.heap.size _ rfl) (HI5.out.keep (HAt.out _)) (fun h y e => by rw [HY5.out h y e]; exact hqb)).mono ?_; rintro e w6 ⟨rfl, hL6, hp6⟩; have HL6 := hide hL6; have HP6 := hide ((SPost.of_below (Nat.lt_of_lt_of_le hp HSf.out.bl.size) (HAt.out _)).trans hp6); have e0 : ∀ k j, k < W5.heap.size → w.heap.size ≤ k → w6.cell? ⟨k, j, none⟩ = W5.cell? ⟨k, j, none⟩ := (fun k j hk hk2 => HP6.out.cell hk (HFar.out _ _ (Below.refl _ _) hk2)); have hbE : Hid (w6.cell? ⟨w.heap.size, 0, none⟩ = some (.int .u64 h1) ∧ w6.cell? ⟨w.heap.size, 1, none⟩ = some (.int .u64 h2) ∧ w6.cell? ⟨w2.heap.size, 0, none⟩ = some (.int .u64 ei) ∧ w6.cell? ⟨w2.heap.size, 1, none⟩ = some (.int .u64 et) ∧ w6.cell? ⟨w2.heap.size, 2, none⟩ = some (.int .i64 ek) ∧ w6.cell? ⟨w2.heap.size, 3, none⟩ = some (.slice a5 n5 c5)) := ⟨(e0 _ 0 (by have := HSf.out.lt; omega) (by omega)).trans a0, (e0 _ 1 (by have := HSf.out.lt; omega) (by omega)).trans a1, (e0 _ 0 HGf.out (by have := HG2.out; omega)).trans b0, (e0 _ 1 HGf.out (by have := HG2.out; omega)).trans b1, (e0 _ 2 HGf.out (by have := HG2.out; omega)).trans b2, (e0 _ 3 HGf.out (by have := HG2.out; omega)).trans b3⟩; obtain ⟨c0, c1, cf⟩ := HSf.out.b.same (HP6.out.1.block (w.heap.size + 1) (by have := HSf.out.lt; omega) (HFar.out _ _ (Below.refl _ _) (by omega))); have c0f := cf 0; have c1f := cf 1; clear cf e0 hL6 hp6))
    all_goals
      have HF := hide (one_log HSf.out hp (fun k hk => (HL.out.lt hk).2.2) (fun k hk => (HX.out k hk).1) HP6.out HL6.out (.int .u64 h1) (.int .u64 h2))
      obtain ⟨n0, n1, -⟩ := HF.out.1
      clear a0 a1 b0 b1 b2 b3 c0 c1 c0f c1f
      go_wp2
      refine bodyPost_ret (v := .tuple #[.agg #[.int .u64 h1, .int .u64 h2], .int .i64 (appL L [⟨ei, et, ek, ed⟩]).1]) (by simp [results, Try.results72, go_sem, n0, n1]) rfl ?_
      exact ⟨HF.out.2.1, h1, h2, rfl, fun _ => ⟨rfl, _, ⟨rfl, rfl⟩, ⟨HGa.out.y0, HGa.out.y1⟩, HF.out.2.2⟩⟩

end Go.Proofs.Ytjeijeaogdednaa
