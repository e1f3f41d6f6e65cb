/- Chapter 9's example. -/
import Derived.Test.YtfojpengdpnigaaGreatNdD
namespace Go.Proofs.YtfojpengdpnigaaGreat
open Go.RowKit NumMath
set_option linter.unusedVariables false
set_option maxRecDepth 100000

/-- a node that has led itself -/
def Alone (N : Nd) : Prop := N.role = 2 ∧ N.term = 1 ∧ N.leader = 1 ∧ N.commit = 1

def log1 : LogS := ⟨⟨0, 0, [1], []⟩, [], 0, false⟩
def nd1 : Nd := Nd.new 1 0 0 log1

theorem good_log1 : log1.Good := good_new (i := 0) (t := 0) (m := [1]) (d := []) (by decide) (by decide) (by decide) (by simp) (by simp) (by simp)

theorem ok_nd1 (z : Nat) : nd1.Ok z := ok_new good_log1 (Nat.zero_le _) (by decide) (by decide) (by simp [log1]) ⟨by decide, by decide⟩ ⟨by decide, by decide⟩ ⟨by decide, by decide⟩

theorem alone_of {t : Int} {N' : Nd} (h : Stood (nd1.tk t) N') : Alone N' := by
  have hm : (nd1.tk t).mem = [(nd1.tk t).id] := by simp [Nd.mem, Nd.tk, nd1, Nd.new, log1, toldL, dedL, dedStep]
  have hc := (h.2 hm (show (0 : Int) < 18446744073709551615 from by decide)).2
  have hm2 : (nd1.tk t).stood.mem = [(nd1.tk t).id] := hm
  obtain ⟨cm, r, l, rfl, _, _, _, hfin⟩ := hc hm2
  obtain ⟨hs, he⟩ := added_L (nd1.tk t).stood.led 0 []
  have hs' : ((nd1.tk t).stood.led.added 0 []).L.s = ⟨0, 0, [1], []⟩ := hs
  have he' : ((nd1.tk t).stood.led.added 0 []).L.es = [⟨1, 1, 0, []⟩] := he
  have hls : ((nd1.tk t).stood.led.added 0 []).last = 1 := by unfold Nd.last; rw [hs', he']; rfl
  have hmm : ((nd1.tk t).stood.led.added 0 []).mem = [((nd1.tk t).stood.led.added 0 []).id] := by
    unfold Nd.mem
    rw [hs', he']
    show _ = [(1 : Int)]
    simp [toldL, stepT, dedL, dedStep]
  have hte : (termL ((nd1.tk t).stood.led.added 0 []).L 1).1 = 1 := by
    unfold termL
    rw [hs', he']
    decide
  obtain ⟨h1, h2, h3⟩ := hfin hmm (by rw [hls]; show (0 : Int) < 1; decide) (by rw [hls, hs']; decide) (by rw [hls, hte]; rfl)
  exact ⟨h2, rfl, h3, h1.trans hls⟩

theorem isNums_one (w : World) (g : Nat) (x : Int) (hx : 0 ≤ x ∧ x ≤ 18446744073709551615) (hg : g < w.heap.size) (h : w.cell? ⟨g, 0, none⟩ = some (.int .u64 x)) : IsNums w (some ⟨g, 0, none⟩) 1 1 [x] :=
  ⟨rfl, Nat.le_refl _, by decide, by simpa using hx, .inr ⟨g, 0, rfl, hg, fun i hi => by simp at hi; subst hi; simpa using h⟩⟩

theorem capI_zero : capI 0 = 0 := by decide

set_option maxHeartbeats 1000000 in
theorem awake9_any (w : World) :
    Calls Tryz.prog 7 #[] w fun e w' => e = .returned (.bool true) ∧ Below w.heap.size w w' := by
  have hb0 := new_below w (.cells #[.int .u64 1] 22)
  have HNl := hide (new_any (fun _ => False) 0 0 (some ⟨w.heap.size, 0, none⟩) 1 1 [1] none 0 0 [] (w.alloc (.cells #[.int .u64 1] 22)) (fun _ h => h.elim) (isNums_one _ _ 1 (by decide) (by simp) (by simp)) ⟨rfl, Nat.le_refl _, Nat.zero_le _, by simp, .inl rfl⟩ (by decide) (by decide))
  have HB0 := hide hb0
  have hsz : (w.alloc (.cells #[.int .u64 1] 22)).heap.size = w.heap.size + 1 := by simp
  rw [capI_zero] at HNl
  clear hb0
  go_enter Tryz.func7, Tryz.ntmps7
  go_wp2_with (first
    | (go_at_call 16; go_must (refine (newN_any _ _ q 100 1 0 0 log1 _ HL1.out good_log1 (fun k hk => HX1.out k hk)).mono ?_); rintro e w2 ⟨p, rfl, hN2, hp2, hb2⟩; have HN2 := hide hN2; have HB2 := hide (HB1.out.trans (hb2.mono HB1.out.size)); clear hN2 hb2 hp2)
    | (go_at_call 11; go_must (refine HNl.out.mono ?_); rintro e w1 ⟨q, rfl, hq, hL1, hb1⟩; have HL1 := hide hL1; have HX1 : Hid (∀ k, (False ∨ k = q) → (w.alloc (.cells #[.int .u64 1] 22)).heap.size ≤ k ∧ k < w1.heap.size) := (fun k hk => by rcases hk with hk | hk; exact hk.elim; (subst hk; exact ⟨hq, hL1.at⟩)); have HB1 := hide (HB0.out.trans (hb1.mono (by simp))); clear hL1 hb1 hq))
  go_loopw [2] (fun i wr => ∃ (k : Nat) (X : Nat → Prop) (N : Nd), k ≤ 10 ∧ i = .int .u64 k ∧ IsNd X wr (w.alloc (.cells #[.int .u64 1] 22)).heap.size p (100 + 40 * k) N ∧ N.Ok (100 + 40 * k) ∧ (k < 10 → N = nd1.tk (10 - k)) ∧ (k = 10 → Alone N) ∧ Below w.heap.size w wr) (fun i _ => 10 - (intOf i).toNat)
  case atStart => exact ⟨0, _, nd1, by omega, rfl, HN2.out, ok_nd1 _, fun _ => rfl, fun h => by omega, HB2.out⟩
  case round =>
    obtain ⟨k, X, N, hk, rfl, hN, hO, hlt, hal, hb⟩ := hrel
    have HN := hide hN
    have HO := hide hO
    have Hlt := hide hlt
    have Hal := hide hal
    have HB := hide hb
    clear hN hO hlt hal hb
    by_cases hk10 : k < 10
    · have hkI : (k : Int) < 10 := by omega
      have HTi := hide (tick_any X _ p (100 + 40 * k) N k wr HN.out HO.out ⟨by omega, by omega⟩ (by omega))
      go_wp2_with (first
        | (go_at_call 22; go_must (refine HTi.out.mono ?_); rintro e w3 ⟨rfl, X3, N3, hN3, hT3, hK3, hX3⟩; have HN3 := hide hN3; have HT3 := hide hT3; have HB3 := hide (HB.out.trans (hK3.below (B := w.heap.size) (HB.out.size) (fun j hj => by have := (HN.out.rng j hj).1; simp at this; omega))); clear hN3 hT3 hK3 hX3))
      go_roundw
      case rel =>
        obtain ⟨h1, h2, h3, h4⟩ := HT3.out
        have e := Hlt.out hk10
        refine ⟨k + 1, X3, N3, by omega, by go_num, HN3.out.mono (by omega), h2.mono (by omega), fun h => ?_, fun h => ?_, HB3.out⟩
        · rw [e] at h3
          have := h3 (show (0 : Int) ≠ 2 from by decide) (show (1 : Int) < 10 - k from by omega)
          rw [this]
          show nd1.tk (10 - (k : Int) - 1) = nd1.tk (10 - ((k + 1 : Nat) : Int))
          congr 1
          omega
        · rw [e] at h4
          obtain ⟨t, ht⟩ := h4 (show (0 : Int) ≠ 2 from by decide) (show (10 : Int) - k = 1 from by omega)
          exact alone_of ht
      case measure => simp [intOf]; omega
    · have hk2 : k = 10 := by omega
      subst hk2
      obtain ⟨a1, a2, a3, a4⟩ := Hal.out rfl
      have HSt := hide (state_any X _ p _ N wr HN.out)
      rw [a1, a2, a3, a4] at HSt
      go_wp2_with (first
        | (go_at_call 21; go_must (refine HSt.out.mono ?_); rintro e w3 ⟨rfl, hb3⟩; have HB3 := hide (HB.out.trans (hb3.mono HB.out.size)); clear hb3))
      go_ret
      exact ⟨rfl, HB3.out⟩

end Go.Proofs.YtfojpengdpnigaaGreat
