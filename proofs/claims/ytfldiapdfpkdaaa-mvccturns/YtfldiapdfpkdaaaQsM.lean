/- The program's store: Scan's own test; what it tells as plain lists. -/
import Derived.Test.YtfldiapdfpkdaaaQsL
import Derived.Test.YtfldiapdfpkdaaaMvF
import Derived.Test.YtfldiapdfpkdaaaMvH
namespace Go.Proofs.Ytfldiapdfpkdaaa
open Go.RowKit Go.Shelf NumMath Go.ChangeShapes Go.WideShapes Go.Deep
set_option linter.unusedVariables false
set_option maxRecDepth 100000

attribute [local go_sem] Oper.semAt_some

def seenP (lo hi : List Int) (ts : Int) (m : PC) : Bool := withinB m.key lo hi && ((m.it.v.tx != 0) || decide (0 < (m.vs.drop (posV tsM ts m.vs)).length))

def cutP (ts : Int) (m : PC) : Cel := ⟨m.key, (m.vs.drop (posV tsM ts m.vs)).map MV.v, m.it.v⟩

theorem drop_upTo (ts : Int) : ∀ vs : List MV, Desc tsM vs → (vs.drop (posV tsM ts vs)).map MV.v = upTo ts (vs.map MV.v) := by
  intro vs
  induction vs with
  | nil => intro _; rfl
  | cons x r ih =>
    intro hd
    have hr : Desc tsM r := (List.pairwise_cons.1 hd).2
    by_cases hx : ts < tsM x
    · have e1 : posV tsM ts (x :: r) = posV tsM ts r + 1 := by unfold posV; rw [List.takeWhile_cons_of_pos (by simpa using hx)]; rfl
      rw [e1, List.drop_succ_cons, ih hr]
      unfold upTo
      rw [List.map_cons, List.filter_cons_of_neg (by unfold tsM at hx; simp; omega)]
    · have e1 : posV tsM ts (x :: r) = 0 := by unfold posV; rw [List.takeWhile_cons_of_neg (by simpa using hx)]; rfl
      rw [e1, List.drop_zero]
      unfold upTo
      symm
      refine List.filter_eq_self.2 (fun v hv => ?_)
      obtain ⟨y, hy, rfl⟩ := List.mem_map.1 hv
      have : tsM y ≤ tsM x := by
        rcases List.mem_cons.1 hy with rfl | hy
        · exact Int.le_refl _
        · have := (List.pairwise_cons.1 hd).1 y hy
          omega
      unfold tsM at this hx
      simp
      omega

theorem scanP_eq (lo hi : List Int) (ts : Int) {z : Nat} : ∀ cs : List PC, (∀ m ∈ cs, m.good z) → (cs.filter (seenP lo hi ts)).map (cutP ts) = scanC lo hi ts (cs.map PC.c) := by
  intro cs
  induction cs with
  | nil => intro _; rfl
  | cons m r ih =>
    intro h
    have h1 := drop_upTo ts m.vs (h m (List.mem_cons_self ..)).desc
    have e : cutP ts m = setVs (upTo ts) m.c := by unfold cutP; rw [h1]; rfl
    have hs : seenC lo hi (setVs (upTo ts) m.c) = seenP lo hi ts m := by
      rw [← e]
      unfold seenC seenP cutP
      simp only [List.length_map]
      have : decide (m.it.v.tx ≠ 0) = (m.it.v.tx != 0) := by simp [bne]; rfl
      rw [this, Bool.or_comm]
    have ih := ih (fun x hx => h x (List.mem_cons_of_mem _ hx))
    unfold scanC at ih ⊢
    rw [List.map_cons, List.map_cons]
    cases hz : seenP lo hi ts m
    · rw [List.filter_cons_of_neg (by rw [hz]; simp), List.filter_cons_of_neg (by rw [hs, hz]; simp), ih]
    · rw [List.filter_cons_of_pos hz, List.filter_cons_of_pos (by rw [hs, hz]), List.map_cons, ih, e]

set_option maxHeartbeats 2000000 in
theorem scan1_any (base : Nat) (w : World) (m : PC) (h : m.is base w) {z : Nat} (hg : m.good z) (hz : z ≤ 100000) (B1 B2 B3 : Nat) (la : Option Addr) (ln lc : Nat) (lo : List Int) (hlo : IsBytes w la ln lc lo) (ha : Option Addr) (hn hc : Nat) (hi : List Int) (hhi : IsBytes w ha hn hc hi) (ts : Int)
    (b1 : w.cell? ⟨B1, 0, none⟩ = some (.slice la ln lc)) (b2 : w.cell? ⟨B2, 0, none⟩ = some (.slice ha hn hc)) (b3 : w.cell? ⟨B3, 0, none⟩ = some (.int .u64 ts)) (l1 : B1 < w.heap.size) (l2 : B2 < w.heap.size) (l3 : B3 < w.heap.size) :
    Calls Try.prog 33 #[.string (strB m.key), .pointer (some ⟨m.b, 0, none⟩), .pointer (some ⟨B1, 0, none⟩), .pointer (some ⟨B2, 0, none⟩), .pointer (some ⟨B3, 0, none⟩)] w fun e w' => e = .returned (.bool (seenP lo hi ts m)) ∧ Below w.heap.size w w' := by
  have hfew := hg.few
  obtain ⟨cc, W1, hcv, hcB, hcb, hcs⟩ := conv_key m.key hg.key hg.kl w
  have c1 := (hcb.cell (p := ⟨B1, 0, none⟩) l1).trans b1
  have c2 := (hcb.cell (p := ⟨B2, 0, none⟩) l2).trans b2
  have c3 := (hcb.cell (p := ⟨B3, 0, none⟩) l3).trans b3
  have HW := hide (within_any _ _ _ m.key la ln lc lo ha hn hc hi W1 hcB (hlo.keep hcb) (hhi.keep hcb))
  have HI := hide (pintended_any base W1 m (h.keep hcb))
  have HU := hide (pupTo_any base W1 m (h.keep hcb) hg.desc (by omega) ts)
  have HCb := hide hcb
  unfold seenP
  clear h hg hlo hhi hcB hcs b1 b2 b3 l1 l2 l3 hcb
  obtain ⟨z1, hz1⟩ : ∃ z : Bool, withinB m.key lo hi = z := ⟨_, rfl⟩
  obtain ⟨z2, hz2⟩ : ∃ z : Bool, (m.it.v.tx != 0) = z := ⟨_, rfl⟩
  unfold UpPost at HU
  generalize m.vs.drop (posV tsM ts m.vs) = vs at *
  rw [hz1] at HW ⊢
  rw [hz2] at HI ⊢
  clear hz1 hz2
  generalize m.b = mb at *
  generalize strB m.key = sk at *
  generalize m.key = kk at *
  cases z1
  · go_enter Try.func33, Try.ntmps33
    go_wp2_with (first
      | (go_at_call 34; refine HW.out.mono ?_; rintro e w2 ⟨rfl, rfl⟩))
    go_ret
    exact ⟨rfl, HCb.out⟩
  cases z2
  · go_enter Try.func33, Try.ntmps33
    go_wp2_with (first
      | (go_at_call 36; refine HU.out.mono ?_; rintro e w3 ⟨a3, n3, d3, rfl, hl3, -, hb3⟩; have HL3 := hide hl3; have HB3 := hide hb3; clear hl3 hb3)
      | (go_at_call 35; refine HI.out.mono ?_; rintro e w2 ⟨rfl, hw2⟩; have hw2 := hw2.symm; subst hw2)
      | (go_at_call 34; refine HW.out.mono ?_; rintro e w2 ⟨rfl, hw2⟩; have hw2 := hw2.symm; subst hw2))
    go_ret
    rw [HL3.out]
    refine ⟨?_, HCb.out.trans (HB3.out.mono HCb.out.size)⟩
    simp
  · go_enter Try.func33, Try.ntmps33
    go_wp2_with (first
      | (go_at_call 35; refine HI.out.mono ?_; rintro e w2 ⟨rfl, rfl⟩)
      | (go_at_call 34; refine HW.out.mono ?_; rintro e w2 ⟨rfl, hw2⟩; have hw2 := hw2.symm; subst hw2))
    go_ret
    exact ⟨rfl, HCb.out⟩

end Go.Proofs.Ytfldiapdfpkdaaa
