/- slices.Reverse of numbers; the program's ring. -/
import Derived.Test.YtepaflofbcokaaaDoorWp5
namespace Go.Proofs.YtepaflofbcokaaaDoor
open Go.RowKit NumMath Go.ChangeShapes Go.WideShapes Go.Deep
set_option linter.unusedVariables false
set_option maxRecDepth 100000

theorem rev_of {xs ys : List Int} {n p q : Nat} (hx : xs.length = n) (hy : ys.length = n) (hpq : p + q + 1 = n) (h : ∀ t, t < n → ys[t]? = if t < p ∨ q < t then xs[n - 1 - t]? else xs[t]?) (hle : q ≤ p) : ys = xs.reverse := by
  apply List.ext_getElem?
  intro t
  by_cases ht : t < n
  · rw [h t ht, List.getElem?_reverse (by omega), hx]
    split
    · rfl
    · have : n - 1 - t = t := by omega
      rw [this]
  · rw [List.getElem?_eq_none (by omega), List.getElem?_eq_none (by rw [List.length_reverse]; omega)]

theorem rev_step {xs ys : List Int} {n p q1 : Nat} {X Y : Int} (hx : xs.length = n) (hy : ys.length = n) (hpq : p + (q1 + 1) + 1 = n) (h : ∀ t, t < n → ys[t]? = if t < p ∨ q1 + 1 < t then xs[n - 1 - t]? else xs[t]?) (hlt : p < q1 + 1) (hX : ys[p]? = some X) (hY : ys[q1 + 1]? = some Y) :
    ∀ t, t < n → ((ys.set p Y).set (q1 + 1) X)[t]? = if t < p + 1 ∨ q1 < t then xs[n - 1 - t]? else xs[t]? := by
  intro t ht
  have hp := h p (by omega)
  have hq := h (q1 + 1) (by omega)
  rw [if_neg (by omega)] at hp hq
  rw [List.getElem?_set, List.getElem?_set]
  by_cases e1 : q1 + 1 = t
  · subst e1
    rw [if_pos rfl, if_pos (by rw [List.length_set]; omega), if_pos (by omega), ← hX, hp]
    congr 1; omega
  · rw [if_neg e1]
    by_cases e2 : p = t
    · subst e2
      rw [if_pos rfl, if_pos (by omega), if_pos (by omega), ← hY, hq]
      congr 1; omega
    · rw [if_neg e2, h t ht]
      by_cases e3 : t < p ∨ q1 + 1 < t
      · rw [if_pos e3, if_pos (by omega)]
      · rw [if_neg e3, if_neg (by omega)]

theorem OwnY.setU {w : World} {base g n cap : Nat} {xs : List Int} (h : OwnY layU w base (.slice (some ⟨g, 0, none⟩) n cap) xs) (i : Nat) (x y : Int) (hi : xs[i]? = some x) : OwnY layU (w.setCell ⟨g, i, none⟩ (.int .u64 y)) base (.slice (some ⟨g, 0, none⟩) n cap) (xs.set i y) :=
  h.cell i 0 x y (.int .u64 y) hi (by decide) rfl i (by show i = i * 1 + 0; omega)

set_option maxHeartbeats 2000000 in
theorem revU_any (base g n cap : Nat) (xs : List Int) (w : World) (h : OwnY layU w base (.slice (some ⟨g, 0, none⟩) n cap) xs) (h1 : 1 ≤ n) (hn : n ≤ 1000000) :
    Calls Tryd.prog 95 #[.slice (some ⟨g, 0, none⟩) n cap] w fun e w' => e = .returned (.tuple #[]) ∧ OwnY layU w' base (.slice (some ⟨g, 0, none⟩) n cap) xs.reverse ∧ Keeps (fun k => k = g) w w' := by
  have H := hide h
  have HL := hide h.len.1
  have hc := h.len.2
  have hm : (cap : Int) ≤ 9223372036854775807 := by have := hc.2; unfold maxLen at this; omega
  clear h
  go_enter Tryd.func95, Tryd.ntmps95
  go_wp2
  go_loopw [2, 3] (fun i j wr => ∃ (p q : Nat) (ys : List Int), i = .int .i64 p ∧ j = .int .i64 q ∧ p + q + 1 = n ∧ ys.length = n ∧ (∀ t, t < n → ys[t]? = if t < p ∨ q < t then xs[n - 1 - t]? else xs[t]?) ∧ OwnY layU wr base (.slice (some ⟨g, 0, none⟩) n cap) ys ∧ Keeps (fun k => k = g) w wr) (fun i j _ => (intOf j + 1 - intOf i).toNat)
  case atStart => exact ⟨0, n - 1, xs, rfl, by go_num, by omega, HL.out, fun t ht => by rw [if_neg (by omega)], H.out, Below.keeps (Below.refl _ _) _⟩
  case round =>
    obtain ⟨p, q, ys, rfl, rfl, hpq, hyl, hI, hO, hK⟩ := hrel
    have HO := hide hO
    have HI := hide hI
    have HK := hide hK
    have HPq := hide hpq
    have HYl := hide hyl
    clear hO hI hK H
    by_cases hlt : (p : Int) < (q : Int)
    · obtain ⟨q1, hq1⟩ : ∃ q1 : Nat, q = q1 + 1 := ⟨q - 1, by omega⟩
      subst hq1
      obtain ⟨X, hX⟩ : ∃ X, ys[p]? = some X := ⟨_, List.getElem?_eq_getElem (by omega)⟩
      obtain ⟨Y, hY⟩ : ∃ Y, ys[q1 + 1]? = some Y := ⟨_, List.getElem?_eq_getElem (by omega)⟩
      rcases HO.out.form with ⟨e, -⟩ | ⟨g', cap', e, -, hg2, -, -, hC, hF⟩
      · cases e
      cases e
      have cp := cellU hC hX
      have cq := cellU hC hY
      have fp := hF p
      have fq := hF (q1 + 1)
      have HX := hide hX
      have HY := hide hY
      have e1 : ¬ p = q1 + 1 := by omega
      have e2 : ¬ q1 + 1 = p := by omega
      have i1 : (p : Int) < (ys.length : Int) := by omega
      have i2 : (q1 : Int) + 1 < (ys.length : Int) := by omega
      clear hC hF hX hY hpq hyl
      go_wp2
      go_region
      all_goals
        go_wp2
        go_roundw
        case rel =>
          refine ⟨p + 1, q1, (ys.set p Y).set (q1 + 1) X, by go_num, by go_num, by have := HPq.out; omega, by simp, ?_, ?_, ?_⟩
          · exact rev_step HL.out rfl HPq.out HI.out (by omega) HX.out HY.out
          · exact (((HO.out.keep (below_drewN (Below.refl _ wr) _)).setU p X Y HX.out).setU (q1 + 1) Y X (by rw [List.getElem?_set]; rw [if_neg e1]; exact HY.out))
          · exact kp_then (kp_then (kp_then HK.out (fun k hk _ => hk) (Below.keeps (below_drewN (Below.refl _ wr) _) _)) (fun k hk _ => hk) (keepsY_cell _)) (fun k hk _ => hk) (keepsY_cell _)
        case measure => simp [intOf]; omega
    · have HE : Hid (ys = xs.reverse) := rev_of HL.out HYl.out HPq.out HI.out (by omega)
      rw [HE.out] at HO
      clear hpq hyl
      go_wp2
      go_end0
      exact ⟨rfl, HO.out, HK.out⟩

/-- by which edge each node of ws was come to -/
def CameAt (w : World) (b z : Nat) (ws : List (Int × Int)) : Prop := ∃ f, MapV w 28 b z f ∧ ∀ x y, (x, y) ∈ ws → f (.int .u64 x) = some (.agg #[.int .u64 y, .int .u64 x])

theorem CameAt.same {w w' : World} {b z : Nat} {ws : List (Int × Int)} (h : CameAt w b z ws) (e : w'.heap[b]? = w.heap[b]?) : CameAt w' b z ws := by
  obtain ⟨f, h1, h2⟩ := h
  exact ⟨f, h1.same e, h2⟩

theorem CameAt.lt {w : World} {b z : Nat} {ws : List (Int × Int)} (h : CameAt w b z ws) : b < w.heap.size := by
  obtain ⟨f, h1, _⟩ := h
  exact h1.lt

theorem came_new (w : World) (o : Obj) (ho : o = .map #[] 0) (g : Nat) (hg : w.heap.size = g) : CameAt (w.alloc o) g 0 [] :=
  ⟨_, mapV_new w _ o ho g hg, fun x y h => by simp at h⟩

theorem CameAt.look {w : World} {b z : Nat} {ws : List (Int × Int)} (h : CameAt w b z ws) {x y : Int} (hx : U64 x) (hm : (x, y) ∈ ws) : ∀ W : World, W.heap[b]? = w.heap[b]? → (Instr.lookup 129 (.map (some b)) (.int .u64 x) false).run Tryd.prog W = .ok (.agg #[.int .u64 y, .int .u64 x]) W := by
  intro W hW
  obtain ⟨f, h1, h2⟩ := h
  rw [h1.look keyedU Tryd.underlying129 zeroE (keyU hx) W hW, h2 x y hm]
  rfl

theorem CameAt.put {w : World} {b z : Nat} {ws : List (Int × Int)} (h : CameAt w b z ws) (hz : z ≤ 1000000) {x y : Int} (hx : U64 x) (hn : ∀ y, (x, y) ∉ ws) : ∃ w', (Instr.mapUpdate 129 (.map (some b)) (.int .u64 x) (.agg #[.int .u64 y, .int .u64 x])).run Tryd.prog w = .ok () w' ∧ CameAt w' b (z + 1) (ws ++ [(x, y)]) ∧ w.grownBy w' (some b) := by
  obtain ⟨f, h1, h2⟩ := h
  obtain ⟨w', r1, r2, r3⟩ := h1.put hz keyedU Tryd.underlying129 (keyU hx) (.agg #[.int .u64 y, .int .u64 x])
  refine ⟨w', r1, ⟨_, r2, fun u v hm => ?_⟩, r3⟩
  rcases List.mem_append.1 hm with hm | hm
  · have hne : u ≠ x := fun e => hn v (e ▸ hm)
    rw [setF_other _ _ (fun h => hne (by simpa using h))]
    exact h2 u v hm
  · have := List.mem_singleton.1 hm
    cases this
    rw [setF_same]

theorem field0E (u v : Int) (W : World) : (Instr.field 137 (.agg #[.int .u64 u, .int .u64 v]) 0).run Tryd.prog W = .ok (.int .u64 u) W := by rfl

/-- where ring stands: at z, with acc behind it -/
def RingI (l : List (Int × Int)) (fr : Int) (k : Nat) (z : Int) (acc : List Int) : Prop :=
  (z = fr ∧ acc = cycleW l fr) ∨ (z ≠ fr ∧ (∃ i t, i < k ∧ (walkW l fr)[i]? = some (z, t)) ∧ cycW fr ((walkW l fr).take k).reverse z acc = cycleW l fr)

theorem ringI_step {l : List (Int × Int)} {fr : Int} {k i : Nat} {z t : Int} {acc : List Int} (hi : i < k) (hk : k ≤ (walkW l fr).length) (hz : (walkW l fr)[i]? = some (z, t)) (hc : cycW fr ((walkW l fr).take k).reverse z acc = cycleW l fr) : RingI l fr i t (t :: acc) := by
  have nd := (walkW_good l fr).1
  rw [cyc_find fr _ nd i z t hz k acc hi hk] at hc
  by_cases ht : t = fr
  · rw [if_pos ht] at hc
    exact .inl ⟨ht, hc⟩
  · rw [if_neg ht] at hc
    refine .inr ⟨ht, ?_, hc⟩
    rcases walkW_ord l fr i _ hz with h1 | ⟨j, t', hj, h1⟩
    · exact absurd h1 ht
    · exact ⟨j, t', hj, h1⟩

set_option maxHeartbeats 4000000 in
theorem ring_any (l : List (Int × Int)) (fr : Int) (hfr : U64 fr) (hU : ∀ e ∈ l, U64 e.1 ∧ U64 e.2) (hl : l.length ≤ 100000) (j : Nat) (t : Int) (hj : (walkW l fr)[j]? = some (fr, t)) (mc z : Nat) (w : World) (h : CameAt w mc z ((walkW l fr).take (j + 1))) :
    Calls Tryd.prog 84 #[.map (some mc), .int .u64 fr] w fun e w' => ∃ v, e = .returned v ∧ OwnY layU w' w.heap.size v (cycleW l fr) ∧ Below w.heap.size w w' := by
  have hwl := (walkW_good l fr).2.2
  have hjl := (List.getElem?_eq_some_iff.1 hj).1
  have hmem : ∀ i x y, i ≤ j → (walkW l fr)[i]? = some (x, y) → (x, y) ∈ (walkW l fr).take (j + 1) ∧ U64 x := fun i x y hi hx => by
    refine ⟨List.mem_of_getElem? (i := i) (by rw [List.getElem?_take, if_pos (by omega)]; exact hx), ?_⟩
    have := (walkW_good l fr).2.1 _ (List.mem_of_getElem? hx)
    exact (hU _ this).2
  have HM := hide hmem
  have H := hide h
  have HR0 : Hid (RingI l fr j t [t]) := ringI_step (k := (walkW l fr).length) hjl (Nat.le_refl _) hj (by rw [List.take_length]; rfl)
  have hlk0 := h.look hfr (hmem j fr t (Nat.le_refl _) hj).1 w rfl
  have hfl := field0E
  clear h hmem hj
  go_enter Tryd.func84, Tryd.ntmps84
  go_wp2
  go_loopg [5, 6] j (fun gk v nv wr => ∃ (z : Int) (acc : List Int), nv = .int .u64 z ∧ RingI l fr gk z acc ∧ OwnY layU wr w.heap.size v acc.reverse ∧ Below w.heap.size w wr ∧ gk ≤ j ∧ acc.length + gk ≤ j + 1 ∧ 1 ≤ acc.length)
  case atStart =>
    exact ⟨t, [t], rfl, HR0.out, ownY_one w w.heap.size #[.int .u64 t] t (Nat.le_refl _) rfl, new_below _ _, Nat.le_refl _, by simp; omega, by simp⟩
  case round =>
    obtain ⟨z, acc, rfl, hI, hO, hB, hk, hla, hl1⟩ := hrel
    obtain ⟨va, vn, vc, rfl⟩ := hO.any3
    have hvl := hO.len
    have HO := hide hO
    have HB := hide hB
    rw [List.length_reverse] at hvl
    have hvc : (vc : Int) ≤ 9223372036854775807 := by have := hvl.2.2; unfold maxLen at this; omega
    have hsz := hB.size
    clear hO hB hlk0 HR0
    rcases hI with ⟨rfl, hac⟩ | ⟨hne, ⟨i, t', hi, hzt⟩, hcy⟩
    · rcases HO.out.form with ⟨e, e0⟩ | ⟨g, cap, e, hg1, hg2, -⟩
      · exfalso; rw [List.reverse_eq_nil_iff] at e0; rw [e0] at hl1; simp at hl1
      cases e
      have HV := hide (revU_any w.heap.size g acc.reverse.length vc acc.reverse wr HO.out (by rw [List.length_reverse]; omega) (by rw [List.length_reverse]; omega))
      have HAc := hide hac
      generalize hgn : acc.reverse.length = vn at *
      clear hac hgn
      go_wp2_with (first
        | (go_at_call 95; go_must (refine HV.out.mono ?_); rintro e w5 ⟨rfl, ho5, hk5⟩; have HO5 := hide ho5; have HK5 := hide hk5; clear ho5 hk5))
      go_ret
      have ho5 := HO5.out
      rw [List.reverse_reverse, HAc.out] at ho5
      exact ⟨_, rfl, ho5, HB.out.trans (HK5.out.below hsz (fun k (e : k = g) => by omega))⟩
    · have hne' : (z == fr) = false := by simp [hne]
      obtain ⟨hm, hz⟩ := HM.out i z t' (by omega) hzt
      have hlk := H.out.look hz hm wr (HB.out.block _ H.out.lt)
      have HS := hide (ringI_step hi (by omega) hzt hcy)
      have HK1 := hide (new_below wr (.cells #[.int .u64 t'] 28))
      have HN1 := hide (ownY_one (L := layU) wr w.heap.size #[.int .u64 t'] t' hsz rfl)
      have HO1 := hide (HO.out.keep HK1.out)
      have HBig : Hid (acc.reverse.length + [t'].length ≤ 1000000000) := by show _ ≤ _; rw [List.length_reverse]; simp; omega
      clear hcy hm hz hzt hne
      go_wp2_with (first
        | (at_builtin; go_must (refine wp_joinY layU _ rfl (.tmp 22) (.tmp 24) rfl w.heap.size _ acc.reverse rfl HO1.out (some ⟨wr.heap.size, 0, none⟩) 1 1 [t'] rfl HN1.out.is.src HBig.out (by simp; omega) ?_); intro v5 w5 hown5 hg5 hat5; have HO5 := hide hown5; have HB5 := hide ((HK1.out.mono hsz).trans (HO1.out.grown hg5 (by simp; omega))); obtain ⟨xa, xn, xc, rfl⟩ := hown5.any3; clear hown5 hg5 hat5))
      go_roundg i
      case measure => exact hi
      case rel =>
        refine ⟨t', t' :: acc, rfl, HS.out, ?_, HB.out.trans HB5.out, by omega, by simp; omega, by simp⟩
        rw [List.reverse_cons]
        exact HO5.out

end Go.Proofs.YtepaflofbcokaaaDoor
