/- The program's store: rising: the keys of the wanted cells, in order. -/
import Derived.Test.YtfldiapdfpkdaaaRgV
import Derived.Test.YtfldiapdfpkdaaaPsJ
import Derived.Test.YtfldiapdfpkdaaaShS
import Derived.Shelf.Slices.In.SortNone
import Derived.Sort.OwnSorted
namespace Go.Proofs.Ytfldiapdfpkdaaa
open Go.RowKit NumMath Go.ChangeShapes Go.WideShapes Go.Deep
set_option linter.unusedVariables false
set_option maxRecDepth 100000

theorem sortS_any (base : Nat) (w : World) (v : Value) (ss : List (List UInt8)) (h : OwnY layS w base v ss) (hn : ss.length ≤ 1000000) :
    Calls Try.prog 54 #[v] w fun e w' => e = .returned (.tuple #[]) ∧ OwnY layS w' base v (ss.mergeSort leB) ∧ w.grownBy w' v.ownBlock := by
  rcases h.form with ⟨rfl, rfl⟩ | ⟨g, cap, rfl, hg, hg2, hc, hm, hC, hf⟩
  · refine (Any.slices_Sort_string_none Try.lays190 none 0 w).mono ?_
    rintro e w' ⟨rfl, rfl⟩
    exact ⟨rfl, by simpa using h, ⟨rfl, rfl, rfl, Nat.le_refl _, fun _ _ _ => rfl⟩⟩
  · have hh := h
    unfold OwnY at hh
    rw [flatS] at hh
    rcases hh.2 with ⟨e, _⟩ | ⟨g', cap', cur, e, hbase, hb, h1, h2, h3, h4⟩
    · cases e
    simp only [Value.slice.injEq, Option.some.injEq, Addr.mk.injEq, and_true, true_and] at e
    obtain ⟨rfl, rfl⟩ := e
    have hH : Sort.Holds encStr w g 0 ss.toArray := holds_of_block hb (by simpa [layS] using h4)
    refine (Any.slices_Sort_string Try.lays190 g 0 cap ss w hH hg2 (by omega)).mono ?_
    rintro e w' ⟨rfl, nn, os, rfl⟩
    refine ⟨rfl, ?_, grownBy_sorted _⟩
    unfold OwnY
    rw [flatS, List.length_mergeSort]
    exact ownsRow_sorted (by simp) hbase hb h1 h2 (by simpa [layS] using h3)

/-- what rising tells: the keys of the wanted cells -/
def RisePost (w : World) (ks : List (List UInt8)) (e : Ending) (w' : World) : Prop :=
  ∃ Bs a n c, e = .returned (.func (.func 68) #[] #[.pointer (some ⟨Bs, 0, none⟩)]) ∧ w.heap.size ≤ Bs ∧ Bs < w'.heap.size ∧ w'.cell? ⟨Bs, 0, none⟩ = some (.slice a n c) ∧ SrcY layS w' a n ks ∧ (∀ y, a = some y → w.heap.size ≤ y.block) ∧ Below w.heap.size w w'

/-- what was gathered so far -/
def Gath (Pd : PC → Bool) (cs : List PC) (left : Lit → Bool) (ss : List (List UInt8)) : Prop :=
  ss.Nodup ∧ ∀ x, x ∈ ss ↔ ((∃ m ∈ cs, kb m.key = x ∧ Pd m = true) ∧ left (.string x) = false)

theorem gath_end {cs : List PC} {z : Nat} {Pd : PC → Bool} {left : Lit → Bool} {ss : List (List UInt8)} (h : Gath Pd cs left ss) (hl : ∀ kl, left kl = false) (hs : SortC (cs.map PC.c)) (hg : ∀ m ∈ cs, m.good z) : ss.mergeSort leB = keysP Pd cs := by
  refine sort_same ss _ h.1 (keysP_sort hs hg Pd) (fun x => ?_)
  rw [h.2 x]
  unfold keysP
  rw [List.mem_map]
  constructor
  · rintro ⟨⟨m, hm, e, hp⟩, _⟩
    exact ⟨m, List.mem_filter.2 ⟨hm, hp⟩, e⟩
  · rintro ⟨m, hm, e⟩
    exact ⟨⟨m, (List.mem_filter.1 hm).1, e, (List.mem_filter.1 hm).2⟩, hl _⟩

theorem gath_start {cs : List PC} {z : Nat} {Pd : PC → Bool} {D : DataW Unit} (hg : ∀ m ∈ cs, m.good z) (hs : SortC (cs.map PC.c)) (hD : ∀ x : List UInt8, Maps.has D (.string x) = true ↔ blkOf cs (nb x) ≠ -1) : Gath Pd cs (Maps.has D) [] := by
  refine ⟨List.nodup_nil, fun x => ⟨(by intro h; cases h), ?_⟩⟩
  rintro ⟨⟨m, hm, rfl, _⟩, hf⟩
  have : Maps.has D (.string (kb m.key)) = true := by
    rw [hD, nb_kb (hg m hm).key]
    unfold blkOf
    rw [atS_of hs hm]
    simp
  rw [this] at hf
  cases hf

theorem gath_yes {cs : List PC} {z : Nat} {Pd : PC → Bool} {left : Lit → Bool} {ss : List (List UInt8)} (h : Gath Pd cs left ss) {m : PC} (hm : m ∈ cs) (hl : left (.string (kb m.key)) = true) (hp : Pd m = true) : Gath Pd cs (fun z => left z && !z.sameKey (.string (kb m.key))) (ss ++ [kb m.key]) := by
  have hn : kb m.key ∉ ss := fun hx => by have := ((h.2 _).1 hx).2; rw [hl] at this; cases this
  refine ⟨List.nodup_append.2 ⟨h.1, by simp, fun a ha b hb => by simp at hb; subst hb; exact fun e => hn (e ▸ ha)⟩, fun y => ?_⟩
  by_cases hy : y = kb m.key
  · subst hy
    simp [Lit.sameKey]
    exact ⟨m, hm, rfl, hp⟩
  · simp [h.2 y, hy, Lit.sameKey]

theorem gath_no {cs : List PC} {z : Nat} {Pd : PC → Bool} {left : Lit → Bool} {ss : List (List UInt8)} (h : Gath Pd cs left ss) {m : PC} (hk : ∀ x ∈ cs, kb x.key = kb m.key → x = m) (hp : Pd m = false) : Gath Pd cs (fun z => left z && !z.sameKey (.string (kb m.key))) ss := by
  refine ⟨h.1, fun y => ?_⟩
  by_cases hy : y = kb m.key
  · subst hy
    rw [h.2]
    constructor
    · rintro ⟨⟨x, hx, e, hpx⟩, _⟩
      rw [hk x hx e, hp] at hpx
      cases hpx
    · rintro ⟨⟨x, hx, e, hpx⟩, _⟩
      rw [hk x hx e, hp] at hpx
      cases hpx
  · simp [h.2 y, hy, Lit.sameKey]

theorem kb_same {cs : List PC} {z : Nat} (hs : SortC (cs.map PC.c)) (hg : ∀ m ∈ cs, m.good z) {m x : PC} (hm : m ∈ cs) (hx : x ∈ cs) (e : kb x.key = kb m.key) : x = m := by
  have e2 : x.key = m.key := by rw [← nb_kb (hg x hx).key, e, nb_kb (hg m hm).key]
  have h1 := atS_of hs hx
  rw [e2, atS_of hs hm] at h1
  exact (Option.some.inj h1).symm

/-- the entry that has come -/
theorem came {cs : List PC} {x : List UInt8} {c : Int} {yd : DataW Unit} {yp : List MemPlace} {D : DataW Unit} {left : Lit → Bool} (hC : ∀ x : List UInt8, D.atKey (.string x) (.lit (.int .i64 (-1))) = .lit (.int .i64 (blkOf cs (nb x))) ∧ (Maps.has D (.string x) = true ↔ blkOf cs (nb x) ≠ -1))
    (hv : ptrElem (ptrV c) = some (yd, yp)) (hat : ∀ zd, D.atKey (.string x) zd = yd) : ∃ m, atS cs (nb x) = some m ∧ ptrV c = .pointer (some ⟨m.b, 0, none⟩) := by
  have hh : Maps.has D (.string x) = true := Maps.has_true_of_atKey hat
  have h1 := (hC x).2.1 hh
  have h2 := (hC x).1
  rw [hat] at h2
  obtain ⟨c', e1, e2, _⟩ := ptrElem_inv hv
  rw [e2] at h2
  have h3 : c' = blkOf cs (nb x) := by simpa using h2
  unfold blkOf at h1 h3
  cases e : atS cs (nb x) with
  | none => rw [e] at h1; simp at h1
  | some m =>
    rw [e] at h3
    exact ⟨m, rfl, by rw [e1, h3]; exact ptrV_of m.b⟩

set_option maxHeartbeats 4000000 in
theorem rising_any (G : Nat → Prop) (base : Nat) (w : World) (p mb z : Nat) (cs : List PC) (h : IsS G base w p mb z cs) (hz : z ≤ 100000) (Pd : PC → Bool) 
    (hW : ∀ W m, m ∈ cs → Below w.heap.size w W → Calls Try.prog 44 #[.string (strB m.key), .pointer (some ⟨m.b, 0, none⟩)] W fun e w' => e = .returned (.bool (Pd m)) ∧ Below W.heap.size W w') :
    Calls Try.prog 37 #[.pointer (some ⟨p, 0, none⟩), .func (.func 44) #[] #[]] w fun e w' => RisePost w (keysP Pd cs) e w' := by
  have HMd := hide (pmade_any w p mb h.c)
  obtain ⟨D, hD, hC⟩ := h.map
  have c0 := h.c
  have HC := hide hC
  have HGd := hide h.go
  have HSt := hide h.sort
  have HW := hide hW
  have HG0 : Hid (Gath Pd cs (Maps.has D) []) := gath_start h.go h.sort (fun x => (hC x).2)
  have HSz : Hid (Maps.size D ≤ z) := hD.size_le
  have HD := hide hD
  have hbl := hD.lt
  have hlaw := Maps.string_keyed (P := Try.prog) Try.underlying9
  clear h hC hW
  go_enter Try.func37, Try.ntmps37
  go_wp2_with (first
    | (go_at_call 41; go_must (refine HMd.out.mono ?_); rintro e w1 ⟨rfl, hw⟩; have hw := hw.symm; subst hw)
    | (at_range; refine wpList_range_own _ rfl _ 72 rfl 9 65 hlaw Try.underlying72 _ mb z D rfl HD.out ?_; intro w0 hrg0 hg0 hs0)
    | go_in)
  go_frame
  have HR0 := hide hrg0
  have HB0 : Hid (Below w.heap.size w w0) := (Below.refl _ _).grown hg0 (Nat.le_refl _) (fun j hj => by cases hj)
  have HS0 : Hid (w0.heap.size = w.heap.size + 1) := hs0
  clear hrg0 hg0 hs0 HD hD
  go_loopw [5] (fun v wr => ∃ (left : Lit → Bool) (cnt : Nat) (ss : List (List UInt8)), wr.ranges Try.prog 9 ptrElem mb w.heap.size z D left cnt ∧ ss.length + cnt ≤ Maps.size D ∧ OwnY layS wr (w.heap.size + 1) v ss ∧ Gath Pd cs left ss ∧ Below w.heap.size w wr ∧ w.heap.size + 1 ≤ wr.heap.size)
    (fun _ wr => wr.rangeLeft mb w.heap.size)
  case atStart => exact ⟨_, _, [], HR0.out, by simp, ownY_nil _ _, HG0.out, HB0.out, by rw [HS0.out]; exact Nat.le_refl _⟩
  case round =>
    obtain ⟨left, cnt, ss, hrg, hcs, hrow, hga, hbl2, hsz⟩ := hrel
    have HRg := hide hrg
    have HRw := hide hrow
    have HGa := hide hga
    have HBl := hide hbl2
    have HCs := hide hcs
    clear hrg hrow hga hbl2 hcs HR0 HG0 HB0 HS0
    obtain ⟨av, nv, cv, rfl, hnv, -, -⟩ := HRw.out.any4
    go_wp2_with (first
      | (at_next; refine wpList_next_ranges _ rfl _ rfl 9 hlaw ptrElem encStr ptrV (fun key kl hk => by obtain ⟨x, hx, _⟩ := Maps.keyOf_str Try.underlying9 hk; exact ⟨x, hx⟩) (fun v y hv => by obtain ⟨d, ps⟩ := y; obtain ⟨x, hx, _⟩ := ptrElem_inv hv; exact ⟨x, hx⟩) mb w.heap.size z _ _ _ rfl HRg.out ?_ ?_)
      | go_in)
    · intro hc0 hl0
      have HEn := hide (gath_end HGa.out hl0 HSt.out HGd.out)
      have HSo := hide (sortS_any _ _ _ ss HRw.out (by have := HCs.out; have := HSz.out; omega))
      clear hc0 hl0
      go_wp2_with (first
        | (go_at_call 54; go_must (refine HSo.out.mono ?_); rintro e w3 ⟨rfl, ho3, hg3⟩; have HO3 := hide ho3; have HG3 := hide hg3; clear ho3 hg3)
        | (go_at_call 55; go_must (refine (valsS_any _ _ _ _).mono ?_); rintro e w4 ⟨rfl, hw4⟩; have HW4 := hide hw4; clear hw4))
      go_ret
      have hb3 : Below w.heap.size w w3 := HBl.out.grown HG3.out HBl.out.size (fun j hj => by have := (HRw.out.lt j hj).1; omega)
      have hs3 := HG3.out.size
      rw [HW4.out]
      have ho := HO3.out
      rw [HEn.out] at ho
      refine ⟨w3.heap.size, av, nv, cv, rfl, by omega, by simp, rangeY_new _ _ _ _ rfl 0 _ rfl, ?_, ?_, hb3.trans ((new_below _ _).mono hb3.size)⟩
      · exact ho.is.src.keep (new_below _ _)
      · intro y hy
        rcases ho.form with ⟨e, _⟩ | ⟨g, cap, e, hg1, _⟩
        · simp only [Value.slice.injEq] at e; rw [e.1] at hy; cases hy
        · simp only [Value.slice.injEq] at e; rw [e.1] at hy; cases hy; show w.heap.size ≤ g; omega
    · intro x c kl yd yp w2 cnt2 hkey hlk hv hat hrg2 hlt hg2 hs2 hen
      obtain ⟨x', ex, rfl, hxl⟩ := Maps.keyOf_str Try.underlying9 hkey
      obtain rfl : x = x' := encStr_inj ex
      obtain ⟨m, hm, hpc⟩ := came (left := left) HC.out hv hat
      obtain ⟨hmm, hmk⟩ := atS_mem hm
      have hxk : x = kb m.key := nb_inj (by rw [nb_kb (HGd.out m hmm).key, hmk])
      subst hxk
      have he : encStr (kb m.key) = .string (strB m.key) := strB_kb m.key
      rw [hpc, he] at hen
      rw [hpc, he]
      have hb2 : Below w.heap.size w w2 := HBl.out.grown hg2 HBl.out.size (fun j hj => by cases hj; exact Nat.le_refl _)
      have HRw2 : Hid (OwnY layS w2 (w.heap.size + 1) (.slice av nv cv) ss) := HRw.out.lies (fun g hg => hg2.block g (HRw.out.lt g hg).2 (fun e => by have := (HRw.out.lt g hg).1; have := Option.some.inj e; omega))
      have HRg2 := hide hrg2
      have HB2 := hide hb2
      have HS2 : Hid (w2.heap.size = wr.heap.size) := hs2
      have HLk := hide hlk
      have HLt := hide hlt
      have HCl := hide (HW.out w2 m hmm hb2)
      have HMm := hide hmm
      obtain ⟨z0, hz0⟩ : ∃ z0, Pd m = z0 := ⟨_, rfl⟩
      rw [hz0] at HCl
      have HZ0 := hide hz0
      clear hkey hlk hv hat hrg2 hlt hg2 hs2 hb2 hxl hm hmm hmk hpc he hz0
      cases z0
      · go_wp2_with (first
          | (go_at_call 44; go_must (refine HCl.out.mono ?_); rintro e w3 ⟨rfl, hb3⟩; have HB3 := hide hb3; clear hb3))
        go_roundw
        case rel => exact ⟨_, cnt2, ss, HRg2.out.kept (⟨HB3.out.os, HB3.out.tape, HB3.out.output, HB3.out.size, fun k hk _ => HB3.out.block k hk⟩ : w2.grownBy w3 none) (by simp) (by simp), by have := HCs.out; have := HLt.out; omega, HRw2.out.keep HB3.out, gath_no (z := z) HGa.out (fun x hx e => kb_same HSt.out HGd.out HMm.out hx e) HZ0.out, HB2.out.trans (HB3.out.mono HB2.out.size), by have := HB3.out.size; rw [HS2.out] at this; omega⟩
        case measure =>
          have e1 := (HRg2.out.kept (⟨HB3.out.os, HB3.out.tape, HB3.out.output, HB3.out.size, fun k hk _ => HB3.out.block k hk⟩ : w2.grownBy w3 none) (by simp) (by simp)).left_eq
          rw [e1, HRg.out.left_eq]; exact HLt.out
      · have hss : ss.length + 1 ≤ 1000000000 := by have := HCs.out; have := HSz.out; have := HLt.out; omega
        go_wp2_with (first
          | (go_at_call 44; go_must (refine HCl.out.mono ?_); rintro e w3 ⟨rfl, hb3⟩; have HB3 := hide hb3; have hs3 : w.heap.size + 1 ≤ w3.heap.size := (by have := hb3.size; rw [HS2.out] at this; omega); have HR3 := hide (HRw2.out.keep hb3); have HR3a := hide ((HRw2.out.keep hb3).keep (new_below w3 (.cells #[.string (strB m.key)] 9))); have HV3 := hide (srcY_one (L := layS) (w3.alloc (.cells #[.string (strB m.key)] 9)) (kb m.key) w3.heap.size (by simp) (by have := rangeY_new w3 w3.heap.size #[.string (strB m.key)] 9 rfl; rw [← strB_kb] at this; exact this)); clear hb3)
          | (at_builtin; go_must (refine wp_joinY layS _ rfl (.tmp 24) (.tmp 26) rfl (w.heap.size + 1) _ ss rfl HR3a.out (some ⟨w3.heap.size, 0, none⟩) 1 1 [kb m.key] rfl HV3.out (by simpa using hss) (by simp; omega) ?_); intro v4 w4 ho4 hg4 _; obtain ⟨a4, n4, c4, rfl⟩ := ho4.any3; have HO4 := hide ho4; have HG4 := hide hg4; clear ho4 hg4))
        have g23 : w2.grownBy w3 none := ⟨HB3.out.os, HB3.out.tape, HB3.out.output, HB3.out.size, fun k hk _ => HB3.out.block k hk⟩
        have r4 := ((HRg2.out.kept g23 (by simp) (by simp)).alloc (.cells #[.string (strB m.key)] 9)).kept HG4.out (fun e => by have := (HR3.out.lt _ e.symm).1; omega) (fun e => by have := (HR3.out.lt _ e.symm).1; omega)
        have hbw3 := HB2.out.trans (HB3.out.mono HB2.out.size)
        have hbw4 : Below w.heap.size w w4 := (hbw3.trans ((new_below w3 (.cells #[.string (strB m.key)] 9)).mono hbw3.size)).grown HG4.out (by simp; omega) (fun j hj => by have := (HR3.out.lt j hj).1; omega)
        have hs4 := HG4.out.size
        go_roundw
        case rel => exact ⟨_, cnt2, ss ++ [kb m.key], r4, by rw [List.length_append]; have := HCs.out; have := HLt.out; simp; omega, HO4.out, gath_yes (z := z) HGa.out HMm.out HLk.out HZ0.out, hbw4, by simp at hs4; omega⟩
        case measure => rw [r4.left_eq, HRg.out.left_eq]; exact HLt.out

set_option maxHeartbeats 4000000 in
theorem rising_it (G : Nat → Prop) (base : Nat) (w : World) (p mb z : Nat) (cs : List PC) (h : IsS G base w p mb z cs) (hz : z ≤ 100000) (Pd : PC → Bool) (B : Nat)
    (hW : ∀ W m, m ∈ cs → Below w.heap.size w W → Calls Try.prog 59 #[.string (strB m.key), .pointer (some ⟨m.b, 0, none⟩), .pointer (some ⟨B, 0, none⟩)] W fun e w' => e = .returned (.bool (Pd m)) ∧ Below W.heap.size W w') :
    Calls Try.prog 37 #[.pointer (some ⟨p, 0, none⟩), .func (.func 59) #[] #[.pointer (some ⟨B, 0, none⟩)]] w fun e w' => RisePost w (keysP Pd cs) e w' := by
  have HMd := hide (pmade_any w p mb h.c)
  obtain ⟨D, hD, hC⟩ := h.map
  have c0 := h.c
  have HC := hide hC
  have HGd := hide h.go
  have HSt := hide h.sort
  have HW := hide hW
  have HG0 : Hid (Gath Pd cs (Maps.has D) []) := gath_start h.go h.sort (fun x => (hC x).2)
  have HSz : Hid (Maps.size D ≤ z) := hD.size_le
  have HD := hide hD
  have hbl := hD.lt
  have hlaw := Maps.string_keyed (P := Try.prog) Try.underlying9
  clear h hC hW
  go_enter Try.func37, Try.ntmps37
  go_wp2_with (first
    | (go_at_call 41; go_must (refine HMd.out.mono ?_); rintro e w1 ⟨rfl, hw⟩; have hw := hw.symm; subst hw)
    | (at_range; refine wpList_range_own _ rfl _ 72 rfl 9 65 hlaw Try.underlying72 _ mb z D rfl HD.out ?_; intro w0 hrg0 hg0 hs0)
    | go_in)
  go_frame
  have HR0 := hide hrg0
  have HB0 : Hid (Below w.heap.size w w0) := (Below.refl _ _).grown hg0 (Nat.le_refl _) (fun j hj => by cases hj)
  have HS0 : Hid (w0.heap.size = w.heap.size + 1) := hs0
  clear hrg0 hg0 hs0 HD hD
  go_loopw [5] (fun v wr => ∃ (left : Lit → Bool) (cnt : Nat) (ss : List (List UInt8)), wr.ranges Try.prog 9 ptrElem mb w.heap.size z D left cnt ∧ ss.length + cnt ≤ Maps.size D ∧ OwnY layS wr (w.heap.size + 1) v ss ∧ Gath Pd cs left ss ∧ Below w.heap.size w wr ∧ w.heap.size + 1 ≤ wr.heap.size)
    (fun _ wr => wr.rangeLeft mb w.heap.size)
  case atStart => exact ⟨_, _, [], HR0.out, by simp, ownY_nil _ _, HG0.out, HB0.out, by rw [HS0.out]; exact Nat.le_refl _⟩
  case round =>
    obtain ⟨left, cnt, ss, hrg, hcs, hrow, hga, hbl2, hsz⟩ := hrel
    have HRg := hide hrg
    have HRw := hide hrow
    have HGa := hide hga
    have HBl := hide hbl2
    have HCs := hide hcs
    clear hrg hrow hga hbl2 hcs HR0 HG0 HB0 HS0
    obtain ⟨av, nv, cv, rfl, hnv, -, -⟩ := HRw.out.any4
    go_wp2_with (first
      | (at_next; refine wpList_next_ranges _ rfl _ rfl 9 hlaw ptrElem encStr ptrV (fun key kl hk => by obtain ⟨x, hx, _⟩ := Maps.keyOf_str Try.underlying9 hk; exact ⟨x, hx⟩) (fun v y hv => by obtain ⟨d, ps⟩ := y; obtain ⟨x, hx, _⟩ := ptrElem_inv hv; exact ⟨x, hx⟩) mb w.heap.size z _ _ _ rfl HRg.out ?_ ?_)
      | go_in)
    · intro hc0 hl0
      have HEn := hide (gath_end HGa.out hl0 HSt.out HGd.out)
      have HSo := hide (sortS_any _ _ _ ss HRw.out (by have := HCs.out; have := HSz.out; omega))
      clear hc0 hl0
      go_wp2_with (first
        | (go_at_call 54; go_must (refine HSo.out.mono ?_); rintro e w3 ⟨rfl, ho3, hg3⟩; have HO3 := hide ho3; have HG3 := hide hg3; clear ho3 hg3)
        | (go_at_call 55; go_must (refine (valsS_any _ _ _ _).mono ?_); rintro e w4 ⟨rfl, hw4⟩; have HW4 := hide hw4; clear hw4))
      go_ret
      have hb3 : Below w.heap.size w w3 := HBl.out.grown HG3.out HBl.out.size (fun j hj => by have := (HRw.out.lt j hj).1; omega)
      have hs3 := HG3.out.size
      rw [HW4.out]
      have ho := HO3.out
      rw [HEn.out] at ho
      refine ⟨w3.heap.size, av, nv, cv, rfl, by omega, by simp, rangeY_new _ _ _ _ rfl 0 _ rfl, ?_, ?_, hb3.trans ((new_below _ _).mono hb3.size)⟩
      · exact ho.is.src.keep (new_below _ _)
      · intro y hy
        rcases ho.form with ⟨e, _⟩ | ⟨g, cap, e, hg1, _⟩
        · simp only [Value.slice.injEq] at e; rw [e.1] at hy; cases hy
        · simp only [Value.slice.injEq] at e; rw [e.1] at hy; cases hy; show w.heap.size ≤ g; omega
    · intro x c kl yd yp w2 cnt2 hkey hlk hv hat hrg2 hlt hg2 hs2 hen
      obtain ⟨x', ex, rfl, hxl⟩ := Maps.keyOf_str Try.underlying9 hkey
      obtain rfl : x = x' := encStr_inj ex
      obtain ⟨m, hm, hpc⟩ := came (left := left) HC.out hv hat
      obtain ⟨hmm, hmk⟩ := atS_mem hm
      have hxk : x = kb m.key := nb_inj (by rw [nb_kb (HGd.out m hmm).key, hmk])
      subst hxk
      have he : encStr (kb m.key) = .string (strB m.key) := strB_kb m.key
      rw [hpc, he] at hen
      rw [hpc, he]
      have hb2 : Below w.heap.size w w2 := HBl.out.grown hg2 HBl.out.size (fun j hj => by cases hj; exact Nat.le_refl _)
      have HRw2 : Hid (OwnY layS w2 (w.heap.size + 1) (.slice av nv cv) ss) := HRw.out.lies (fun g hg => hg2.block g (HRw.out.lt g hg).2 (fun e => by have := (HRw.out.lt g hg).1; have := Option.some.inj e; omega))
      have HRg2 := hide hrg2
      have HB2 := hide hb2
      have HS2 : Hid (w2.heap.size = wr.heap.size) := hs2
      have HLk := hide hlk
      have HLt := hide hlt
      have HCl := hide (HW.out w2 m hmm hb2)
      have HMm := hide hmm
      obtain ⟨z0, hz0⟩ : ∃ z0, Pd m = z0 := ⟨_, rfl⟩
      rw [hz0] at HCl
      have HZ0 := hide hz0
      clear hkey hlk hv hat hrg2 hlt hg2 hs2 hb2 hxl hm hmm hmk hpc he hz0
      cases z0
      · go_wp2_with (first
          | (go_at_call 59; go_must (refine HCl.out.mono ?_); rintro e w3 ⟨rfl, hb3⟩; have HB3 := hide hb3; clear hb3))
        go_roundw
        case rel => exact ⟨_, cnt2, ss, HRg2.out.kept (⟨HB3.out.os, HB3.out.tape, HB3.out.output, HB3.out.size, fun k hk _ => HB3.out.block k hk⟩ : w2.grownBy w3 none) (by simp) (by simp), by have := HCs.out; have := HLt.out; omega, HRw2.out.keep HB3.out, gath_no (z := z) HGa.out (fun x hx e => kb_same HSt.out HGd.out HMm.out hx e) HZ0.out, HB2.out.trans (HB3.out.mono HB2.out.size), by have := HB3.out.size; rw [HS2.out] at this; omega⟩
        case measure =>
          have e1 := (HRg2.out.kept (⟨HB3.out.os, HB3.out.tape, HB3.out.output, HB3.out.size, fun k hk _ => HB3.out.block k hk⟩ : w2.grownBy w3 none) (by simp) (by simp)).left_eq
          rw [e1, HRg.out.left_eq]; exact HLt.out
      · have hss : ss.length + 1 ≤ 1000000000 := by have := HCs.out; have := HSz.out; have := HLt.out; omega
        go_wp2_with (first
          | (go_at_call 59; go_must (refine HCl.out.mono ?_); rintro e w3 ⟨rfl, hb3⟩; have HB3 := hide hb3; have hs3 : w.heap.size + 1 ≤ w3.heap.size := (by have := hb3.size; rw [HS2.out] at this; omega); have HR3 := hide (HRw2.out.keep hb3); have HR3a := hide ((HRw2.out.keep hb3).keep (new_below w3 (.cells #[.string (strB m.key)] 9))); have HV3 := hide (srcY_one (L := layS) (w3.alloc (.cells #[.string (strB m.key)] 9)) (kb m.key) w3.heap.size (by simp) (by have := rangeY_new w3 w3.heap.size #[.string (strB m.key)] 9 rfl; rw [← strB_kb] at this; exact this)); clear hb3)
          | (at_builtin; go_must (refine wp_joinY layS _ rfl (.tmp 24) (.tmp 26) rfl (w.heap.size + 1) _ ss rfl HR3a.out (some ⟨w3.heap.size, 0, none⟩) 1 1 [kb m.key] rfl HV3.out (by simpa using hss) (by simp; omega) ?_); intro v4 w4 ho4 hg4 _; obtain ⟨a4, n4, c4, rfl⟩ := ho4.any3; have HO4 := hide ho4; have HG4 := hide hg4; clear ho4 hg4))
        have g23 : w2.grownBy w3 none := ⟨HB3.out.os, HB3.out.tape, HB3.out.output, HB3.out.size, fun k hk _ => HB3.out.block k hk⟩
        have r4 := ((HRg2.out.kept g23 (by simp) (by simp)).alloc (.cells #[.string (strB m.key)] 9)).kept HG4.out (fun e => by have := (HR3.out.lt _ e.symm).1; omega) (fun e => by have := (HR3.out.lt _ e.symm).1; omega)
        have hbw3 := HB2.out.trans (HB3.out.mono HB2.out.size)
        have hbw4 : Below w.heap.size w w4 := (hbw3.trans ((new_below w3 (.cells #[.string (strB m.key)] 9)).mono hbw3.size)).grown HG4.out (by simp; omega) (fun j hj => by have := (HR3.out.lt j hj).1; omega)
        have hs4 := HG4.out.size
        go_roundw
        case rel => exact ⟨_, cnt2, ss ++ [kb m.key], r4, by rw [List.length_append]; have := HCs.out; have := HLt.out; simp; omega, HO4.out, gath_yes (z := z) HGa.out HMm.out HLk.out HZ0.out, hbw4, by simp at hs4; omega⟩
        case measure => rw [r4.left_eq, HRg.out.left_eq]; exact HLt.out

set_option maxHeartbeats 4000000 in
theorem rising_scan (G : Nat → Prop) (base : Nat) (w : World) (p mb z : Nat) (cs : List PC) (h : IsS G base w p mb z cs) (hz : z ≤ 100000) (Pd : PC → Bool) (B1 B2 B3 : Nat)
    (hW : ∀ W m, m ∈ cs → Below w.heap.size w W → Calls Try.prog 33 #[.string (strB m.key), .pointer (some ⟨m.b, 0, none⟩), .pointer (some ⟨B1, 0, none⟩), .pointer (some ⟨B2, 0, none⟩), .pointer (some ⟨B3, 0, none⟩)] W fun e w' => e = .returned (.bool (Pd m)) ∧ Below W.heap.size W w') :
    Calls Try.prog 37 #[.pointer (some ⟨p, 0, none⟩), .func (.func 33) #[] #[.pointer (some ⟨B1, 0, none⟩), .pointer (some ⟨B2, 0, none⟩), .pointer (some ⟨B3, 0, none⟩)]] w fun e w' => RisePost w (keysP Pd cs) e w' := by
  have HMd := hide (pmade_any w p mb h.c)
  obtain ⟨D, hD, hC⟩ := h.map
  have c0 := h.c
  have HC := hide hC
  have HGd := hide h.go
  have HSt := hide h.sort
  have HW := hide hW
  have HG0 : Hid (Gath Pd cs (Maps.has D) []) := gath_start h.go h.sort (fun x => (hC x).2)
  have HSz : Hid (Maps.size D ≤ z) := hD.size_le
  have HD := hide hD
  have hbl := hD.lt
  have hlaw := Maps.string_keyed (P := Try.prog) Try.underlying9
  clear h hC hW
  go_enter Try.func37, Try.ntmps37
  go_wp2_with (first
    | (go_at_call 41; go_must (refine HMd.out.mono ?_); rintro e w1 ⟨rfl, hw⟩; have hw := hw.symm; subst hw)
    | (at_range; refine wpList_range_own _ rfl _ 72 rfl 9 65 hlaw Try.underlying72 _ mb z D rfl HD.out ?_; intro w0 hrg0 hg0 hs0)
    | go_in)
  go_frame
  have HR0 := hide hrg0
  have HB0 : Hid (Below w.heap.size w w0) := (Below.refl _ _).grown hg0 (Nat.le_refl _) (fun j hj => by cases hj)
  have HS0 : Hid (w0.heap.size = w.heap.size + 1) := hs0
  clear hrg0 hg0 hs0 HD hD
  go_loopw [5] (fun v wr => ∃ (left : Lit → Bool) (cnt : Nat) (ss : List (List UInt8)), wr.ranges Try.prog 9 ptrElem mb w.heap.size z D left cnt ∧ ss.length + cnt ≤ Maps.size D ∧ OwnY layS wr (w.heap.size + 1) v ss ∧ Gath Pd cs left ss ∧ Below w.heap.size w wr ∧ w.heap.size + 1 ≤ wr.heap.size)
    (fun _ wr => wr.rangeLeft mb w.heap.size)
  case atStart => exact ⟨_, _, [], HR0.out, by simp, ownY_nil _ _, HG0.out, HB0.out, by rw [HS0.out]; exact Nat.le_refl _⟩
  case round =>
    obtain ⟨left, cnt, ss, hrg, hcs, hrow, hga, hbl2, hsz⟩ := hrel
    have HRg := hide hrg
    have HRw := hide hrow
    have HGa := hide hga
    have HBl := hide hbl2
    have HCs := hide hcs
    clear hrg hrow hga hbl2 hcs HR0 HG0 HB0 HS0
    obtain ⟨av, nv, cv, rfl, hnv, -, -⟩ := HRw.out.any4
    go_wp2_with (first
      | (at_next; refine wpList_next_ranges _ rfl _ rfl 9 hlaw ptrElem encStr ptrV (fun key kl hk => by obtain ⟨x, hx, _⟩ := Maps.keyOf_str Try.underlying9 hk; exact ⟨x, hx⟩) (fun v y hv => by obtain ⟨d, ps⟩ := y; obtain ⟨x, hx, _⟩ := ptrElem_inv hv; exact ⟨x, hx⟩) mb w.heap.size z _ _ _ rfl HRg.out ?_ ?_)
      | go_in)
    · intro hc0 hl0
      have HEn := hide (gath_end HGa.out hl0 HSt.out HGd.out)
      have HSo := hide (sortS_any _ _ _ ss HRw.out (by have := HCs.out; have := HSz.out; omega))
      clear hc0 hl0
      go_wp2_with (first
        | (go_at_call 54; go_must (refine HSo.out.mono ?_); rintro e w3 ⟨rfl, ho3, hg3⟩; have HO3 := hide ho3; have HG3 := hide hg3; clear ho3 hg3)
        | (go_at_call 55; go_must (refine (valsS_any _ _ _ _).mono ?_); rintro e w4 ⟨rfl, hw4⟩; have HW4 := hide hw4; clear hw4))
      go_ret
      have hb3 : Below w.heap.size w w3 := HBl.out.grown HG3.out HBl.out.size (fun j hj => by have := (HRw.out.lt j hj).1; omega)
      have hs3 := HG3.out.size
      rw [HW4.out]
      have ho := HO3.out
      rw [HEn.out] at ho
      refine ⟨w3.heap.size, av, nv, cv, rfl, by omega, by simp, rangeY_new _ _ _ _ rfl 0 _ rfl, ?_, ?_, hb3.trans ((new_below _ _).mono hb3.size)⟩
      · exact ho.is.src.keep (new_below _ _)
      · intro y hy
        rcases ho.form with ⟨e, _⟩ | ⟨g, cap, e, hg1, _⟩
        · simp only [Value.slice.injEq] at e; rw [e.1] at hy; cases hy
        · simp only [Value.slice.injEq] at e; rw [e.1] at hy; cases hy; show w.heap.size ≤ g; omega
    · intro x c kl yd yp w2 cnt2 hkey hlk hv hat hrg2 hlt hg2 hs2 hen
      obtain ⟨x', ex, rfl, hxl⟩ := Maps.keyOf_str Try.underlying9 hkey
      obtain rfl : x = x' := encStr_inj ex
      obtain ⟨m, hm, hpc⟩ := came (left := left) HC.out hv hat
      obtain ⟨hmm, hmk⟩ := atS_mem hm
      have hxk : x = kb m.key := nb_inj (by rw [nb_kb (HGd.out m hmm).key, hmk])
      subst hxk
      have he : encStr (kb m.key) = .string (strB m.key) := strB_kb m.key
      rw [hpc, he] at hen
      rw [hpc, he]
      have hb2 : Below w.heap.size w w2 := HBl.out.grown hg2 HBl.out.size (fun j hj => by cases hj; exact Nat.le_refl _)
      have HRw2 : Hid (OwnY layS w2 (w.heap.size + 1) (.slice av nv cv) ss) := HRw.out.lies (fun g hg => hg2.block g (HRw.out.lt g hg).2 (fun e => by have := (HRw.out.lt g hg).1; have := Option.some.inj e; omega))
      have HRg2 := hide hrg2
      have HB2 := hide hb2
      have HS2 : Hid (w2.heap.size = wr.heap.size) := hs2
      have HLk := hide hlk
      have HLt := hide hlt
      have HCl := hide (HW.out w2 m hmm hb2)
      have HMm := hide hmm
      obtain ⟨z0, hz0⟩ : ∃ z0, Pd m = z0 := ⟨_, rfl⟩
      rw [hz0] at HCl
      have HZ0 := hide hz0
      clear hkey hlk hv hat hrg2 hlt hg2 hs2 hb2 hxl hm hmm hmk hpc he hz0
      cases z0
      · go_wp2_with (first
          | (go_at_call 33; go_must (refine HCl.out.mono ?_); rintro e w3 ⟨rfl, hb3⟩; have HB3 := hide hb3; clear hb3))
        go_roundw
        case rel => exact ⟨_, cnt2, ss, HRg2.out.kept (⟨HB3.out.os, HB3.out.tape, HB3.out.output, HB3.out.size, fun k hk _ => HB3.out.block k hk⟩ : w2.grownBy w3 none) (by simp) (by simp), by have := HCs.out; have := HLt.out; omega, HRw2.out.keep HB3.out, gath_no (z := z) HGa.out (fun x hx e => kb_same HSt.out HGd.out HMm.out hx e) HZ0.out, HB2.out.trans (HB3.out.mono HB2.out.size), by have := HB3.out.size; rw [HS2.out] at this; omega⟩
        case measure =>
          have e1 := (HRg2.out.kept (⟨HB3.out.os, HB3.out.tape, HB3.out.output, HB3.out.size, fun k hk _ => HB3.out.block k hk⟩ : w2.grownBy w3 none) (by simp) (by simp)).left_eq
          rw [e1, HRg.out.left_eq]; exact HLt.out
      · have hss : ss.length + 1 ≤ 1000000000 := by have := HCs.out; have := HSz.out; have := HLt.out; omega
        go_wp2_with (first
          | (go_at_call 33; go_must (refine HCl.out.mono ?_); rintro e w3 ⟨rfl, hb3⟩; have HB3 := hide hb3; have hs3 : w.heap.size + 1 ≤ w3.heap.size := (by have := hb3.size; rw [HS2.out] at this; omega); have HR3 := hide (HRw2.out.keep hb3); have HR3a := hide ((HRw2.out.keep hb3).keep (new_below w3 (.cells #[.string (strB m.key)] 9))); have HV3 := hide (srcY_one (L := layS) (w3.alloc (.cells #[.string (strB m.key)] 9)) (kb m.key) w3.heap.size (by simp) (by have := rangeY_new w3 w3.heap.size #[.string (strB m.key)] 9 rfl; rw [← strB_kb] at this; exact this)); clear hb3)
          | (at_builtin; go_must (refine wp_joinY layS _ rfl (.tmp 24) (.tmp 26) rfl (w.heap.size + 1) _ ss rfl HR3a.out (some ⟨w3.heap.size, 0, none⟩) 1 1 [kb m.key] rfl HV3.out (by simpa using hss) (by simp; omega) ?_); intro v4 w4 ho4 hg4 _; obtain ⟨a4, n4, c4, rfl⟩ := ho4.any3; have HO4 := hide ho4; have HG4 := hide hg4; clear ho4 hg4))
        have g23 : w2.grownBy w3 none := ⟨HB3.out.os, HB3.out.tape, HB3.out.output, HB3.out.size, fun k hk _ => HB3.out.block k hk⟩
        have r4 := ((HRg2.out.kept g23 (by simp) (by simp)).alloc (.cells #[.string (strB m.key)] 9)).kept HG4.out (fun e => by have := (HR3.out.lt _ e.symm).1; omega) (fun e => by have := (HR3.out.lt _ e.symm).1; omega)
        have hbw3 := HB2.out.trans (HB3.out.mono HB2.out.size)
        have hbw4 : Below w.heap.size w w4 := (hbw3.trans ((new_below w3 (.cells #[.string (strB m.key)] 9)).mono hbw3.size)).grown HG4.out (by simp; omega) (fun j hj => by have := (HR3.out.lt j hj).1; omega)
        have hs4 := HG4.out.size
        go_roundw
        case rel => exact ⟨_, cnt2, ss ++ [kb m.key], r4, by rw [List.length_append]; have := HCs.out; have := HLt.out; simp; omega, HO4.out, gath_yes (z := z) HGa.out HMm.out HLk.out HZ0.out, hbw4, by simp at hs4; omega⟩
        case measure => rw [r4.left_eq, HRg.out.left_eq]; exact HLt.out

end Go.Proofs.Ytfldiapdfpkdaaa
