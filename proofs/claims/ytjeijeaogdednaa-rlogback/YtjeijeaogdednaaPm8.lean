/- Records as bytes: the document's PutHard, PutEntry, PutSnap. -/
import Derived.Test.YtjeijeaogdednaaPm7
import Derived.Deep.RegionHeld3
namespace Go.Proofs.Ytjeijeaogdednaa
open Go.RowKit NumMath
set_option linter.unusedVariables false
set_option maxRecDepth 100000

/-- a run of bytes of one's own, beside all that was there -/
def RunB (W1 : World) (bs : List Int) (e : Ending) (w' : World) : Prop :=
  ∃ a n c, e = .returned (.slice a n c) ∧ SrcB w' a n bs ∧ OwnB w' W1.heap.size (.slice a n c) bs ∧ Below W1.heap.size W1 w'

theorem rn_on {W1 W : World} (hb : Below W1.heap.size W1 W) (a : Option Addr) (len cap : Nat) (bs : List Int) (n : Int) (hs : SrcB W a len bs) (hn : 0 ≤ n ∧ n ≤ 18446744073709551615) (hl : bs.length ≤ 1000000000) :
    Calls Try.prog 63 #[.slice a len cap, .int .u64 n] W (RunB W1 (bs ++ numL n)) := by
  refine (rN_any a len cap bs n W hs hn.1 hn.2 (by have := hs.1; omega)).mono ?_
  rintro e w' ⟨v, rfl, ho, hb'⟩
  obtain ⟨a2, n2, c2, rfl, hs2⟩ := ho.any
  exact ⟨a2, n2, c2, rfl, hs2, ho.mono hb.size, hb.trans (hb'.mono hb.size)⟩

theorem rt_on {W1 W : World} (hb : Below W1.heap.size W1 W) (a : Option Addr) (len cap : Nat) (bs : List Int) (b : Option Addr) (m c : Nat) (xs : List Int) (hs : SrcB W a len bs) (hx : SrcB W b m xs) (hl : bs.length ≤ 100000000) (hm : m ≤ 100000000) :
    Calls Try.prog 66 #[.slice a len cap, .slice b m c] W (RunB W1 (bs ++ (numL (m : Int) ++ xs))) := by
  refine (rText_any a len cap bs b m c xs W hs hx (by have := hs.1; omega) hm).mono ?_
  rintro e w' ⟨v, rfl, ho, hb'⟩
  obtain ⟨a2, n2, c2, rfl, hs2⟩ := ho.any
  exact ⟨a2, n2, c2, rfl, hs2, ho.mono hb.size, hb.trans (hb'.mono hb.size)⟩

theorem srcB_none (w : World) : SrcB w none 0 [] := ⟨rfl, .inl rfl⟩

theorem nums3 (x y z : Int) : numsL [x, y, z] = [] ++ numL x ++ numL y ++ numL z := by
  unfold numsL
  simp [List.flatMap]

set_option maxHeartbeats 400000 in
theorem xputhard_any (t v : Int) (w : World) (h1 : 0 ≤ t ∧ t ≤ 18446744073709551615) (h2 : 0 ≤ v ∧ v ≤ 18446744073709551615) :
    Calls Try.prog 22 #[.agg #[.int .u64 t, .int .u64 v]] w fun e w' => ∃ r, e = .returned r ∧ OwnB w' w.heap.size r (hardB t v) ∧ Below w.heap.size w w' := by
  have HB0 := hide (new_below w (.cells #[.int .u64 t, .int .u64 v] 48))
  have HK : Hid (∀ W, Below (w.alloc (.cells #[.int .u64 t, .int .u64 v] 48)).heap.size (w.alloc (.cells #[.int .u64 t, .int .u64 v] 48)) W → W.cell? ⟨w.heap.size, 0, none⟩ = some (.int .u64 t) ∧ W.cell? ⟨w.heap.size, 1, none⟩ = some (.int .u64 v)) := fun W hW => ⟨(hW.cell (by simp)).trans (by simp), (hW.cell (by simp)).trans (by simp)⟩
  have HE : Hid (hardB t v = [] ++ numL 1 ++ numL t ++ numL v) := nums3 1 t v
  have HN1 := hide (numL_length 1 (by decide) (by decide))
  have HN2 := hide (numL_length t h1.1 h1.2)
  go_enter Try.func22, Try.ntmps22
  go_wp2
  have HD0 : Hid (Below (w.alloc (.cells #[.int .u64 t, .int .u64 v] 48)).heap.size (w.alloc (.cells #[.int .u64 t, .int .u64 v] 48)) (w.alloc (.cells #[.int .u64 t, .int .u64 v] 48)).drew) := (Below.refl _ _).drew
  go_region_held3 (fun W => W.cell? ⟨w.heap.size, 0, none⟩ = some (.int .u64 t) ∧ W.cell? ⟨w.heap.size, 1, none⟩ = some (.int .u64 v)) (first | with_reducible exact HK.out _ HB4.out | with_reducible exact HK.out _ HB3.out | with_reducible exact HK.out _ HB2.out | with_reducible exact HK.out _ HD0.out | go_keep) (first
    | (go_at_call 63; have hchk := HS3.out; clear hchk; refine (rn_on HB3.out a3 n3 c3 _ v HS3.out h2 (by have := HN1.out; have := HN2.out; rw [List.length_append, List.length_append, List.length_nil]; omega)).mono ?_; rintro e w4 ⟨a4, n4, c4, rfl, hs4, ho4, hb4⟩; have HO4 := hide ho4; have HB4 := hide hb4; clear hs4 ho4 hb4)
    | (go_at_call 63; have hchk := HS2.out; clear hchk; refine (rn_on HB2.out a2 n2 c2 _ t HS2.out h1 (by have := HN1.out; rw [List.length_append, List.length_nil]; omega)).mono ?_; rintro e w3 ⟨a3, n3, c3, rfl, hs3, -, hb3⟩; have HS3 := hide hs3; have HB3 := hide hb3; clear hs3 hb3)
    | (go_at_call 63; refine (rn_on HD0.out none 0 0 [] 1 (srcB_none _) (by decide) (by simp)).mono ?_; rintro e w2 ⟨a2, n2, c2, rfl, hs2, -, hb2⟩; have HS2 := hide hs2; have HB2 := hide hb2; clear hs2 hb2))
  all_goals
    go_wp2
    go_ret
    exact ⟨_, rfl, by rw [HE.out]; exact HO4.out.mono HB0.out.size, HB0.out.trans (HB4.out.mono HB0.out.size)⟩

theorem box4_on {w W : World} {v0 v1 v2 v3 : Value} {ty : TypeId} (hW : Below (w.alloc (.cells #[v0, v1, v2, v3] ty)).heap.size (w.alloc (.cells #[v0, v1, v2, v3] ty)) W) : W.cell? ⟨w.heap.size, 0, none⟩ = some v0 ∧ W.cell? ⟨w.heap.size, 1, none⟩ = some v1 ∧ W.cell? ⟨w.heap.size, 2, none⟩ = some v2 ∧ W.cell? ⟨w.heap.size, 3, none⟩ = some v3 :=
  ⟨(hW.cell (by simp)).trans (by simp), (hW.cell (by simp)).trans (by simp), (hW.cell (by simp)).trans (by simp), (hW.cell (by simp)).trans (by simp)⟩

set_option maxHeartbeats 800000 in
theorem xputent_any (e : Ent) (b : Option Addr) (n c : Nat) (w : World) (hok : e.ok) (hI : IsBytes w b n c e.d) (hl : n ≤ 100000) :
    Calls Try.prog 24 #[.agg #[.int .u64 e.i, .int .u64 e.t, .int .i64 e.k, .slice b n c]] w fun x w' => ∃ r, x = .returned r ∧ OwnB w' w.heap.size r (entB e) ∧ Below w.heap.size w w' := by
  obtain ⟨i, t, k, d⟩ := e
  dsimp only at *
  have hdl := hI.1
  obtain ⟨h1, h2, hk1, hk2⟩ := hok
  dsimp only at h1 h2 hk1 hk2
  have hz := zigV_range k hk1 hk2
  have HB0 := hide (new_below w (.cells #[.int .u64 i, .int .u64 t, .int .i64 k, .slice b n c] 50))
  have HK := hide (fun W => box4_on (w := w) (W := W) (v0 := .int .u64 i) (v1 := .int .u64 t) (v2 := .int .i64 k) (v3 := .slice b n c) (ty := 50))
  have HSd := hide (fun (W : World) (hW : Below (w.alloc (.cells #[.int .u64 i, .int .u64 t, .int .i64 k, .slice b n c] 50)).heap.size (w.alloc (.cells #[.int .u64 i, .int .u64 t, .int .i64 k, .slice b n c] 50)) W) => hI.src.keep (HB0.out.trans (hW.mono HB0.out.size)))
  have HE : Hid (entB ⟨i, t, k, d⟩ = [] ++ numL 2 ++ numL i ++ numL t ++ numL (zigV k) ++ (numL (n : Int) ++ d)) := by show _ = _; unfold entB; dsimp only; rw [hdl, nums3]
  have HN1 := hide (numL_length 2 (by decide) (by decide))
  have HN2 := hide (numL_length i h1.1 h1.2)
  have HN3 := hide (numL_length t h2.1 h2.2)
  have HN4 := hide (numL_length (zigV k) hz.1 hz.2)
  clear hI
  go_enter Try.func24, Try.ntmps24
  go_wp2
  have HD0 : Hid (Below (w.alloc (.cells #[.int .u64 i, .int .u64 t, .int .i64 k, .slice b n c] 50)).heap.size (w.alloc (.cells #[.int .u64 i, .int .u64 t, .int .i64 k, .slice b n c] 50)) (w.alloc (.cells #[.int .u64 i, .int .u64 t, .int .i64 k, .slice b n c] 50)).drew) := (Below.refl _ _).drew
  go_region_held3 (fun W => W.cell? ⟨w.heap.size, 0, none⟩ = some (.int .u64 i) ∧ W.cell? ⟨w.heap.size, 1, none⟩ = some (.int .u64 t) ∧ W.cell? ⟨w.heap.size, 2, none⟩ = some (.int .i64 k) ∧ W.cell? ⟨w.heap.size, 3, none⟩ = some (.slice b n c)) (first | with_reducible exact HK.out _ HB4.out | with_reducible exact HK.out _ HB3.out | with_reducible exact HK.out _ HB2.out | with_reducible exact HK.out _ HD0.out | go_keep) (first
    | (go_at_call 63; have hchk := HS3.out; clear hchk; refine (rn_on HB3.out a3 n3 c3 _ t HS3.out h2 (by have := HN1.out; have := HN2.out; rw [List.length_append, List.length_append, List.length_nil]; omega)).mono ?_; rintro e w4 ⟨a4, n4, c4, rfl, hs4, -, hb4⟩; have HS4 := hide hs4; have HB4 := hide hb4; clear hs4 hb4)
    | (go_at_call 63; have hchk := HS2.out; clear hchk; refine (rn_on HB2.out a2 n2 c2 _ i HS2.out h1 (by have := HN1.out; rw [List.length_append, List.length_nil]; omega)).mono ?_; rintro e w3 ⟨a3, n3, c3, rfl, hs3, -, hb3⟩; have HS3 := hide hs3; have HB3 := hide hb3; clear hs3 hb3)
    | (go_at_call 63; refine (rn_on HD0.out none 0 0 [] 2 (srcB_none _) (by decide) (by simp)).mono ?_; rintro e w2 ⟨a2, n2, c2, rfl, hs2, -, hb2⟩; have HS2 := hide hs2; have HB2 := hide hb2; clear hs2 hb2))
  all_goals
    obtain ⟨q0, q1, q2, q3⟩ := HK.out _ HB4.out
    go_wp2
    have HD4 := hide HB4.out.drew
    have HS5 := hide (HS4.out.keep (Below.refl _ w4).drew)
    go_region_held3 (fun W => W.cell? ⟨w.heap.size, 2, none⟩ = some (.int .i64 k) ∧ W.cell? ⟨w.heap.size, 3, none⟩ = some (.slice b n c)) (first | with_reducible exact (HK.out _ HB7.out).2.2 | with_reducible exact (HK.out _ HB6.out).2.2 | with_reducible exact (HK.out _ HD4.out).2.2 | go_keep) (first
      | (go_at_call 66; refine (rt_on HB6.out a6 n6 c6 _ b n c d HS6.out (HSd.out _ HB6.out) (by have := HN1.out; have := HN2.out; have := HN3.out; have := HN4.out; rw [List.length_append, List.length_append, List.length_append, List.length_append, List.length_nil]; omega) (by omega)).mono ?_; rintro e w7 ⟨a7, n7, c7, rfl, -, ho7, hb7⟩; have HO7 := hide ho7; have HB7 := hide hb7; clear ho7 hb7)
      | (go_at_call 63; refine (rn_on HD4.out a4 n4 c4 _ (zigV k) HS5.out hz (by have := HN1.out; have := HN2.out; have := HN3.out; rw [List.length_append, List.length_append, List.length_append, List.length_nil]; omega)).mono ?_; rintro e w6 ⟨a6, n6, c6, rfl, hs6, -, hb6⟩; have HS6 := hide hs6; have HB6 := hide hb6; clear hs6 hb6)
      | (go_at_call 67; refine (rzig_any k _ hk1 hk2).mono ?_; rintro e w' ⟨rfl, hw⟩; have hw := hw.symm; subst hw))
    all_goals
      go_wp2
      go_ret
      exact ⟨_, rfl, by rw [HE.out]; exact HO7.out.mono HB0.out.size, HB0.out.trans (HB7.out.mono HB0.out.size)⟩

set_option maxHeartbeats 800000 in
theorem xputsnap_any (s : Snp) (ma : Option Addr) (mn mc : Nat) (b : Option Addr) (n c : Nat) (w : World) (h1 : 0 ≤ s.i ∧ s.i ≤ 18446744073709551615) (h2 : 0 ≤ s.t ∧ s.t ≤ 18446744073709551615) (hM : IsNums w ma mn mc s.m) (hI : IsBytes w b n c s.d) (hm : mn < 50) (hl : n ≤ 100000) :
    Calls Try.prog 26 #[.agg #[.int .u64 s.i, .int .u64 s.t, .slice ma mn mc, .slice b n c]] w fun x w' => ∃ r, x = .returned r ∧ OwnB w' w.heap.size r (snapB s) ∧ Below w.heap.size w w' := by
  obtain ⟨i, t, m, d⟩ := s
  dsimp only at *
  have hdl := hI.1
  have HB0 := hide (new_below w (.cells #[.int .u64 i, .int .u64 t, .slice ma mn mc, .slice b n c] 26))
  have HK := hide (fun W => box4_on (w := w) (W := W) (v0 := .int .u64 i) (v1 := .int .u64 t) (v2 := .slice ma mn mc) (v3 := .slice b n c) (ty := 26))
  have HSd := hide (fun (W : World) (hW : Below (w.alloc (.cells #[.int .u64 i, .int .u64 t, .slice ma mn mc, .slice b n c] 26)).heap.size (w.alloc (.cells #[.int .u64 i, .int .u64 t, .slice ma mn mc, .slice b n c] 26)) W) => hI.src.keep (HB0.out.trans (hW.mono HB0.out.size)))
  have HPm := hide (fun (W : World) (hW : Below (w.alloc (.cells #[.int .u64 i, .int .u64 t, .slice ma mn mc, .slice b n c] 26)).heap.size (w.alloc (.cells #[.int .u64 i, .int .u64 t, .slice ma mn mc, .slice b n c] 26)) W) => xputmem_any ma mn mc m W (hM.keep (HB0.out.trans (hW.mono HB0.out.size))) hm)
  have HMl := hide (memB_length hM.2.2.2.1)
  obtain ⟨B, hB⟩ : ∃ B, memB m = B := ⟨_, rfl⟩
  have HE : Hid (snapB ⟨i, t, m, d⟩ = [] ++ numL 3 ++ numL i ++ numL t ++ (numL (B.length : Int) ++ B) ++ (numL (n : Int) ++ d)) := by show _ = _; unfold snapB; dsimp only; rw [hdl, nums3, hB]
  rw [hB] at HMl HPm
  have HN1 := hide (numL_length 3 (by decide) (by decide))
  have HN2 := hide (numL_length i h1.1 h1.2)
  have HN3 := hide (numL_length t h2.1 h2.2)
  have HN4 := hide (numL_length (B.length : Int) (by omega) (by have := HMl.out; omega))
  clear hI hM hB
  go_enter Try.func26, Try.ntmps26
  go_wp2
  have HD0 : Hid (Below (w.alloc (.cells #[.int .u64 i, .int .u64 t, .slice ma mn mc, .slice b n c] 26)).heap.size (w.alloc (.cells #[.int .u64 i, .int .u64 t, .slice ma mn mc, .slice b n c] 26)) (w.alloc (.cells #[.int .u64 i, .int .u64 t, .slice ma mn mc, .slice b n c] 26)).drew) := (Below.refl _ _).drew
  go_region_held3 (fun W => W.cell? ⟨w.heap.size, 0, none⟩ = some (.int .u64 i) ∧ W.cell? ⟨w.heap.size, 1, none⟩ = some (.int .u64 t) ∧ W.cell? ⟨w.heap.size, 2, none⟩ = some (.slice ma mn mc) ∧ W.cell? ⟨w.heap.size, 3, none⟩ = some (.slice b n c)) (first | with_reducible exact HK.out _ HB4.out | with_reducible exact HK.out _ HB3.out | with_reducible exact HK.out _ HB2.out | with_reducible exact HK.out _ HD0.out | go_keep) (first
    | (go_at_call 63; have hchk := HS3.out; clear hchk; refine (rn_on HB3.out a3 n3 c3 _ t HS3.out h2 (by have := HN1.out; have := HN2.out; rw [List.length_append, List.length_append, List.length_nil]; omega)).mono ?_; rintro e w4 ⟨a4, n4, c4, rfl, hs4, -, hb4⟩; have HS4 := hide hs4; have HB4 := hide hb4; clear hs4 hb4)
    | (go_at_call 63; have hchk := HS2.out; clear hchk; refine (rn_on HB2.out a2 n2 c2 _ i HS2.out h1 (by have := HN1.out; rw [List.length_append, List.length_nil]; omega)).mono ?_; rintro e w3 ⟨a3, n3, c3, rfl, hs3, -, hb3⟩; have HS3 := hide hs3; have HB3 := hide hb3; clear hs3 hb3)
    | (go_at_call 63; refine (rn_on HD0.out none 0 0 [] 3 (srcB_none _) (by decide) (by simp)).mono ?_; rintro e w2 ⟨a2, n2, c2, rfl, hs2, -, hb2⟩; have HS2 := hide hs2; have HB2 := hide hb2; clear hs2 hb2))
  all_goals
    obtain ⟨q0, q1, q2, q3⟩ := HK.out _ HB4.out
    go_wp2
    have HD4 := hide HB4.out.drew
    have HS5 := hide (HS4.out.keep (Below.refl _ w4).drew)
    go_region_held3 (fun W => W.cell? ⟨w.heap.size, 2, none⟩ = some (.slice ma mn mc) ∧ W.cell? ⟨w.heap.size, 3, none⟩ = some (.slice b n c)) (first | with_reducible exact (HK.out _ HB8.out).2.2 | with_reducible exact (HK.out _ HB7.out).2.2 | with_reducible exact (HK.out _ HB6.out).2.2 | with_reducible exact (HK.out _ HD4.out).2.2 | go_keep) (first
      | (go_at_call 66; have hchk := HS7.out; clear hchk; refine (rt_on HB7.out a7 n7 c7 _ b n c d HS7.out (HSd.out _ HB7.out) (by have := HN1.out; have := HN2.out; have := HN3.out; have := HN4.out; have := HMl.out; rw [List.length_append, List.length_append, List.length_append, List.length_append, List.length_append, List.length_nil]; omega) (by omega)).mono ?_; rintro e w8 ⟨a8, n8, c8, rfl, -, ho8, hb8⟩; have HO8 := hide ho8; have HB8 := hide hb8; clear ho8 hb8)
      | (go_at_call 66; refine (rt_on HB6.out a4 n4 c4 _ a6 B.length c6 B HS56.out HS6.out (by have := HN1.out; have := HN2.out; have := HN3.out; rw [List.length_append, List.length_append, List.length_append, List.length_nil]; omega) (by have := HMl.out; omega)).mono ?_; rintro e w7 ⟨a7, n7, c7, rfl, hs7, -, hb7⟩; have HS7 := hide hs7; have HB7 := hide hb7; clear hs7 hb7)
      | (go_at_call 28; refine (HPm.out _ HD4.out).mono ?_; rintro e w6 ⟨v6, rfl, ho6, hb6⟩; have HS56 := hide (HS5.out.keep hb6); have HB6 := hide (HD4.out.trans (hb6.mono HD4.out.size)); obtain ⟨a6, c6, rfl, hs6, -⟩ := ho6.src; have HS6 := hide hs6; clear hs6 ho6 hb6))
    all_goals
      go_wp2
      go_ret
      exact ⟨_, rfl, by rw [HE.out]; exact HO8.out.mono HB0.out.size, HB0.out.trans (HB8.out.mono HB0.out.size)⟩

end Go.Proofs.Ytjeijeaogdednaa
