/- Records as bytes: the program's PutEntry, PutSnap. -/
import Derived.Test.YtjeijeaogdednaaPm6
namespace Go.Proofs.Ytjeijeaogdednaa
open Go.RowKit NumMath
set_option linter.unusedVariables false
set_option maxRecDepth 100000

/-- a writer at work: what is to be written in the box at w.heap.size, the writer in the next block -/
structure PW (w : World) (v0 v1 v2 v3 : Value) (bs : List Int) (W : World) : Prop where
  wr : IsW W (w.heap.size + 1) (w.heap.size + 1) bs
  bl : Below w.heap.size w W
  bx : Box4 W w.heap.size v0 v1 v2 v3

theorem PW.lt {w : World} {v0 v1 v2 v3 : Value} {bs : List Int} {W : World} (h : PW w v0 v1 v2 v3 bs W) : w.heap.size + 1 < W.heap.size := h.wr.at

theorem PW.post {w : World} {v0 v1 v2 v3 : Value} {bs bs' : List Int} {W W' : World} (h : PW w v0 v1 v2 v3 bs W) (k : WPost W (w.heap.size + 1) (w.heap.size + 1) bs' W') : PW w v0 v1 v2 v3 bs' W' := by
  have hlt := h.lt
  have hb := k.below h.wr (by omega)
  exact ⟨k.1, h.bl.trans (hb.mono (by omega)), h.bx.keep hb (by omega)⟩

theorem PW.keep {w : World} {v0 v1 v2 v3 : Value} {bs : List Int} {W W' : World} (h : PW w v0 v1 v2 v3 bs W) (k : Below W.heap.size W W') : PW w v0 v1 v2 v3 bs W' := by
  have hlt := h.lt
  exact ⟨h.wr.keep k, h.bl.trans (k.mono (by omega)), h.bx.keep k (by omega)⟩

theorem pw_new (w : World) (v0 v1 v2 v3 : Value) (ty : TypeId) : PW w v0 v1 v2 v3 [] ((w.alloc (.cells #[v0, v1, v2, v3] ty)).alloc (.cells #[.slice none 0 0] 100)) := by
  have b1 := new_below w (.cells #[v0, v1, v2, v3] ty)
  have b2 := new_below (w.alloc (.cells #[v0, v1, v2, v3] ty)) (.cells #[.slice none 0 0] 100)
  exact ⟨isW_new _ _ _ (by simp) (Nat.le_refl _), b1.trans (b2.mono b1.size), (box4_new w v0 v1 v2 v3 ty _ rfl).keep b2 (by simp)⟩

/-- three numbers -/
theorem PW.num3 {w : World} {v0 v1 v2 v3 : Value} {bs : List Int} {W : World} (h : PW w v0 v1 v2 v3 bs W) (x y z : Int) (hr : ∀ n ∈ [x, y, z], 0 ≤ n ∧ n ≤ 18446744073709551615) (hn : bs.length ≤ 100000000) (g : Nat) (hg : W.heap.size = g) :
    Calls Try.prog 61 #[.pointer (some ⟨w.heap.size + 1, 0, none⟩), .slice (some ⟨g, 0, none⟩) 3 3] (W.alloc (.cells #[.int .u64 x, .int .u64 y, .int .u64 z] 22)) fun e w' => e = .returned (.tuple #[]) ∧ PW w v0 v1 v2 v3 (bs ++ numsL [x, y, z]) w' := by
  have hk := h.keep (new_below W (.cells #[.int .u64 x, .int .u64 y, .int .u64 z] 22))
  refine (wNs_any (w.heap.size + 1) (w.heap.size + 1) bs (some ⟨g, 0, none⟩) 3 3 [x, y, z] _ hk.wr (src3 _ x y z _ hg) (.inr (fun a ha => by cases ha; exact h.wr.off (new_below _ _) (.inl (by show W.heap.size ≤ g; omega)))) hr (by omega) hn (by have := hk.lt; omega)).mono ?_
  rintro e w' ⟨rfl, hp⟩
  exact ⟨rfl, hk.post hp⟩

theorem PW.int {w : World} {v0 v1 v2 v3 : Value} {bs : List Int} {W : World} (h : PW w v0 v1 v2 v3 bs W) (n : Int) (h1 : -9223372036854775808 ≤ n) (h2 : n ≤ 9223372036854775807) (hn : bs.length ≤ 100000000) :
    Calls Try.prog 64 #[.pointer (some ⟨w.heap.size + 1, 0, none⟩), .int .i64 n] W fun e w' => e = .returned (.tuple #[]) ∧ PW w v0 v1 v2 v3 (bs ++ numL (zigV n)) w' := by
  refine (wI_any (w.heap.size + 1) (w.heap.size + 1) bs n W h.wr h1 h2 (by omega) (by have := h.lt; omega)).mono ?_
  rintro e w' ⟨rfl, hp⟩
  exact ⟨rfl, h.post hp⟩

/-- a text that lies ahead of the writer, or behind all of it -/
theorem PW.text {w : World} {v0 v1 v2 v3 : Value} {bs : List Int} {W W' : World} (h : PW w v0 v1 v2 v3 bs W) (hb : Below W.heap.size W W') (a : Option Addr) (len cap : Nat) (xs : List Int) (hs : SrcB W' a len xs) (ho : len = 0 ∨ ∀ y, a = some y → W.heap.size ≤ y.block ∨ y.block < w.heap.size + 1) (hl : len ≤ 1000000) (hn : bs.length ≤ 100000000) :
    Calls Try.prog 65 #[.pointer (some ⟨w.heap.size + 1, 0, none⟩), .slice a len cap] W' fun e w' => e = .returned (.tuple #[]) ∧ PW w v0 v1 v2 v3 (bs ++ (numL (len : Int) ++ xs)) w' := by
  have hk := h.keep hb
  refine (wText_any (w.heap.size + 1) (w.heap.size + 1) bs a len cap xs W' hk.wr hs (ho.elim .inr (fun q => .inl (fun x hx => h.wr.off hb (q x hx)))) (by omega) hn (by have := hk.lt; omega)).mono ?_
  rintro e w' ⟨rfl, hp⟩
  exact ⟨rfl, hk.post hp⟩

theorem src_old {w : World} {a : Option Addr} {n : Nat} {xs : List Int} (h : SrcB w a n xs) (N : Nat) : n = 0 ∨ ∀ y, a = some y → N ≤ y.block ∨ y.block < w.heap.size + 1 := by
  rcases h.2 with h0 | ⟨g, off, e, hg, _⟩
  · exact .inl h0
  · exact .inr (fun y hy => by rw [e] at hy; cases hy; exact .inr (by show g < _; omega))

theorem entB_length (e : Ent) (hk : e.ok) (hd : e.d.length ≤ 1000000) : (entB e).length ≤ 50 + e.d.length := by
  unfold entB
  obtain ⟨z1, z2⟩ := zigV_range e.k hk.2.2.1 hk.2.2.2
  have h1 := numsL_length [2, e.i, e.t] (rng3 ⟨by decide, by decide⟩ hk.1 hk.2.1)
  have h2 := numL_length (zigV e.k) z1 z2
  rw [List.length_append, List.length_append, List.length_append]
  have h3 := numL_length (e.d.length : Int) (by omega) (by omega)
  simp at h1
  omega

theorem snapB_length (s : Snp) (hi : 0 ≤ s.i ∧ s.i ≤ 18446744073709551615) (ht : 0 ≤ s.t ∧ s.t ≤ 18446744073709551615) (hm : ∀ x ∈ s.m, 0 ≤ x ∧ x ≤ 18446744073709551615) (hd : s.d.length ≤ 1000000) : (snapB s).length ≤ 150 + s.d.length := by
  unfold snapB
  have h1 := numsL_length [3, s.i, s.t] (rng3 ⟨by decide, by decide⟩ hi ht)
  have h2 := memB_length hm
  have h3 := numL_length ((memB s.m).length : Int) (by omega) (by omega)
  have h4 := numL_length (s.d.length : Int) (by omega) (by omega)
  rw [List.length_append, List.length_append, List.length_append, List.length_append]
  simp at h1
  omega

set_option maxHeartbeats 400000 in
theorem putent_any (e : Ent) (b : Option Addr) (n c : Nat) (w : World) (hok : e.ok) (hI : IsBytes w b n c e.d) (hl : n ≤ 100000) :
    Calls Try.prog 23 #[.agg #[.int .u64 e.i, .int .u64 e.t, .int .i64 e.k, .slice b n c]] w fun x w' => ∃ r, x = .returned r ∧ OwnB w' w.heap.size r (entB e) ∧ Below w.heap.size w w' := by
  obtain ⟨i, t, k, d⟩ := e
  dsimp only at *
  have hdl := hI.1
  have HLn := hide (entB_length ⟨i, t, k, d⟩ hok (by dsimp only; omega))
  have HP0 := hide (pw_new w (.int .u64 i) (.int .u64 t) (.int .i64 k) (.slice b n c) 50)
  have HSo := hide hI.src
  have HR3 := hide (rng3 (c := 2) ⟨by decide, by decide⟩ hok.1 hok.2.1)
  have HR3l := hide (numsL_length [2, i, t] HR3.out)
  obtain ⟨-, -, hk1, hk2⟩ := hok
  dsimp only at hk1 hk2
  obtain ⟨z1, z2⟩ := zigV_range k hk1 hk2
  have HZl := hide (numL_length (zigV k) z1 z2)
  have HEb : Hid (entB ⟨i, t, k, d⟩ = [] ++ numsL [2, i, t] ++ numL (zigV k) ++ (numL (n : Int) ++ d)) := by show _ = _; unfold entB; dsimp only; rw [hdl]; rfl
  have hl1 : ([] ++ numsL [2, i, t] : List Int).length ≤ 30 := by have := HR3l.out; simp at this ⊢; omega
  have hl2 : ([] ++ numsL [2, i, t] ++ numL (zigV k) : List Int).length ≤ 40 := by have := HZl.out; rw [List.length_append]; omega
  obtain ⟨b1, hb1⟩ : ∃ b1, ([] ++ numsL [2, i, t] : List Int) = b1 := ⟨_, rfl⟩
  rw [hb1] at hl1 hl2 HEb
  obtain ⟨b2, hb2⟩ : ∃ b2, b1 ++ numL (zigV k) = b2 := ⟨_, rfl⟩
  rw [hb2] at hl2 HEb
  have Hb1 := hide hb1
  have Hb2 := hide hb2
  have HN := hide (HP0.out.num3 2 i t HR3.out (by simp) (w.heap.size + 2) (by simp))
  rw [hb1] at HN
  have HI2 := hide (fun (W : World) (hW : PW w (.int .u64 i) (.int .u64 t) (.int .i64 k) (.slice b n c) b1 W) => hW.int k hk1 hk2 (by omega))
  rw [hb2] at HI2
  have HT := hide (fun (W : World) (hW : PW w (.int .u64 i) (.int .u64 t) (.int .i64 k) (.slice b n c) b2 W) => hW.text (Below.refl _ W) b n c d (HSo.out.keep hW.bl) (src_old HSo.out _) (by omega) (by omega))
  rw [← HEb.out] at HT
  clear hI hb1 hb2
  go_enter Try.func23, Try.ntmps23
  go_wp2_with (first
    | (go_at_call 62; go_must (refine (wBytes_any (w.heap.size + 1) (w.heap.size + 1) _ _ HW4.out.wr (by have := HLn.out; omega)).mono ?_); rintro e w7 ⟨r, rfl, hO7, hb7⟩; have HO7 := hide (hO7.mono HW4.out.bl.size); have HB7 := hide (HW4.out.bl.trans (hb7.mono HW4.out.bl.size)); clear hO7 hb7)
    | (go_at_call 65; go_must (refine (HT.out _ (by exact HW3.out)).mono ?_); rintro e w4 ⟨rfl, hp4⟩; have HW4 := hide hp4; clear hp4)
    | (go_at_call 64; go_must (refine (HI2.out _ (by exact HW2.out)).mono ?_); rintro e w3 ⟨rfl, hp3⟩; have HW3 := hide hp3; obtain ⟨-, -, -, y3, -⟩ := hp3.bx; clear hp3)
    | (go_at_call 61; go_must (refine HN.out.mono ?_); rintro e w2 ⟨rfl, hp2⟩; have HW2 := hide hp2; obtain ⟨-, -, y2, -⟩ := hp2.bx; clear hp2))
  go_ret
  exact ⟨r, rfl, HO7.out, HB7.out⟩

set_option maxHeartbeats 400000 in
theorem putsnap_any (s : Snp) (ma : Option Addr) (mn mc : Nat) (b : Option Addr) (n c : Nat) (w : World) (hi : 0 ≤ s.i ∧ s.i ≤ 18446744073709551615) (ht : 0 ≤ s.t ∧ s.t ≤ 18446744073709551615) (hM : IsNums w ma mn mc s.m) (hI : IsBytes w b n c s.d) (hm : mn < 50) (hl : n ≤ 100000) :
    Calls Try.prog 25 #[.agg #[.int .u64 s.i, .int .u64 s.t, .slice ma mn mc, .slice b n c]] w fun x w' => ∃ r, x = .returned r ∧ OwnB w' w.heap.size r (snapB s) ∧ Below w.heap.size w w' := by
  obtain ⟨i, t, m, d⟩ := s
  dsimp only at *
  have hdl := hI.1
  have HLn := hide (snapB_length ⟨i, t, m, d⟩ hi ht hM.2.2.2.1 (by dsimp only; omega))
  have HP0 := hide (pw_new w (.int .u64 i) (.int .u64 t) (.slice ma mn mc) (.slice b n c) 26)
  have HSo := hide hI.src
  have HR3 := hide (rng3 (c := 3) ⟨by decide, by decide⟩ hi ht)
  have HR3l := hide (numsL_length [3, i, t] HR3.out)
  have HMl := hide (memB_length hM.2.2.2.1)
  obtain ⟨B, hB⟩ : ∃ B, memB m = B := ⟨_, rfl⟩
  obtain ⟨L, hL⟩ : ∃ L, B.length = L := ⟨_, rfl⟩
  rw [hB, hL] at HMl
  have HLl := hide (numL_length (L : Int) (by omega) (by have := HMl.out; omega))
  have HEb : Hid (snapB ⟨i, t, m, d⟩ = [] ++ numsL [3, i, t] ++ (numL (L : Int) ++ B) ++ (numL (n : Int) ++ d)) := by show _ = _; unfold snapB; dsimp only; rw [hdl, hB, hL]; rfl
  have hl1 : ([] ++ numsL [3, i, t] : List Int).length ≤ 30 := by have := HR3l.out; simp at this ⊢; omega
  have hl2 : ([] ++ numsL [3, i, t] ++ (numL (L : Int) ++ B) : List Int).length ≤ 140 := by have := HLl.out; have := HMl.out; rw [List.length_append, List.length_append, List.length_append, hL]; simp at hl1 ⊢; omega
  obtain ⟨b1, hb1⟩ : ∃ b1, ([] ++ numsL [3, i, t] : List Int) = b1 := ⟨_, rfl⟩
  rw [hb1] at hl1 hl2 HEb
  obtain ⟨b2, hb2⟩ : ∃ b2, b1 ++ (numL (L : Int) ++ B) = b2 := ⟨_, rfl⟩
  rw [hb2] at hl2 HEb
  have HN := hide (HP0.out.num3 3 i t HR3.out (by simp) (w.heap.size + 2) (by simp))
  rw [hb1] at HN
  have HPm := hide (fun (W : World) (hW : Below w.heap.size w W) => putmem_any ma mn mc m W (hM.keep hW) hm)
  rw [hB] at HPm
  have HT1 := hide (fun (W W' : World) (hW : PW w (.int .u64 i) (.int .u64 t) (.slice ma mn mc) (.slice b n c) b1 W) (hb : Below W.heap.size W W') (a : Option Addr) (cc : Nat) (hs : SrcB W' a L B) (ho : L = 0 ∨ ∀ y, a = some y → W.heap.size ≤ y.block ∨ y.block < w.heap.size + 1) => hW.text hb a L cc B hs ho (by have := HMl.out; omega) (by omega))
  rw [hb2] at HT1
  have HT := hide (fun (W : World) (hW : PW w (.int .u64 i) (.int .u64 t) (.slice ma mn mc) (.slice b n c) b2 W) => hW.text (Below.refl _ W) b n c d (HSo.out.keep hW.bl) (src_old HSo.out _) (by omega) (by omega))
  rw [← HEb.out] at HT
  have HLB := hide hL
  clear hI hb1 hb2 hM hB hL
  go_enter Try.func25, Try.ntmps25
  go_wp2_with (first
    | (go_at_call 62; go_must (refine (wBytes_any (w.heap.size + 1) (w.heap.size + 1) _ _ HW5.out.wr (by have := HLn.out; omega)).mono ?_); rintro e w7 ⟨r, rfl, hO7, hb7⟩; have HO7 := hide (hO7.mono HW5.out.bl.size); have HB7 := hide (HW5.out.bl.trans (hb7.mono HW5.out.bl.size)); clear hO7 hb7)
    | (go_at_call 65; have hchk := HW4.out; clear hchk; go_must (refine (HT.out _ (by exact HW4.out)).mono ?_); rintro e w5 ⟨rfl, hp5⟩; have HW5 := hide hp5; clear hp5)
    | (go_at_call 65; go_must (refine (HT1.out w2 _ HW2.out HB3.out a3 c3 HS3.out HF3.out).mono ?_); rintro e w4 ⟨rfl, hp4⟩; have HW4 := hide hp4; obtain ⟨-, -, -, y3, -⟩ := hp4.bx; clear hp4)
    | (go_at_call 27; go_must (refine (HPm.out _ (by exact HW2.out.bl)).mono ?_); rintro e w3 ⟨v3, rfl, hO3, hb3⟩; have HB3 := hide hb3; obtain ⟨a3, c3, rfl, hs3, -⟩ := hO3.src; have hlt3 := hO3.lt; rw [HLB.out] at hs3 hlt3; have HS3 := hide hs3; have HF3 : Hid (L = 0 ∨ ∀ y, a3 = some y → w2.heap.size ≤ y.block ∨ y.block < w.heap.size + 1) := (by rcases hs3.2 with h0 | ⟨g, off, e, hg, _⟩; (exact .inl h0); exact .inr (fun y hy => .inl (by rw [e] at hy; cases hy; subst e; exact (hlt3 g rfl).1))); (have hLrw := HLB.out; (try rw [hLrw])); clear hO3 hb3 hs3 hlt3 hLrw)
    | (go_at_call 61; go_must (refine HN.out.mono ?_); rintro e w2 ⟨rfl, hp2⟩; have HW2 := hide hp2; obtain ⟨-, -, y2, -⟩ := hp2.bx; clear hp2))
  go_ret
  exact ⟨r, rfl, HO7.out, HB7.out⟩

end Go.Proofs.Ytjeijeaogdednaa
