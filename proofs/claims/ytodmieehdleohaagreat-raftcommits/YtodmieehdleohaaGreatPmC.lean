/- Records as bytes: the program's PutHard, PutEntry, PutSnap. Records as bytes: the program's PutEntry, PutSnap. Records as bytes: the document's PutHard, PutEntry, PutSnap. -/
import Derived.Test.YtodmieehdleohaaGreatPmB
import Derived.Test.YtodmieehdleohaaGreatRpA
import Derived.Deep.RegionHeld3
namespace Go.Proofs.YtodmieehdleohaaGreat
open Go.RowKit NumMath
set_option linter.unusedVariables false
set_option maxRecDepth 100000

def hardB (t v : Int) : List Int := numsL [1, t, v]
def entB (e : Ent) : List Int := numsL [2, e.i, e.t] ++ numL (zigV e.k) ++ (numL (e.d.length : Int) ++ e.d)
def snapB (s : Snp) : List Int := numsL [3, s.i, s.t] ++ (numL ((memB s.m).length : Int) ++ memB s.m) ++ (numL (s.d.length : Int) ++ s.d)

theorem IsW.off {W W' : World} {base p g : Nat} {bs : List Int} (h : IsW W base p bs) (hb : Below W.heap.size W W') (hg : W.heap.size ≤ g ∨ g < base) : ¬ WB W' p g := fun hw => by
  have := h.lt (h.same hb hw)
  omega

theorem src3 (w : World) (x y z : Int) (g : Nat) (hg : w.heap.size = g) : SrcU (w.alloc (.cells #[.int .u64 x, .int .u64 y, .int .u64 z] 22)) (some ⟨g, 0, none⟩) 3 [x, y, z] := by
  subst hg
  refine ⟨rfl, .inr ⟨w.heap.size, 0, rfl, by simp, fun i hi => ?_⟩⟩
  match i, hi with
  | 0, _ => simp
  | 1, _ => simp
  | 2, _ => simp

theorem rng3 {c x y : Int} (h0 : 0 ≤ c ∧ c ≤ 18446744073709551615) (h1 : 0 ≤ x ∧ x ≤ 18446744073709551615) (h2 : 0 ≤ y ∧ y ≤ 18446744073709551615) : ∀ z ∈ [c, x, y], 0 ≤ z ∧ z ≤ 18446744073709551615 := fun z hz => by
  simp only [List.mem_cons, List.not_mem_nil, or_false] at hz
  rcases hz with rfl | rfl | rfl <;> assumption

set_option maxHeartbeats 400000 in
theorem puthard_any (t v : Int) (w : World) (h1 : 0 ≤ t ∧ t ≤ 18446744073709551615) (h2 : 0 ≤ v ∧ v ≤ 18446744073709551615) :
    Calls Tryz.prog 77 #[.agg #[.int .u64 t, .int .u64 v]] w fun e w' => ∃ r, e = .returned r ∧ OwnB w' w.heap.size r (hardB t v) ∧ Below w.heap.size w w' := by
  have HB0 := hide (new_below w (.cells #[.int .u64 t, .int .u64 v] 24))
  have HRg := hide (rng3 (c := 1) ⟨by decide, by decide⟩ h1 h2)
  have HLn := hide (numsL_length [1, t, v] HRg.out)
  obtain ⟨W0, hW0⟩ : ∃ W0, w.alloc (.cells #[.int .u64 t, .int .u64 v] 24) = W0 := ⟨_, rfl⟩
  have hs0 : W0.heap.size = w.heap.size + 1 := by rw [← hW0]; simp
  have HIw : Hid (IsW (W0.alloc (.cells #[.slice none 0 0] 134)) (w.heap.size + 1) (w.heap.size + 1) []) := isW_new W0 (w.heap.size + 1) (w.heap.size + 1) hs0 (Nat.le_refl _)
  have HB1 := hide (new_below W0 (.cells #[.slice none 0 0] 134))
  rw [hW0] at HB0
  have HW0 := hide hW0
  have HZ1 : Hid ((W0.alloc (.cells #[.slice none 0 0] 134)).heap.size = w.heap.size + 2) := by show _ = _; simp [hs0]
  have HC : Hid (Calls Tryz.prog 122 #[.pointer (some ⟨w.heap.size + 1, 0, none⟩), .slice (some ⟨w.heap.size + 2, 0, none⟩) 3 3] ((W0.alloc (.cells #[.slice none 0 0] 134)).alloc (.cells #[.int .u64 1, .int .u64 t, .int .u64 v] 22)) _) :=
    wNs_any (w.heap.size + 1) (w.heap.size + 1) [] (some ⟨w.heap.size + 2, 0, none⟩) 3 3 [1, t, v] _ (HIw.out.keep (new_below _ _)) (src3 _ 1 t v _ HZ1.out) (.inr (fun x hx => by cases hx; exact HIw.out.off (new_below _ _) (.inl (by rw [HZ1.out]; exact Nat.le_refl _)))) HRg.out (by omega) (by simp) (by simp; omega)
  rw [← HW0.out] at HC
  clear hW0 hs0
  go_enter Tryz.func77, Tryz.ntmps77
  go_wp2_with (first
    | (go_at_call 123; go_must (refine (wBytes_any (w.heap.size + 1) (w.heap.size + 1) _ _ HW5.out.1 (by have := HLn.out; simp at this ⊢; omega)).mono ?_); rintro e w7 ⟨r, rfl, hO7, hb7⟩; have HO7 := hide hO7; have HB7 := hide hb7; clear hO7 hb7)
    | (go_at_call 122; go_must (refine HC.out.mono ?_); rintro e w5 ⟨rfl, hp5⟩; rw [HW0.out] at hp5; have HW5 := hide (WPost.ahead HIw.out (new_below _ _) hp5); clear hp5))
  go_ret
  have hb5 := HW5.out.below HIw.out (by rw [HZ1.out]; omega)
  have hb15 : Below w.heap.size w w5 := (HB0.out.trans (HB1.out.mono HB0.out.size)).trans (hb5.mono (by omega))
  exact ⟨r, rfl, HO7.out.mono hb15.size, hb15.trans (HB7.out.mono hb15.size)⟩

end Go.Proofs.YtodmieehdleohaaGreat

namespace Go.Proofs.YtodmieehdleohaaGreat
open Go.RowKit NumMath
set_option linter.unusedVariables false
set_option maxRecDepth 100000

/-- a writer at work: what is to be written in the box at w.heap.size, the writer in the next block -/
structure PW (w : World) (v0 v1 v2 v3 : Value) (bs : List Int) (W : World) : Prop where
  wr : IsW W (w.heap.size + 1) (w.heap.size + 1) bs
  bl : Below w.heap.size w W
  bx : Box4 W w.heap.size v0 v1 v2 v3

theorem PW.lt {w : World} {v0 v1 v2 v3 : Value} {bs : List Int} {W : World} (h : PW w v0 v1 v2 v3 bs W) : w.heap.size + 1 < W.heap.size := h.wr.at

theorem PW.post {w : World} {v0 v1 v2 v3 : Value} {bs bs' : List Int} {W W' : World} (h : PW w v0 v1 v2 v3 bs W) (k : WPost W (w.heap.size + 1) (w.heap.size + 1) bs' W') : PW w v0 v1 v2 v3 bs' W' := by
  have hlt := h.lt
  have hb := k.below h.wr (by omega)
  exact ⟨k.1, h.bl.trans (hb.mono (by omega)), h.bx.keep hb (by omega)⟩

theorem PW.keep {w : World} {v0 v1 v2 v3 : Value} {bs : List Int} {W W' : World} (h : PW w v0 v1 v2 v3 bs W) (k : Below W.heap.size W W') : PW w v0 v1 v2 v3 bs W' := by
  have hlt := h.lt
  exact ⟨h.wr.keep k, h.bl.trans (k.mono (by omega)), h.bx.keep k (by omega)⟩

theorem pw_new (w : World) (v0 v1 v2 v3 : Value) (ty : TypeId) : PW w v0 v1 v2 v3 [] ((w.alloc (.cells #[v0, v1, v2, v3] ty)).alloc (.cells #[.slice none 0 0] 134)) := by
  have b1 := new_below w (.cells #[v0, v1, v2, v3] ty)
  have b2 := new_below (w.alloc (.cells #[v0, v1, v2, v3] ty)) (.cells #[.slice none 0 0] 134)
  exact ⟨isW_new _ _ _ (by simp) (Nat.le_refl _), b1.trans (b2.mono b1.size), (box4_new w v0 v1 v2 v3 ty _ rfl).keep b2 (by simp)⟩

/-- three numbers -/
theorem PW.num3 {w : World} {v0 v1 v2 v3 : Value} {bs : List Int} {W : World} (h : PW w v0 v1 v2 v3 bs W) (x y z : Int) (hr : ∀ n ∈ [x, y, z], 0 ≤ n ∧ n ≤ 18446744073709551615) (hn : bs.length ≤ 100000000) (g : Nat) (hg : W.heap.size = g) :
    Calls Tryz.prog 122 #[.pointer (some ⟨w.heap.size + 1, 0, none⟩), .slice (some ⟨g, 0, none⟩) 3 3] (W.alloc (.cells #[.int .u64 x, .int .u64 y, .int .u64 z] 22)) fun e w' => e = .returned (.tuple #[]) ∧ PW w v0 v1 v2 v3 (bs ++ numsL [x, y, z]) w' := by
  have hk := h.keep (new_below W (.cells #[.int .u64 x, .int .u64 y, .int .u64 z] 22))
  refine (wNs_any (w.heap.size + 1) (w.heap.size + 1) bs (some ⟨g, 0, none⟩) 3 3 [x, y, z] _ hk.wr (src3 _ x y z _ hg) (.inr (fun a ha => by cases ha; exact h.wr.off (new_below _ _) (.inl (by show W.heap.size ≤ g; omega)))) hr (by omega) hn (by have := hk.lt; omega)).mono ?_
  rintro e w' ⟨rfl, hp⟩
  exact ⟨rfl, hk.post hp⟩

theorem PW.int {w : World} {v0 v1 v2 v3 : Value} {bs : List Int} {W : World} (h : PW w v0 v1 v2 v3 bs W) (n : Int) (h1 : -9223372036854775808 ≤ n) (h2 : n ≤ 9223372036854775807) (hn : bs.length ≤ 100000000) :
    Calls Tryz.prog 150 #[.pointer (some ⟨w.heap.size + 1, 0, none⟩), .int .i64 n] W fun e w' => e = .returned (.tuple #[]) ∧ PW w v0 v1 v2 v3 (bs ++ numL (zigV n)) w' := by
  refine (wI_any (w.heap.size + 1) (w.heap.size + 1) bs n W h.wr h1 h2 (by omega) (by have := h.lt; omega)).mono ?_
  rintro e w' ⟨rfl, hp⟩
  exact ⟨rfl, h.post hp⟩

/-- a text that lies ahead of the writer, or behind all of it -/
theorem PW.text {w : World} {v0 v1 v2 v3 : Value} {bs : List Int} {W W' : World} (h : PW w v0 v1 v2 v3 bs W) (hb : Below W.heap.size W W') (a : Option Addr) (len cap : Nat) (xs : List Int) (hs : SrcB W' a len xs) (ho : len = 0 ∨ ∀ y, a = some y → W.heap.size ≤ y.block ∨ y.block < w.heap.size + 1) (hl : len ≤ 1000000) (hn : bs.length ≤ 100000000) :
    Calls Tryz.prog 125 #[.pointer (some ⟨w.heap.size + 1, 0, none⟩), .slice a len cap] W' fun e w' => e = .returned (.tuple #[]) ∧ PW w v0 v1 v2 v3 (bs ++ (numL (len : Int) ++ xs)) w' := by
  have hk := h.keep hb
  refine (wText_any (w.heap.size + 1) (w.heap.size + 1) bs a len cap xs W' hk.wr hs (ho.elim .inr (fun q => .inl (fun x hx => h.wr.off hb (q x hx)))) (by omega) hn (by have := hk.lt; omega)).mono ?_
  rintro e w' ⟨rfl, hp⟩
  exact ⟨rfl, hk.post hp⟩

theorem src_old {w : World} {a : Option Addr} {n : Nat} {xs : List Int} (h : SrcB w a n xs) (N : Nat) : n = 0 ∨ ∀ y, a = some y → N ≤ y.block ∨ y.block < w.heap.size + 1 := by
  rcases h.2 with h0 | ⟨g, off, e, hg, _⟩
  · exact .inl h0
  · exact .inr (fun y hy => by rw [e] at hy; cases hy; exact .inr (by show g < _; omega))

theorem entB_length (e : Ent) (hk : e.ok) (hd : e.d.length ≤ 1000000) : (entB e).length ≤ 50 + e.d.length := by
  unfold entB
  obtain ⟨z1, z2⟩ := zigV_range e.k hk.2.2.1 hk.2.2.2
  have h1 := numsL_length [2, e.i, e.t] (rng3 ⟨by decide, by decide⟩ hk.1 hk.2.1)
  have h2 := numL_length (zigV e.k) z1 z2
  rw [List.length_append, List.length_append, List.length_append]
  have h3 := numL_length (e.d.length : Int) (by omega) (by omega)
  simp at h1
  omega

theorem snapB_length (s : Snp) (hi : 0 ≤ s.i ∧ s.i ≤ 18446744073709551615) (ht : 0 ≤ s.t ∧ s.t ≤ 18446744073709551615) (hm : ∀ x ∈ s.m, 0 ≤ x ∧ x ≤ 18446744073709551615) (hd : s.d.length ≤ 1000000) : (snapB s).length ≤ 150 + s.d.length := by
  unfold snapB
  have h1 := numsL_length [3, s.i, s.t] (rng3 ⟨by decide, by decide⟩ hi ht)
  have h2 := memB_length hm
  have h3 := numL_length ((memB s.m).length : Int) (by omega) (by omega)
  have h4 := numL_length (s.d.length : Int) (by omega) (by omega)
  rw [List.length_append, List.length_append, List.length_append, List.length_append]
  simp at h1
  omega

set_option maxHeartbeats 400000 in
theorem putent_any (e : Ent) (b : Option Addr) (n c : Nat) (w : World) (hok : e.ok) (hI : IsBytes w b n c e.d) (hl : n ≤ 100000) :
    Calls Tryz.prog 126 #[.agg #[.int .u64 e.i, .int .u64 e.t, .int .i64 e.k, .slice b n c]] w fun x w' => ∃ r, x = .returned r ∧ OwnB w' w.heap.size r (entB e) ∧ Below w.heap.size w w' := by
  obtain ⟨i, t, k, d⟩ := e
  dsimp only at *
  have hdl := hI.1
  have HLn := hide (entB_length ⟨i, t, k, d⟩ hok (by dsimp only; omega))
  have HP0 := hide (pw_new w (.int .u64 i) (.int .u64 t) (.int .i64 k) (.slice b n c) 76)
  have HSo := hide hI.src
  have HR3 := hide (rng3 (c := 2) ⟨by decide, by decide⟩ hok.1 hok.2.1)
  have HR3l := hide (numsL_length [2, i, t] HR3.out)
  obtain ⟨-, -, hk1, hk2⟩ := hok
  dsimp only at hk1 hk2
  obtain ⟨z1, z2⟩ := zigV_range k hk1 hk2
  have HZl := hide (numL_length (zigV k) z1 z2)
  have HEb : Hid (entB ⟨i, t, k, d⟩ = [] ++ numsL [2, i, t] ++ numL (zigV k) ++ (numL (n : Int) ++ d)) := by show _ = _; unfold entB; dsimp only; rw [hdl]; rfl
  have hl1 : ([] ++ numsL [2, i, t] : List Int).length ≤ 30 := by have := HR3l.out; simp at this ⊢; omega
  have hl2 : ([] ++ numsL [2, i, t] ++ numL (zigV k) : List Int).length ≤ 40 := by have := HZl.out; rw [List.length_append]; omega
  obtain ⟨b1, hb1⟩ : ∃ b1, ([] ++ numsL [2, i, t] : List Int) = b1 := ⟨_, rfl⟩
  rw [hb1] at hl1 hl2 HEb
  obtain ⟨b2, hb2⟩ : ∃ b2, b1 ++ numL (zigV k) = b2 := ⟨_, rfl⟩
  rw [hb2] at hl2 HEb
  have Hb1 := hide hb1
  have Hb2 := hide hb2
  have HN := hide (HP0.out.num3 2 i t HR3.out (by simp) (w.heap.size + 2) (by simp))
  rw [hb1] at HN
  have HI2 := hide (fun (W : World) (hW : PW w (.int .u64 i) (.int .u64 t) (.int .i64 k) (.slice b n c) b1 W) => hW.int k hk1 hk2 (by omega))
  rw [hb2] at HI2
  have HT := hide (fun (W : World) (hW : PW w (.int .u64 i) (.int .u64 t) (.int .i64 k) (.slice b n c) b2 W) => hW.text (Below.refl _ W) b n c d (HSo.out.keep hW.bl) (src_old HSo.out _) (by omega) (by omega))
  rw [← HEb.out] at HT
  clear hI hb1 hb2
  go_enter Tryz.func126, Tryz.ntmps126
  go_wp2_with (first
    | (go_at_call 123; go_must (refine (wBytes_any (w.heap.size + 1) (w.heap.size + 1) _ _ HW4.out.wr (by have := HLn.out; omega)).mono ?_); rintro e w7 ⟨r, rfl, hO7, hb7⟩; have HO7 := hide (hO7.mono HW4.out.bl.size); have HB7 := hide (HW4.out.bl.trans (hb7.mono HW4.out.bl.size)); clear hO7 hb7)
    | (go_at_call 125; go_must (refine (HT.out _ (by exact HW3.out)).mono ?_); rintro e w4 ⟨rfl, hp4⟩; have HW4 := hide hp4; clear hp4)
    | (go_at_call 150; go_must (refine (HI2.out _ (by exact HW2.out)).mono ?_); rintro e w3 ⟨rfl, hp3⟩; have HW3 := hide hp3; obtain ⟨-, -, -, y3, -⟩ := hp3.bx; clear hp3)
    | (go_at_call 122; go_must (refine HN.out.mono ?_); rintro e w2 ⟨rfl, hp2⟩; have HW2 := hide hp2; obtain ⟨-, -, y2, -⟩ := hp2.bx; clear hp2))
  go_ret
  exact ⟨r, rfl, HO7.out, HB7.out⟩

set_option maxHeartbeats 400000 in
theorem putsnap_any (s : Snp) (ma : Option Addr) (mn mc : Nat) (b : Option Addr) (n c : Nat) (w : World) (hi : 0 ≤ s.i ∧ s.i ≤ 18446744073709551615) (ht : 0 ≤ s.t ∧ s.t ≤ 18446744073709551615) (hM : IsNums w ma mn mc s.m) (hI : IsBytes w b n c s.d) (hm : mn < 50) (hl : n ≤ 100000) :
    Calls Tryz.prog 76 #[.agg #[.int .u64 s.i, .int .u64 s.t, .slice ma mn mc, .slice b n c]] w fun x w' => ∃ r, x = .returned r ∧ OwnB w' w.heap.size r (snapB s) ∧ Below w.heap.size w w' := by
  obtain ⟨i, t, m, d⟩ := s
  dsimp only at *
  have hdl := hI.1
  have HLn := hide (snapB_length ⟨i, t, m, d⟩ hi ht hM.2.2.2.1 (by dsimp only; omega))
  have HP0 := hide (pw_new w (.int .u64 i) (.int .u64 t) (.slice ma mn mc) (.slice b n c) 28)
  have HSo := hide hI.src
  have HR3 := hide (rng3 (c := 3) ⟨by decide, by decide⟩ hi ht)
  have HR3l := hide (numsL_length [3, i, t] HR3.out)
  have HMl := hide (memB_length hM.2.2.2.1)
  obtain ⟨B, hB⟩ : ∃ B, memB m = B := ⟨_, rfl⟩
  obtain ⟨L, hL⟩ : ∃ L, B.length = L := ⟨_, rfl⟩
  rw [hB, hL] at HMl
  have HLl := hide (numL_length (L : Int) (by omega) (by have := HMl.out; omega))
  have HEb : Hid (snapB ⟨i, t, m, d⟩ = [] ++ numsL [3, i, t] ++ (numL (L : Int) ++ B) ++ (numL (n : Int) ++ d)) := by show _ = _; unfold snapB; dsimp only; rw [hdl, hB, hL]; rfl
  have hl1 : ([] ++ numsL [3, i, t] : List Int).length ≤ 30 := by have := HR3l.out; simp at this ⊢; omega
  have hl2 : ([] ++ numsL [3, i, t] ++ (numL (L : Int) ++ B) : List Int).length ≤ 140 := by have := HLl.out; have := HMl.out; rw [List.length_append, List.length_append, List.length_append, hL]; simp at hl1 ⊢; omega
  obtain ⟨b1, hb1⟩ : ∃ b1, ([] ++ numsL [3, i, t] : List Int) = b1 := ⟨_, rfl⟩
  rw [hb1] at hl1 hl2 HEb
  obtain ⟨b2, hb2⟩ : ∃ b2, b1 ++ (numL (L : Int) ++ B) = b2 := ⟨_, rfl⟩
  rw [hb2] at hl2 HEb
  have HN := hide (HP0.out.num3 3 i t HR3.out (by simp) (w.heap.size + 2) (by simp))
  rw [hb1] at HN
  have HPm := hide (fun (W : World) (hW : Below w.heap.size w W) => putmem_any ma mn mc m W (hM.keep hW) hm)
  rw [hB] at HPm
  have HT1 := hide (fun (W W' : World) (hW : PW w (.int .u64 i) (.int .u64 t) (.slice ma mn mc) (.slice b n c) b1 W) (hb : Below W.heap.size W W') (a : Option Addr) (cc : Nat) (hs : SrcB W' a L B) (ho : L = 0 ∨ ∀ y, a = some y → W.heap.size ≤ y.block ∨ y.block < w.heap.size + 1) => hW.text hb a L cc B hs ho (by have := HMl.out; omega) (by omega))
  rw [hb2] at HT1
  have HT := hide (fun (W : World) (hW : PW w (.int .u64 i) (.int .u64 t) (.slice ma mn mc) (.slice b n c) b2 W) => hW.text (Below.refl _ W) b n c d (HSo.out.keep hW.bl) (src_old HSo.out _) (by omega) (by omega))
  rw [← HEb.out] at HT
  have HLB := hide hL
  clear hI hb1 hb2 hM hB hL
  go_enter Tryz.func76, Tryz.ntmps76
  go_wp2_with (first
    | (go_at_call 123; go_must (refine (wBytes_any (w.heap.size + 1) (w.heap.size + 1) _ _ HW5.out.wr (by have := HLn.out; omega)).mono ?_); rintro e w7 ⟨r, rfl, hO7, hb7⟩; have HO7 := hide (hO7.mono HW5.out.bl.size); have HB7 := hide (HW5.out.bl.trans (hb7.mono HW5.out.bl.size)); clear hO7 hb7)
    | (go_at_call 125; have hchk := HW4.out; clear hchk; go_must (refine (HT.out _ (by exact HW4.out)).mono ?_); rintro e w5 ⟨rfl, hp5⟩; have HW5 := hide hp5; clear hp5)
    | (go_at_call 125; go_must (refine (HT1.out w2 _ HW2.out HB3.out a3 c3 HS3.out HF3.out).mono ?_); rintro e w4 ⟨rfl, hp4⟩; have HW4 := hide hp4; obtain ⟨-, -, -, y3, -⟩ := hp4.bx; clear hp4)
    | (go_at_call 71; go_must (refine (HPm.out _ (by exact HW2.out.bl)).mono ?_); rintro e w3 ⟨v3, rfl, hO3, hb3⟩; have HB3 := hide hb3; obtain ⟨a3, c3, rfl, hs3, -⟩ := hO3.src; have hlt3 := hO3.lt; rw [HLB.out] at hs3 hlt3; have HS3 := hide hs3; have HF3 : Hid (L = 0 ∨ ∀ y, a3 = some y → w2.heap.size ≤ y.block ∨ y.block < w.heap.size + 1) := (by rcases hs3.2 with h0 | ⟨g, off, e, hg, _⟩; (exact .inl h0); exact .inr (fun y hy => .inl (by rw [e] at hy; cases hy; subst e; exact (hlt3 g rfl).1))); (have hLrw := HLB.out; (try rw [hLrw])); clear hO3 hb3 hs3 hlt3 hLrw)
    | (go_at_call 122; go_must (refine HN.out.mono ?_); rintro e w2 ⟨rfl, hp2⟩; have HW2 := hide hp2; obtain ⟨-, -, y2, -⟩ := hp2.bx; clear hp2))
  go_ret
  exact ⟨r, rfl, HO7.out, HB7.out⟩

end Go.Proofs.YtodmieehdleohaaGreat

namespace Go.Proofs.YtodmieehdleohaaGreat
open Go.RowKit NumMath
set_option linter.unusedVariables false
set_option maxRecDepth 100000

/-- a run of bytes of one's own, beside all that was there -/
def RunB (W1 : World) (bs : List Int) (e : Ending) (w' : World) : Prop :=
  ∃ a n c, e = .returned (.slice a n c) ∧ SrcB w' a n bs ∧ OwnB w' W1.heap.size (.slice a n c) bs ∧ Below W1.heap.size W1 w'

theorem rn_on {W1 W : World} (hb : Below W1.heap.size W1 W) (a : Option Addr) (len cap : Nat) (bs : List Int) (n : Int) (hs : SrcB W a len bs) (hn : 0 ≤ n ∧ n ≤ 18446744073709551615) (hl : bs.length ≤ 1000000000) :
    Calls Tryz.prog 132 #[.slice a len cap, .int .u64 n] W (RunB W1 (bs ++ numL n)) := by
  refine (rN_any a len cap bs n W hs hn.1 hn.2 (by have := hs.1; omega)).mono ?_
  rintro e w' ⟨v, rfl, ho, hb'⟩
  obtain ⟨a2, n2, c2, rfl, hs2⟩ := ho.any
  exact ⟨a2, n2, c2, rfl, hs2, ho.mono hb.size, hb.trans (hb'.mono hb.size)⟩

theorem rt_on {W1 W : World} (hb : Below W1.heap.size W1 W) (a : Option Addr) (len cap : Nat) (bs : List Int) (b : Option Addr) (m c : Nat) (xs : List Int) (hs : SrcB W a len bs) (hx : SrcB W b m xs) (hl : bs.length ≤ 100000000) (hm : m ≤ 100000000) :
    Calls Tryz.prog 134 #[.slice a len cap, .slice b m c] W (RunB W1 (bs ++ (numL (m : Int) ++ xs))) := by
  refine (rText_any a len cap bs b m c xs W hs hx (by have := hs.1; omega) hm).mono ?_
  rintro e w' ⟨v, rfl, ho, hb'⟩
  obtain ⟨a2, n2, c2, rfl, hs2⟩ := ho.any
  exact ⟨a2, n2, c2, rfl, hs2, ho.mono hb.size, hb.trans (hb'.mono hb.size)⟩

theorem srcB_none (w : World) : SrcB w none 0 [] := ⟨rfl, .inl rfl⟩

theorem nums3 (x y z : Int) : numsL [x, y, z] = [] ++ numL x ++ numL y ++ numL z := by
  unfold numsL
  simp [List.flatMap]

set_option maxHeartbeats 400000 in
theorem xputhard_any (t v : Int) (w : World) (h1 : 0 ≤ t ∧ t ≤ 18446744073709551615) (h2 : 0 ≤ v ∧ v ≤ 18446744073709551615) :
    Calls Tryz.prog 99 #[.agg #[.int .u64 t, .int .u64 v]] w fun e w' => ∃ r, e = .returned r ∧ OwnB w' w.heap.size r (hardB t v) ∧ Below w.heap.size w w' := by
  have HB0 := hide (new_below w (.cells #[.int .u64 t, .int .u64 v] 24))
  have HK : Hid (∀ W, Below (w.alloc (.cells #[.int .u64 t, .int .u64 v] 24)).heap.size (w.alloc (.cells #[.int .u64 t, .int .u64 v] 24)) W → W.cell? ⟨w.heap.size, 0, none⟩ = some (.int .u64 t) ∧ W.cell? ⟨w.heap.size, 1, none⟩ = some (.int .u64 v)) := fun W hW => ⟨(hW.cell (by simp)).trans (by simp), (hW.cell (by simp)).trans (by simp)⟩
  have HE : Hid (hardB t v = [] ++ numL 1 ++ numL t ++ numL v) := nums3 1 t v
  have HN1 := hide (numL_length 1 (by decide) (by decide))
  have HN2 := hide (numL_length t h1.1 h1.2)
  go_enter Tryz.func99, Tryz.ntmps99
  go_wp2
  have HD0 : Hid (Below (w.alloc (.cells #[.int .u64 t, .int .u64 v] 24)).heap.size (w.alloc (.cells #[.int .u64 t, .int .u64 v] 24)) (w.alloc (.cells #[.int .u64 t, .int .u64 v] 24)).drew) := (Below.refl _ _).drew
  go_region_held3 (fun W => W.cell? ⟨w.heap.size, 0, none⟩ = some (.int .u64 t) ∧ W.cell? ⟨w.heap.size, 1, none⟩ = some (.int .u64 v)) (first | with_reducible exact HK.out _ HB4.out | with_reducible exact HK.out _ HB3.out | with_reducible exact HK.out _ HB2.out | with_reducible exact HK.out _ HD0.out | go_keep) (first
    | (go_at_call 132; have hchk := HS3.out; clear hchk; refine (rn_on HB3.out a3 n3 c3 _ v HS3.out h2 (by have := HN1.out; have := HN2.out; rw [List.length_append, List.length_append, List.length_nil]; omega)).mono ?_; rintro e w4 ⟨a4, n4, c4, rfl, hs4, ho4, hb4⟩; have HO4 := hide ho4; have HB4 := hide hb4; clear hs4 ho4 hb4)
    | (go_at_call 132; have hchk := HS2.out; clear hchk; refine (rn_on HB2.out a2 n2 c2 _ t HS2.out h1 (by have := HN1.out; rw [List.length_append, List.length_nil]; omega)).mono ?_; rintro e w3 ⟨a3, n3, c3, rfl, hs3, -, hb3⟩; have HS3 := hide hs3; have HB3 := hide hb3; clear hs3 hb3)
    | (go_at_call 132; refine (rn_on HD0.out none 0 0 [] 1 (srcB_none _) (by decide) (by simp)).mono ?_; rintro e w2 ⟨a2, n2, c2, rfl, hs2, -, hb2⟩; have HS2 := hide hs2; have HB2 := hide hb2; clear hs2 hb2))
  all_goals
    go_wp2
    go_ret
    exact ⟨_, rfl, by rw [HE.out]; exact HO4.out.mono HB0.out.size, HB0.out.trans (HB4.out.mono HB0.out.size)⟩

theorem box4_on {w W : World} {v0 v1 v2 v3 : Value} {ty : TypeId} (hW : Below (w.alloc (.cells #[v0, v1, v2, v3] ty)).heap.size (w.alloc (.cells #[v0, v1, v2, v3] ty)) W) : W.cell? ⟨w.heap.size, 0, none⟩ = some v0 ∧ W.cell? ⟨w.heap.size, 1, none⟩ = some v1 ∧ W.cell? ⟨w.heap.size, 2, none⟩ = some v2 ∧ W.cell? ⟨w.heap.size, 3, none⟩ = some v3 :=
  ⟨(hW.cell (by simp)).trans (by simp), (hW.cell (by simp)).trans (by simp), (hW.cell (by simp)).trans (by simp), (hW.cell (by simp)).trans (by simp)⟩

set_option maxHeartbeats 800000 in
theorem xputent_any (e : Ent) (b : Option Addr) (n c : Nat) (w : World) (hok : e.ok) (hI : IsBytes w b n c e.d) (hl : n ≤ 100000) :
    Calls Tryz.prog 100 #[.agg #[.int .u64 e.i, .int .u64 e.t, .int .i64 e.k, .slice b n c]] w fun x w' => ∃ r, x = .returned r ∧ OwnB w' w.heap.size r (entB e) ∧ Below w.heap.size w w' := by
  obtain ⟨i, t, k, d⟩ := e
  dsimp only at *
  have hdl := hI.1
  obtain ⟨h1, h2, hk1, hk2⟩ := hok
  dsimp only at h1 h2 hk1 hk2
  have hz := zigV_range k hk1 hk2
  have HB0 := hide (new_below w (.cells #[.int .u64 i, .int .u64 t, .int .i64 k, .slice b n c] 76))
  have HK := hide (fun W => box4_on (w := w) (W := W) (v0 := .int .u64 i) (v1 := .int .u64 t) (v2 := .int .i64 k) (v3 := .slice b n c) (ty := 76))
  have HSd := hide (fun (W : World) (hW : Below (w.alloc (.cells #[.int .u64 i, .int .u64 t, .int .i64 k, .slice b n c] 76)).heap.size (w.alloc (.cells #[.int .u64 i, .int .u64 t, .int .i64 k, .slice b n c] 76)) W) => hI.src.keep (HB0.out.trans (hW.mono HB0.out.size)))
  have HE : Hid (entB ⟨i, t, k, d⟩ = [] ++ numL 2 ++ numL i ++ numL t ++ numL (zigV k) ++ (numL (n : Int) ++ d)) := by show _ = _; unfold entB; dsimp only; rw [hdl, nums3]
  have HN1 := hide (numL_length 2 (by decide) (by decide))
  have HN2 := hide (numL_length i h1.1 h1.2)
  have HN3 := hide (numL_length t h2.1 h2.2)
  have HN4 := hide (numL_length (zigV k) hz.1 hz.2)
  clear hI
  go_enter Tryz.func100, Tryz.ntmps100
  go_wp2
  have HD0 : Hid (Below (w.alloc (.cells #[.int .u64 i, .int .u64 t, .int .i64 k, .slice b n c] 76)).heap.size (w.alloc (.cells #[.int .u64 i, .int .u64 t, .int .i64 k, .slice b n c] 76)) (w.alloc (.cells #[.int .u64 i, .int .u64 t, .int .i64 k, .slice b n c] 76)).drew) := (Below.refl _ _).drew
  go_region_held3 (fun W => W.cell? ⟨w.heap.size, 0, none⟩ = some (.int .u64 i) ∧ W.cell? ⟨w.heap.size, 1, none⟩ = some (.int .u64 t) ∧ W.cell? ⟨w.heap.size, 2, none⟩ = some (.int .i64 k) ∧ W.cell? ⟨w.heap.size, 3, none⟩ = some (.slice b n c)) (first | with_reducible exact HK.out _ HB4.out | with_reducible exact HK.out _ HB3.out | with_reducible exact HK.out _ HB2.out | with_reducible exact HK.out _ HD0.out | go_keep) (first
    | (go_at_call 132; have hchk := HS3.out; clear hchk; refine (rn_on HB3.out a3 n3 c3 _ t HS3.out h2 (by have := HN1.out; have := HN2.out; rw [List.length_append, List.length_append, List.length_nil]; omega)).mono ?_; rintro e w4 ⟨a4, n4, c4, rfl, hs4, -, hb4⟩; have HS4 := hide hs4; have HB4 := hide hb4; clear hs4 hb4)
    | (go_at_call 132; have hchk := HS2.out; clear hchk; refine (rn_on HB2.out a2 n2 c2 _ i HS2.out h1 (by have := HN1.out; rw [List.length_append, List.length_nil]; omega)).mono ?_; rintro e w3 ⟨a3, n3, c3, rfl, hs3, -, hb3⟩; have HS3 := hide hs3; have HB3 := hide hb3; clear hs3 hb3)
    | (go_at_call 132; refine (rn_on HD0.out none 0 0 [] 2 (srcB_none _) (by decide) (by simp)).mono ?_; rintro e w2 ⟨a2, n2, c2, rfl, hs2, -, hb2⟩; have HS2 := hide hs2; have HB2 := hide hb2; clear hs2 hb2))
  all_goals
    obtain ⟨q0, q1, q2, q3⟩ := HK.out _ HB4.out
    go_wp2
    have HD4 := hide HB4.out.drew
    have HS5 := hide (HS4.out.keep (Below.refl _ w4).drew)
    go_region_held3 (fun W => W.cell? ⟨w.heap.size, 2, none⟩ = some (.int .i64 k) ∧ W.cell? ⟨w.heap.size, 3, none⟩ = some (.slice b n c)) (first | with_reducible exact (HK.out _ HB7.out).2.2 | with_reducible exact (HK.out _ HB6.out).2.2 | with_reducible exact (HK.out _ HD4.out).2.2 | go_keep) (first
      | (go_at_call 134; refine (rt_on HB6.out a6 n6 c6 _ b n c d HS6.out (HSd.out _ HB6.out) (by have := HN1.out; have := HN2.out; have := HN3.out; have := HN4.out; rw [List.length_append, List.length_append, List.length_append, List.length_append, List.length_nil]; omega) (by omega)).mono ?_; rintro e w7 ⟨a7, n7, c7, rfl, -, ho7, hb7⟩; have HO7 := hide ho7; have HB7 := hide hb7; clear ho7 hb7)
      | (go_at_call 132; refine (rn_on HD4.out a4 n4 c4 _ (zigV k) HS5.out hz (by have := HN1.out; have := HN2.out; have := HN3.out; rw [List.length_append, List.length_append, List.length_append, List.length_nil]; omega)).mono ?_; rintro e w6 ⟨a6, n6, c6, rfl, hs6, -, hb6⟩; have HS6 := hide hs6; have HB6 := hide hb6; clear hs6 hb6)
      | (go_at_call 135; refine (rzig_any k _ hk1 hk2).mono ?_; rintro e w' ⟨rfl, hw⟩; have hw := hw.symm; subst hw))
    all_goals
      go_wp2
      go_ret
      exact ⟨_, rfl, by rw [HE.out]; exact HO7.out.mono HB0.out.size, HB0.out.trans (HB7.out.mono HB0.out.size)⟩

set_option maxHeartbeats 800000 in
theorem xputsnap_any (s : Snp) (ma : Option Addr) (mn mc : Nat) (b : Option Addr) (n c : Nat) (w : World) (h1 : 0 ≤ s.i ∧ s.i ≤ 18446744073709551615) (h2 : 0 ≤ s.t ∧ s.t ≤ 18446744073709551615) (hM : IsNums w ma mn mc s.m) (hI : IsBytes w b n c s.d) (hm : mn < 50) (hl : n ≤ 100000) :
    Calls Tryz.prog 98 #[.agg #[.int .u64 s.i, .int .u64 s.t, .slice ma mn mc, .slice b n c]] w fun x w' => ∃ r, x = .returned r ∧ OwnB w' w.heap.size r (snapB s) ∧ Below w.heap.size w w' := by
  obtain ⟨i, t, m, d⟩ := s
  dsimp only at *
  have hdl := hI.1
  have HB0 := hide (new_below w (.cells #[.int .u64 i, .int .u64 t, .slice ma mn mc, .slice b n c] 28))
  have HK := hide (fun W => box4_on (w := w) (W := W) (v0 := .int .u64 i) (v1 := .int .u64 t) (v2 := .slice ma mn mc) (v3 := .slice b n c) (ty := 28))
  have HSd := hide (fun (W : World) (hW : Below (w.alloc (.cells #[.int .u64 i, .int .u64 t, .slice ma mn mc, .slice b n c] 28)).heap.size (w.alloc (.cells #[.int .u64 i, .int .u64 t, .slice ma mn mc, .slice b n c] 28)) W) => hI.src.keep (HB0.out.trans (hW.mono HB0.out.size)))
  have HPm := hide (fun (W : World) (hW : Below (w.alloc (.cells #[.int .u64 i, .int .u64 t, .slice ma mn mc, .slice b n c] 28)).heap.size (w.alloc (.cells #[.int .u64 i, .int .u64 t, .slice ma mn mc, .slice b n c] 28)) W) => xputmem_any ma mn mc m W (hM.keep (HB0.out.trans (hW.mono HB0.out.size))) hm)
  have HMl := hide (memB_length hM.2.2.2.1)
  obtain ⟨B, hB⟩ : ∃ B, memB m = B := ⟨_, rfl⟩
  have HE : Hid (snapB ⟨i, t, m, d⟩ = [] ++ numL 3 ++ numL i ++ numL t ++ (numL (B.length : Int) ++ B) ++ (numL (n : Int) ++ d)) := by show _ = _; unfold snapB; dsimp only; rw [hdl, nums3, hB]
  rw [hB] at HMl HPm
  have HN1 := hide (numL_length 3 (by decide) (by decide))
  have HN2 := hide (numL_length i h1.1 h1.2)
  have HN3 := hide (numL_length t h2.1 h2.2)
  have HN4 := hide (numL_length (B.length : Int) (by omega) (by have := HMl.out; omega))
  clear hI hM hB
  go_enter Tryz.func98, Tryz.ntmps98
  go_wp2
  have HD0 : Hid (Below (w.alloc (.cells #[.int .u64 i, .int .u64 t, .slice ma mn mc, .slice b n c] 28)).heap.size (w.alloc (.cells #[.int .u64 i, .int .u64 t, .slice ma mn mc, .slice b n c] 28)) (w.alloc (.cells #[.int .u64 i, .int .u64 t, .slice ma mn mc, .slice b n c] 28)).drew) := (Below.refl _ _).drew
  go_region_held3 (fun W => W.cell? ⟨w.heap.size, 0, none⟩ = some (.int .u64 i) ∧ W.cell? ⟨w.heap.size, 1, none⟩ = some (.int .u64 t) ∧ W.cell? ⟨w.heap.size, 2, none⟩ = some (.slice ma mn mc) ∧ W.cell? ⟨w.heap.size, 3, none⟩ = some (.slice b n c)) (first | with_reducible exact HK.out _ HB4.out | with_reducible exact HK.out _ HB3.out | with_reducible exact HK.out _ HB2.out | with_reducible exact HK.out _ HD0.out | go_keep) (first
    | (go_at_call 132; have hchk := HS3.out; clear hchk; refine (rn_on HB3.out a3 n3 c3 _ t HS3.out h2 (by have := HN1.out; have := HN2.out; rw [List.length_append, List.length_append, List.length_nil]; omega)).mono ?_; rintro e w4 ⟨a4, n4, c4, rfl, hs4, -, hb4⟩; have HS4 := hide hs4; have HB4 := hide hb4; clear hs4 hb4)
    | (go_at_call 132; have hchk := HS2.out; clear hchk; refine (rn_on HB2.out a2 n2 c2 _ i HS2.out h1 (by have := HN1.out; rw [List.length_append, List.length_nil]; omega)).mono ?_; rintro e w3 ⟨a3, n3, c3, rfl, hs3, -, hb3⟩; have HS3 := hide hs3; have HB3 := hide hb3; clear hs3 hb3)
    | (go_at_call 132; refine (rn_on HD0.out none 0 0 [] 3 (srcB_none _) (by decide) (by simp)).mono ?_; rintro e w2 ⟨a2, n2, c2, rfl, hs2, -, hb2⟩; have HS2 := hide hs2; have HB2 := hide hb2; clear hs2 hb2))
  all_goals
    obtain ⟨q0, q1, q2, q3⟩ := HK.out _ HB4.out
    go_wp2
    have HD4 := hide HB4.out.drew
    have HS5 := hide (HS4.out.keep (Below.refl _ w4).drew)
    go_region_held3 (fun W => W.cell? ⟨w.heap.size, 2, none⟩ = some (.slice ma mn mc) ∧ W.cell? ⟨w.heap.size, 3, none⟩ = some (.slice b n c)) (first | with_reducible exact (HK.out _ HB8.out).2.2 | with_reducible exact (HK.out _ HB7.out).2.2 | with_reducible exact (HK.out _ HB6.out).2.2 | with_reducible exact (HK.out _ HD4.out).2.2 | go_keep) (first
      | (go_at_call 134; have hchk := HS7.out; clear hchk; refine (rt_on HB7.out a7 n7 c7 _ b n c d HS7.out (HSd.out _ HB7.out) (by have := HN1.out; have := HN2.out; have := HN3.out; have := HN4.out; have := HMl.out; rw [List.length_append, List.length_append, List.length_append, List.length_append, List.length_append, List.length_nil]; omega) (by omega)).mono ?_; rintro e w8 ⟨a8, n8, c8, rfl, -, ho8, hb8⟩; have HO8 := hide ho8; have HB8 := hide hb8; clear ho8 hb8)
      | (go_at_call 134; refine (rt_on HB6.out a4 n4 c4 _ a6 B.length c6 B HS56.out HS6.out (by have := HN1.out; have := HN2.out; have := HN3.out; rw [List.length_append, List.length_append, List.length_append, List.length_nil]; omega) (by have := HMl.out; omega)).mono ?_; rintro e w7 ⟨a7, n7, c7, rfl, hs7, -, hb7⟩; have HS7 := hide hs7; have HB7 := hide hb7; clear hs7 hb7)
      | (go_at_call 96; refine (HPm.out _ HD4.out).mono ?_; rintro e w6 ⟨v6, rfl, ho6, hb6⟩; have HS56 := hide (HS5.out.keep hb6); have HB6 := hide (HD4.out.trans (hb6.mono HD4.out.size)); obtain ⟨a6, c6, rfl, hs6, -⟩ := ho6.src; have HS6 := hide hs6; clear hs6 ho6 hb6))
    all_goals
      go_wp2
      go_ret
      exact ⟨_, rfl, by rw [HE.out]; exact HO8.out.mono HB0.out.size, HB0.out.trans (HB8.out.mono HB0.out.size)⟩

end Go.Proofs.YtodmieehdleohaaGreat
