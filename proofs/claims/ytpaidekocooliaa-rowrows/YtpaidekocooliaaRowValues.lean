/- A Writer's Value and values. -/
import Derived.Test.YtpaidekocooliaaRowWriter
namespace Go.Proofs.Ytpaidekocooliaa
open Go.RowKit NumMath
set_option linter.unusedVariables false

theorem numL_small (n : Int) (h1 : 0 ≤ n) (h2 : n < 128) : numL n = [n] := by
  unfold numL numN
  have e1 : n.toNat / 128 = 0 := by omega
  have e2 : ((n.toNat % 128 : Nat) : Int) = n := by omega
  rw [e1, e2, hiN_zero]; rfl

/-- a value's bytes -/
def valL (v : Val) : List Int := if v.k = 1 then 1 :: numL (zigV v.n) else if v.k = 2 then 2 :: (numL v.s.size ++ sb v.s) else [0]
def valsL (xs : List Val) : List Int := xs.flatMap valL

theorem valL_int {v : Val} (h : v.k = 1) : valL v = 1 :: numL (zigV v.n) := by unfold valL; rw [if_pos h]
theorem valL_text {v : Val} (h : v.k = 2) : valL v = 2 :: (numL v.s.size ++ sb v.s) := by unfold valL; rw [if_neg (by omega), if_pos h]
theorem valL_null {v : Val} (h1 : ¬ v.k = 1) (h2 : ¬ v.k = 2) : valL v = [0] := by unfold valL; rw [if_neg h1, if_neg h2]

theorem valsL_take (xs : List Val) (k : Nat) (h : k < xs.length) : valsL (xs.take (k + 1)) = valsL (xs.take k) ++ valL (xs.getD k val0) := by
  unfold valsL
  rw [List.take_add_one, List.flatMap_append]
  simp [List.getD, List.getElem?_eq_getElem h]

theorem valsL_part (xs : List Val) (k : Nat) : (valsL (xs.take k)).length ≤ (valsL xs).length := by
  have h : valsL xs = valsL (xs.take k) ++ valsL (xs.drop k) := by
    unfold valsL
    rw [← List.flatMap_append, List.take_append_drop]
  rw [h, List.length_append]
  omega

theorem valL_range (v : Val) : ∀ c ∈ valL v, 0 ≤ c ∧ c < 256 := by
  intro c hc
  unfold valL at hc
  split at hc
  · rcases List.mem_cons.1 hc with rfl | hc
    · omega
    · exact numL_range _ c hc
  · split at hc
    · rcases List.mem_cons.1 hc with rfl | hc
      · omega
      · rcases List.mem_append.1 hc with hc | hc
        · exact numL_range _ c hc
        · exact sb_range _ c hc
    · have := List.mem_singleton.1 hc
      omega

/-- the bytes of a string, in a world where it was turned into a slice of them -/
theorem bytesWorld_below (w : World) (s : ByteArray) : Below w.heap.size w (Lib.bytesWorld w 5 s) :=
  ⟨by simp [Lib.bytesWorld, World.freeze, World.alloc, World.drew, -World.alloc_eq, -World.drew_eq], by simp [Lib.bytesWorld, World.freeze, World.alloc, World.drew, -World.alloc_eq, -World.drew_eq], by simp [Lib.bytesWorld, World.freeze, World.alloc, World.drew, -World.alloc_eq, -World.drew_eq], by rw [Lib.bytesWorld_size]; omega, fun k hk => Lib.bytesWorld_at_old w _ s k hk⟩

theorem bytesWorld_src (w : World) (s : ByteArray) (g : Nat) (hg : w.heap.size = g) : SrcB (Lib.bytesWorld w 5 s) (some ⟨g, 0, none⟩) s.size (sb s) := by
  subst hg
  refine ⟨sb_length s, .inr ⟨_, 0, rfl, by rw [Lib.bytesWorld_size]; omega, ?_⟩⟩
  intro i hi
  rw [sb_length] at hi
  rw [Nat.zero_add, Lib.bytesWorld_cell w _ s i hi]
  have hi' : i < s.data.toList.length := hi
  simp only [sb, List.getD, List.getElem?_map, List.getElem?_eq_getElem hi', Option.map_some, Option.getD_some]

theorem conv_str (s : ByteArray) : ∀ w, (convert 9 25 (.string s)).run Try.prog w = .ok (.slice (some ⟨w.heap.size, 0, none⟩) s.size (grownCap w s.size 0 5)) (Lib.bytesWorld w 5 s) :=
  fun w => Lib.run_convert_string_bytes w 9 25 5 s Try.underlying9 Try.underlying25 Try.underlying5

theorem IsW.off_new {w w1 : World} {base p : Nat} {bs : List Int} (h : IsW w base p bs) (hb : Below w.heap.size w w1) {g : Nat} (hg : w.heap.size ≤ g) : ¬ WB w1 p g := by
  intro hx
  have := (h.lt (h.same hb hx)).1
  omega

/-- none of the slice's values lies in a block of the Writer's -/
theorem CellsV.lies {w w' : World} {M : Nat → Prop} {g off : Nat} {xs : List Val} (h : CellsV w g off xs) (hk : Keeps M w w') (hg : g < w.heap.size) (hm : ¬ M g) : CellsV w' g off xs :=
  fun i hi => ⟨(hk.cell hg hm).trans (h i hi).1, (hk.cell hg hm).trans (h i hi).2.1, (hk.cell hg hm).trans (h i hi).2.2⟩

set_option maxHeartbeats 1000000 in
theorem wValues_any (base p : Nat) (bs : List Int) (a : Option Addr) (len cap : Nat) (xs : List Val) (w : World) (h : IsW w base p bs) (hv : IsVals w a len cap xs) (ho : OffB a (WB w p) ∨ len = 0) (hbig : bs.length + (valsL xs).length ≤ 100000000) (hbase : base ≤ w.heap.size) :
    Calls Try.prog 48 #[.pointer (some ⟨p, 0, none⟩), .slice a len cap] w fun e w' => e = .returned (.tuple #[]) ∧ WPost w base p (bs ++ valsL xs) w' := by
  have H := hide h
  have HV := hide hv
  have HQ := hide ho
  obtain ⟨hl, hlc, hm, hfit, -⟩ := hv
  unfold maxLen at hm
  have HL : Hid (xs.length = len) := hl
  have HF := hide hfit
  have HB := hide hbig
  clear hl hfit hbig h ho
  go_enter Try.func48, Try.ntmps48
  go_wp2
  go_loopw [8] (fun i wr => ∃ k : Nat, k ≤ len ∧ i = .int .i64 k ∧ WPost w base p (bs ++ valsL (xs.take k)) wr) (fun i _ => len - (intOf i).toNat)
  case atStart => exact ⟨0, Nat.zero_le _, rfl, by rw [List.take_zero]; show WPost w base p (bs ++ []) w; rw [List.append_nil]; exact WPost.refl H.out⟩
  case round =>
    obtain ⟨k, hk, rfl, hpost⟩ := hrel
    have HP := hide hpost
    have hsz := hpost.2.1.size
    have HPn := hide (valsL_part xs k)
    have HQn := hide (valsL_part xs (k + 1))
    have HX : Hid ((bs ++ valsL (xs.take k)).length ≤ 100000000) := by
      have h5 := HPn.out
      have h6 := HB.out
      show _ ≤ _
      rw [List.length_append]
      omega
    by_cases hlt : k < len
    · obtain ⟨g, off, rfl, hg, hc⟩ := HV.out.at hlt
      have hk' : k < xs.length := by rw [HL.out]; exact hlt
      have hfv := HF.out _ (getD_mem xs k hk')
      have HT := hide (valsL_take xs k hk')
      obtain ⟨⟨vk, vn, vs⟩, hv, c0, c1, c2⟩ := (hc.lies hpost.2.1 hg ((HQ.out.resolve_right (by omega)) _ rfl)).row hk'
      rw [hv] at HT hfv
      clear hv hk' hc hpost
      obtain ⟨-, ⟨hn1, hn2⟩, -⟩ := hfv
      dsimp only at *
      by_cases h1 : vk = 1
      · subst h1
        rw [valL_int rfl] at HT
        dsimp only at HT
        go_wp2_with (first
          | (go_at_call 32; go_must (refine (wN_any base p _ 1 (wr.heap.size + 1) _ (HP.out.1.keep (((Below.refl _ _).alloc (Nat.le_refl _) _).alloc (by simp) _)) (one_num _ _ _ (by simp)) (by omega) (by omega) (by have := HX.out; omega) (by simp; omega)).mono ?_); rintro e w2 ⟨rfl, hpost2⟩; have hbox2 := (hpost2.cell (g := wr.heap.size) (i := 1) (by simp; omega) (HP.out.1.off_new (((Below.refl _ _).alloc (Nat.le_refl _) _).alloc (by simp) _) (Nat.le_refl _))).trans (show _ = some (Value.int .i64 vn) by simp); have hpost2' := HP.out.trans (WPost.ahead HP.out.1 (((Below.refl _ _).alloc (Nat.le_refl _) _).alloc (by simp) _) hpost2); have HP2 := hide hpost2'; have hsz2 := hpost2'.2.1.size; clear hpost2 hpost2')
          | (go_at_call 33; go_must (refine (wI_any base p _ vn _ HP2.out.1 hn1 hn2 (by have := HX.out; rw [List.length_append, numL_small 1 (by omega) (by omega)]; simp only [List.length_singleton]; omega) (by omega)).mono ?_); rintro e w3 ⟨rfl, hpost3⟩; have HP3 := hide (HP2.out.trans hpost3); clear hpost3))
        go_roundw
        case rel => exact ⟨k + 1, by omega, by go_num, by have h3 := HP3.out; rw [numL_small 1 (by omega) (by omega)] at h3; rw [HT.out]; simpa using h3⟩
        case measure => simp [intOf]; omega
      · have h1' : (vk == 1) = false := by simp [h1]
        by_cases h2 : vk = 2
        · subst h2
          rw [valL_text rfl] at HT
          dsimp only at HT
          have hvs : vs.size ≤ 100000000 := by
            have h3 := HQn.out
            rw [HT.out] at h3
            simp only [List.length_append, List.length_cons, sb_length] at h3
            have := HB.out
            omega
          have hconv := conv_str vs
          go_wp2_with (first
            | (go_at_call 32; go_must (refine (wN_any base p _ 2 (wr.heap.size + 1) _ (HP.out.1.keep (((Below.refl _ _).alloc (Nat.le_refl _) _).alloc (by simp) _)) (one_num _ _ _ (by simp)) (by omega) (by omega) (by have := HX.out; omega) (by simp; omega)).mono ?_); rintro e w2 ⟨rfl, hpost2⟩; have hbox2 := (hpost2.cell (g := wr.heap.size) (i := 2) (by simp; omega) (HP.out.1.off_new (((Below.refl _ _).alloc (Nat.le_refl _) _).alloc (by simp) _) (Nat.le_refl _))).trans (show _ = some (Value.string vs) by simp); have hpost2' := HP.out.trans (WPost.ahead HP.out.1 (((Below.refl _ _).alloc (Nat.le_refl _) _).alloc (by simp) _) hpost2); have HP2 := hide hpost2'; have hsz2 := hpost2'.2.1.size; clear hpost2 hpost2')
            | (go_at_call 34; go_must (refine (wText_any base p _ _ _ _ (sb vs) _ (HP2.out.1.keep (bytesWorld_below _ _)) (bytesWorld_src _ _ _ rfl) (.inl (by intro x hx; cases hx; exact HP2.out.1.off_new (bytesWorld_below _ _) (Nat.le_refl _))) (by omega) (by have h8 := HQn.out; have h9 := HB.out; rw [HT.out] at h8; simp only [List.length_append, List.length_cons] at h8; rw [List.length_append, List.length_append, numL_small 2 (by omega) (by omega)]; simp only [List.length_singleton]; omega) (by rw [Lib.bytesWorld_size]; omega)).mono ?_); rintro e w3 ⟨rfl, hpost3⟩; have HP3 := hide (HP2.out.trans (WPost.ahead HP2.out.1 (bytesWorld_below _ _) hpost3)); clear hpost3))
          go_roundw
          case rel => exact ⟨k + 1, by omega, by go_num, by have h3 := HP3.out; rw [numL_small 2 (by omega) (by omega)] at h3; rw [HT.out]; simpa using h3⟩
          case measure => simp [intOf]; omega
        · have h2' : (vk == 2) = false := by simp [h2]
          rw [valL_null h1 h2] at HT
          go_wp2_with (first
            | (go_at_call 32; go_must (refine (wN_any base p _ 0 (wr.heap.size + 1) _ (HP.out.1.keep (((Below.refl _ _).alloc (Nat.le_refl _) _).alloc (by simp) _)) (one_num _ _ _ (by simp)) (by omega) (by omega) (by have := HX.out; omega) (by simp; omega)).mono ?_); rintro e w2 ⟨rfl, hpost2⟩; have HP2 := hide (HP.out.trans (WPost.ahead HP.out.1 (((Below.refl _ _).alloc (Nat.le_refl _) _).alloc (by simp) _) hpost2)); clear hpost2))
          go_roundw
          case rel => exact ⟨k + 1, by omega, by go_num, by have h3 := HP2.out; rw [numL_small 0 (by omega) (by omega)] at h3; rw [HT.out]; simpa using h3⟩
          case measure => simp [intOf]; omega
    · have hkl : k = len := by omega
      subst hkl
      go_wp2
      go_end0
      refine ⟨rfl, ?_⟩
      have h2 := HP.out
      rw [List.take_of_length_le (by rw [HL.out]; exact Nat.le_refl _)] at h2
      exact h2

set_option maxHeartbeats 400000 in
theorem wValue_any (base p : Nat) (bs : List Int) (k n : Int) (s : ByteArray) (w : World) (h : IsW w base p bs) (hf : Val.fits ⟨k, n, s⟩) (hbig : bs.length + s.size ≤ 10000000) (hbase : base ≤ w.heap.size) :
    Calls Try.prog 35 #[.pointer (some ⟨p, 0, none⟩), .agg #[.int .i64 k, .int .i64 n, .string s]] w fun e w' => e = .returned (.tuple #[]) ∧ WPost w base p (bs ++ valL ⟨k, n, s⟩) w' := by
  have H := hide h
  have HF := hide hf
  have HZ := hide (numL_length (zigV n) (zigV_range n hf.2.1.1 hf.2.1.2).1 (zigV_range n hf.2.1.1 hf.2.1.2).2)
  have HS := hide (numL_length (s.size : Int) (by omega) (by omega))
  clear h hf
  have HLn : Hid ((valsL [⟨k, n, s⟩]).length ≤ 11 + s.size) := by
    show _ ≤ _
    unfold valsL
    rw [List.flatMap_cons, List.flatMap_nil, List.append_nil]
    unfold valL
    dsimp only
    split
    · have := HZ.out; rw [List.length_cons]; omega
    · split
      · have := HS.out; rw [List.length_cons, List.length_append, sb_length]; omega
      · simp only [List.length_singleton]; omega
  go_enter Try.func35, Try.ntmps35
  go_wp2_with (first
    | (go_at_call 48; go_must (refine (wValues_any base p bs (some ⟨w.heap.size + 1, 0, none⟩) 1 1 [⟨k, n, s⟩] _ (H.out.keep (((Below.refl _ _).alloc (Nat.le_refl _) _).alloc (by simp) _)) ⟨rfl, Nat.le_refl _, by unfold maxLen; omega, by intro v hv; rw [List.mem_singleton] at hv; subst hv; exact HF.out, .inr ⟨_, 0, rfl, by simp, cellsV_new _ ⟨k, n, s⟩ _ (by simp)⟩⟩ (.inl (by intro x hx; cases hx; exact H.out.off_new (((Below.refl _ _).alloc (Nat.le_refl _) _).alloc (by simp) _) (by simp))) (by have := HLn.out; omega) (by simp; omega)).mono ?_); rintro e w2 ⟨rfl, hpost⟩; have HP := hide (WPost.ahead H.out (((Below.refl _ _).alloc (Nat.le_refl _) _).alloc (by simp) _) hpost); clear hpost))
  go_end0
  refine ⟨rfl, ?_⟩
  have h2 := HP.out
  unfold valsL at h2
  rw [List.flatMap_cons, List.flatMap_nil, List.append_nil] at h2
  exact h2

end Go.Proofs.Ytpaidekocooliaa
