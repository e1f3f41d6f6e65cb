/- okey.firstText and okey.first: the value that bytes begin with, or that they begin with none. -/
import Derived.Test.YtfihjhcjkgpgfaaOkeyMath
import Derived.Test.YtfihjhcjkgpgfaaOkeyNextC
namespace Go.Proofs.Ytfihjhcjkgpgfaa
open Go.RowKit NumMath
set_option linter.unusedVariables false

/-- the bytes xs begin with the value v, which takes size of them -/
def FirstOk (xs : List Int) (v : Val) (size : Nat) : Prop := 0 < size ∧ size ≤ xs.length ∧ Plain v ∧ keyV v = xs.take size
/-- they begin with no value -/
def FirstNo (xs : List Int) : Prop := ∀ u, Plain u → ∀ C, keyV u ++ C = xs → False

theorem text_no (xs ts : List Int) (k : Nat) (h : xs = 3 :: (ts.flatMap esc ++ xs.drop k)) (hno : ∀ us A : List Int, us.flatMap esc ++ 0 :: 1 :: A = xs.drop k → False) : FirstNo xs := by
  intro u hu C hC
  rcases keyV_head u hu with ⟨_, e⟩ | ⟨_, e⟩ | ⟨_, e⟩
  · rw [e, h] at hC; simp at hC
  · rw [e, h] at hC; simp at hC
  · rw [e] at hC
    have h2 : 3 :: (textL u.s ++ 0 :: 1 :: C) = 3 :: (ts.flatMap esc ++ xs.drop k) := by rw [← h, ← hC]; simp
    rw [List.cons.injEq] at h2
    unfold textL at h2
    obtain ⟨us', _, hr⟩ := esc_front ts (sb u.s) C _ h2.2
    exact hno us' C hr

theorem drop_two (xs : List Int) (k : Nat) (h : k + 1 < xs.length) : xs.drop k = xs.getD k 0 :: xs.getD (k + 1) 0 :: xs.drop (k + 2) := by
  rw [List.drop_eq_getElem_cons (by omega), List.drop_eq_getElem_cons (i := k + 1) h]
  simp [List.getD, List.getElem?_eq_getElem h, List.getElem?_eq_getElem (show k < xs.length by omega)]

theorem drop_one (xs : List Int) (k : Nat) (h : k < xs.length) : xs.drop k = xs.getD k 0 :: xs.drop (k + 1) := by
  rw [List.drop_eq_getElem_cons h]
  simp [List.getD, List.getElem?_eq_getElem h]

theorem text_yes (xs ts : List Int) (k : Nat) (h : xs = 3 :: (ts.flatMap esc ++ xs.drop k)) (hk : k = 1 + (ts.flatMap esc).length) (hts : ∀ c ∈ ts, isB c) (hl : k + 1 < xs.length) (hm : xs.length ≤ maxLen) (h0 : xs.getD k 0 = 0) (h1 : xs.getD (k + 1) 0 = 1) : FirstOk xs ⟨2, 0, strB ts⟩ (k + 2) := by
  have hd := drop_two xs k hl
  rw [h0, h1] at hd
  refine ⟨by omega, by omega, ⟨⟨by dsimp only; omega, by dsimp only; omega, ?_⟩, .inr (.inr ⟨rfl, rfl⟩)⟩, ?_⟩
  · dsimp only
    rw [strB_size]
    have := esc_longer ts
    omega
  · rw [keyV_text rfl]
    dsimp only
    rw [textL_strB ts hts]
    rw [hd] at h
    generalize xs.drop (k + 2) = r at h
    rw [h]
    have e : k + 2 = (ts.flatMap esc).length + 2 + 1 := by omega
    rw [e, List.take_succ_cons]
    have e3 : ts.flatMap esc ++ 0 :: 1 :: r = (ts.flatMap esc ++ [0, 1]) ++ r := by simp
    rw [e3, List.take_left' (by rw [List.length_append]; rfl)]
    rfl

theorem text_step (xs ts : List Int) (k : Nat) (c : Int) (n : Nat) (h : xs = 3 :: (ts.flatMap esc ++ xs.drop k)) (hk : k = 1 + (ts.flatMap esc).length) (hts : ∀ c ∈ ts, isB c) (hc : isB c) (hd : xs.drop k = esc c ++ xs.drop (k + n)) (hn : (esc c).length = n) :
    xs = 3 :: ((ts ++ [c]).flatMap esc ++ xs.drop (k + n)) ∧ k + n = 1 + ((ts ++ [c]).flatMap esc).length ∧ ∀ c' ∈ ts ++ [c], isB c' := by
  refine ⟨?_, ?_, ?_⟩
  · rw [List.flatMap_append, List.append_assoc]
    simp only [List.flatMap_cons, List.flatMap_nil, List.append_nil]
    rw [← hd]
    exact h
  · rw [List.flatMap_append, List.length_append]
    simp only [List.flatMap_cons, List.flatMap_nil, List.append_nil]
    omega
  · intro c' hc'
    rcases List.mem_append.1 hc' with h' | h'
    · exact hts c' h'
    · simp at h'; rw [h']; exact hc

set_option maxHeartbeats 2000000 in
theorem firsttext_any (g off len cap : Nat) (xs : List Int) (w : World) (hl : xs.length = len) (hlc : len ≤ cap) (hm : cap ≤ maxLen) (hB : BytesAt w g off xs) (hr : ∀ c ∈ xs, 0 ≤ c ∧ c < 256) (hg : g < w.heap.size) (hbig : len ≤ 1000000000) (h3 : xs = 3 :: xs.drop 1) :
    Calls Try.prog 42 #[.slice (some ⟨g, off, none⟩) len cap] w fun e w' => ∃ v size, e = .returned (.tuple #[v.v, .int .i64 (size : Nat)]) ∧ (FirstOk xs v size ∨ (size = 0 ∧ FirstNo xs)) ∧ Below w.heap.size w w' := by
  unfold maxLen at hm
  have HL := hide hl
  have HB := hide hB
  have HR := hide hr
  have H3 := hide h3
  clear hl hB hr h3
  have hw1 : Below w.heap.size w (w.alloc (.cells #[.int .i64 0, .int .i64 0, .string ⟨#[]⟩] 27)) := (Below.refl _ _).alloc (Nat.le_refl _) _
  have z0 : (w.alloc (.cells #[.int .i64 0, .int .i64 0, .string ⟨#[]⟩] 27)).cell? ⟨w.heap.size, 0, none⟩ = some (.int .i64 0) := by simp
  have z1 : (w.alloc (.cells #[.int .i64 0, .int .i64 0, .string ⟨#[]⟩] 27)).cell? ⟨w.heap.size, 1, none⟩ = some (.int .i64 0) := by simp
  have z2 : (w.alloc (.cells #[.int .i64 0, .int .i64 0, .string ⟨#[]⟩] 27)).cell? ⟨w.heap.size, 2, none⟩ = some (.string ⟨#[]⟩) := by simp
  have f0 : ∀ i, (w.alloc (.cells #[.int .i64 0, .int .i64 0, .string ⟨#[]⟩] 27)).frozen? ⟨w.heap.size, i, none⟩ = false := by intro i; simp
  have hs1 : (w.alloc (.cells #[.int .i64 0, .int .i64 0, .string ⟨#[]⟩] 27)).heap.size = w.heap.size + 1 := by simp
  have Z : Hid _ := And.intro hw1 (And.intro z0 (And.intro z1 (And.intro z2 (And.intro f0 hs1))))
  clear hw1 z0 z1 z2 f0 hs1
  go_enter Try.func42, Try.ntmps42
  go_wp2
  generalize w.alloc (.cells #[.int .i64 0, .int .i64 0, .string ⟨#[]⟩] 27) = w1 at *
  go_loopw [4, 5] (fun v i wr => ∃ k ts, k ≤ len ∧ 1 ≤ k ∧ i = .int .i64 (k : Nat) ∧ OwnB wr (w.heap.size + 1) v ts ∧ xs = 3 :: (ts.flatMap esc ++ xs.drop k) ∧ k = 1 + (ts.flatMap esc).length ∧ (∀ c ∈ ts, isB c) ∧ Below (w.heap.size + 1) w1 wr) (fun _ i _ => len - (intOf i).toNat)
  case atStart => exact ⟨1, [], by have h := H3.out; have h2 := HL.out; rw [h] at h2; simp at h2; omega, Nat.le_refl _, rfl, ownB_nil _ _, H3.out, rfl, by simp, Below.refl _ _⟩
  case round =>
    obtain ⟨k, ts, hk, hk1, rfl, hown, e1, e2, hts, hb⟩ := hrel
    obtain ⟨hw1, z0, z1, z2, f0, hs1⟩ := Z.out
    have y0 := (hb.cell (p := ⟨w.heap.size, 0, none⟩) (by simp)).trans z0
    have y1 := (hb.cell (p := ⟨w.heap.size, 1, none⟩) (by simp)).trans z1
    have y2 := (hb.cell (p := ⟨w.heap.size, 2, none⟩) (by simp)).trans z2
    have g0 := (hb.frozen (p := ⟨w.heap.size, 0, none⟩) (by simp)).trans (f0 0)
    have g1 := (hb.frozen (p := ⟨w.heap.size, 1, none⟩) (by simp)).trans (f0 1)
    have g2 := (hb.frozen (p := ⟨w.heap.size, 2, none⟩) (by simp)).trans (f0 2)
    have hbw : Below w.heap.size w wr := hw1.trans (hb.mono (by omega))
    have hsz := hb.size
    have HBr := hide ((HB.out.below hw1 hg).below hb (by omega))
    have hlen : ts.length ≤ 1000000000 := by have := esc_longer ts; omega
    have HLn := hide hlen
    have E1 := hide e1
    have E2 := hide e2
    have HTs := hide hts
    have HO := hide hown
    have hq := hown.holds.conv
    clear e1 e2 hts hown z0 z1 z2 f0 hlen Z
    by_cases hlt : k + 1 < len
    · have hx1 : k + 1 < xs.length := by rw [HL.out]; exact hlt
      have HD := hide (drop_two xs k hx1)
      have HY := hide (text_yes xs ts k E1.out E2.out HTs.out hx1 (by rw [HL.out]; unfold maxLen; omega))
      have hcell0 := HBr.out k (by omega)
      have hcell1 := HBr.out (k + 1) hx1
      obtain ⟨r1, r2⟩ := nth_range xs HR.out k
      obtain ⟨r3, r4⟩ := nth_range xs HR.out (k + 1)
      have HD1 := hide (drop_one xs k (by omega))
      clear hx1
      generalize xs.getD k 0 = c at *
      generalize xs.getD (k + 1) 0 = d at *
      by_cases hc0 : c = 0
      · subst hc0
        by_cases hd1 : d = 1
        · subst hd1
          have HOk := hide (HY.out rfl rfl)
          go_wp2
          refine bodyPost_ret (v := .tuple #[.agg #[.int .i64 2, .int .i64 0, .string (strB ts)], .int .i64 ((k : Int) + 2)]) (by simp [results, Try.results42, go_sem, *]) rfl ⟨⟨2, 0, strB ts⟩, k + 2, by simp [Val.v], .inl HOk.out, ?_⟩
          exact (((hbw.setCell (p := ⟨w.heap.size, 0, none⟩) (Nat.le_refl _) _).setCell (p := ⟨w.heap.size, 1, none⟩) (Nat.le_refl _) _).setCell (p := ⟨w.heap.size, 2, none⟩) (Nat.le_refl _) _)
        · by_cases hd255 : d = 255
          · subst hd255
            go_wp2_with (first
              | (at_builtin; go_must (refine wp_appB _ rfl (.tmp 40) (.tmp 41) rfl (w.heap.size + 1) _ _ rfl (HO.out.alloc _) _ 1 1 [0] rfl rfl (bytes_alloc _ [0] _) (by have := HLn.out; simp only [List.length_singleton]; omega) (by simp; omega) ?_); intro v2 w2 hown2 hg2 hb2; have HO2 := hide hown2; have hb2' := (hb.alloc (by omega) _).trans hb2; clear hown2 hg2 hb2))
            go_roundw
            case rel =>
              obtain ⟨s1, s2, s3⟩ := text_step xs ts k 0 2 E1.out E2.out HTs.out ⟨by omega, by omega⟩ (by rw [HD.out]; rfl) rfl
              exact ⟨k + 2, ts ++ [0], by omega, by omega, by go_num, HO2.out, s1, s2, s3, hb2'⟩
            case measure => simp [intOf]; omega
          · have HNo : Hid (FirstNo xs) := text_no xs ts k E1.out (fun us A h => esc_none us A d _ hd1 hd255 (h.trans HD.out))
            have hd1' : (d == 1) = false := by simp [hd1]
            have hd2' : (d == 255) = false := by simp [hd255]
            go_wp2
            refine bodyPost_ret (v := .tuple #[.agg #[.int .i64 0, .int .i64 0, .string ⟨#[]⟩], .int .i64 0]) (by simp [results, Try.results42, go_sem, *]) rfl ⟨val0, 0, rfl, .inr ⟨rfl, HNo.out⟩, ?_⟩
            exact (((hbw.setCell (p := ⟨w.heap.size, 0, none⟩) (Nat.le_refl _) _).setCell (p := ⟨w.heap.size, 1, none⟩) (Nat.le_refl _) _).setCell (p := ⟨w.heap.size, 2, none⟩) (Nat.le_refl _) _)
      · have hc0' : (c == 0) = false := by simp [hc0]
        go_wp2_with (first
          | (at_builtin; go_must (refine wp_appB _ rfl (.tmp 18) (.tmp 23) rfl (w.heap.size + 1) _ _ rfl (HO.out.alloc _) _ 1 1 [c] rfl rfl (bytes_alloc _ [c] _) (by have := HLn.out; simp only [List.length_singleton]; omega) (by simp; omega) ?_); intro v2 w2 hown2 hg2 hb2; have HO2 := hide hown2; have hb2' := (hb.alloc (by omega) _).trans hb2; clear hown2 hg2 hb2))
        go_roundw
        case rel =>
          obtain ⟨s1, s2, s3⟩ := text_step xs ts k c 1 E1.out E2.out HTs.out ⟨r1, r2⟩ (by rw [esc_other hc0]; exact HD1.out) (by rw [esc_other hc0]; rfl)
          exact ⟨k + 1, ts ++ [c], by omega, by omega, by go_num, HO2.out, s1, s2, s3, hb2'⟩
        case measure => simp [intOf]; omega
    · have HNo : Hid (FirstNo xs) := text_no xs ts k E1.out (fun us A h => esc_short us A _ (by have := HL.out; rw [List.length_drop]; omega) h)
      go_wp2
      refine bodyPost_ret (v := .tuple #[.agg #[.int .i64 0, .int .i64 0, .string ⟨#[]⟩], .int .i64 0]) (by simp [results, Try.results42, go_sem, *]) rfl ⟨val0, 0, rfl, .inr ⟨rfl, HNo.out⟩, ?_⟩
      exact (((hbw.setCell (p := ⟨w.heap.size, 0, none⟩) (Nat.le_refl _) _).setCell (p := ⟨w.heap.size, 1, none⟩) (Nat.le_refl _) _).setCell (p := ⟨w.heap.size, 2, none⟩) (Nat.le_refl _) _)

theorem put_of8 (ys : List Int) (hl : ys.length = 8) (hr : ∀ c ∈ ys, 0 ≤ c ∧ c < 256) : putL (ofV ys) 8 = ys := by
  match ys, hl with
  | [b0, b1, b2, b3, b4, b5, b6, b7], _ =>
    have r0 := hr b0 (by simp)
    have r1 := hr b1 (by simp)
    have r2 := hr b2 (by simp)
    have r3 := hr b3 (by simp)
    have r4 := hr b4 (by simp)
    have r5 := hr b5 (by simp)
    have r6 := hr b6 (by simp)
    have r7 := hr b7 (by simp)
    have e : ofV [b0, b1, b2, b3, b4, b5, b6, b7] = ((((((b0 * 256 + b1) * 256 + b2) * 256 + b3) * 256 + b4) * 256 + b5) * 256 + b6) * 256 + b7 := by
      simp only [ofV, List.foldl_cons, List.foldl_nil, ofStep]
      omega
    have hu : 0 ≤ ofV [b0, b1, b2, b3, b4, b5, b6, b7] ∧ ofV [b0, b1, b2, b3, b4, b5, b6, b7] ≤ 18446744073709551615 := ofV_range _
    show [nthB _ 7, nthB _ 6, nthB _ 5, nthB _ 4, nthB _ 3, nthB _ 2, nthB _ 1, nthB _ 0] = _
    rw [nth_7 _ hu.1 hu.2, nth_6, nth_5, nth_4, nth_3, nth_2, nth_1, nth_0, e]
    simp only [List.cons.injEq, and_true]
    refine ⟨?_, ?_, ?_, ?_, ?_, ?_, ?_, ?_⟩ <;> omega

/-- eight bytes behind the mark of an Int -/
theorem int_yes (xs : List Int) (hr : ∀ c ∈ xs, 0 ≤ c ∧ c < 256) (h : xs = 2 :: xs.drop 1) (hl : 9 ≤ xs.length) : FirstOk xs ⟨1, unflipV (ofV ((xs.drop 1).take 8)), ByteArray.empty⟩ 9 := by
  have hu := ofV_range ((xs.drop 1).take 8)
  have hl8 : ((xs.drop 1).take 8).length = 8 := by rw [List.length_take, List.length_drop]; omega
  refine ⟨by omega, hl, ⟨⟨by dsimp only; omega, by dsimp only; unfold unflipV; omega, by dsimp only; exact Nat.zero_le _⟩, .inr (.inl ⟨rfl, rfl⟩)⟩, ?_⟩
  rw [keyV_int rfl]
  dsimp only
  have e : flipV (unflipV (ofV ((xs.drop 1).take 8))) = ofV ((xs.drop 1).take 8) := by unfold flipV unflipV; omega
  rw [e, put_of8 _ hl8 (fun c hc => hr c (List.mem_of_mem_drop (List.mem_of_mem_take hc)))]
  conv => rhs; rw [h]
  rfl

theorem int_no (xs : List Int) (h : xs = 2 :: xs.drop 1) (hl : xs.length < 9) : FirstNo xs := by
  intro u hu C hC
  rcases keyV_head u hu with ⟨_, e⟩ | ⟨_, e⟩ | ⟨_, e⟩
  · rw [e, h] at hC; simp at hC
  · have := congrArg List.length hC
    rw [e, List.length_append, List.length_cons, putL_length] at this
    omega
  · rw [e, h] at hC; simp at hC

theorem null_yes (xs : List Int) (h : xs = 1 :: xs.drop 1) : FirstOk xs ⟨0, 0, ByteArray.empty⟩ 1 := by
  have hl : 0 < xs.length := by rw [h]; simp
  refine ⟨by omega, by omega, ⟨⟨by dsimp only; omega, by dsimp only; omega, by dsimp only; exact Nat.zero_le _⟩, .inl ⟨rfl, rfl, rfl⟩⟩, ?_⟩
  rw [keyV_null (by decide) (by decide)]
  conv => rhs; rw [h]
  rfl

theorem other_no (xs : List Int) (c : Int) (h : xs = c :: xs.drop 1) (h1 : ¬ c = 1) (h2 : ¬ c = 2) (h3 : ¬ c = 3) : FirstNo xs := by
  intro u hu C hC
  rcases keyV_head u hu with ⟨_, e⟩ | ⟨_, e⟩ | ⟨_, e⟩
  · rw [e, h] at hC; simp at hC; omega
  · rw [e, h] at hC; simp at hC; omega
  · rw [e, h] at hC; simp at hC; omega

theorem bytesAt_drop {w : World} {g off : Nat} {xs : List Int} (h : BytesAt w g off xs) (m : Nat) : BytesAt w g (off + m) (xs.drop m) := by
  intro i hi
  rw [List.length_drop] at hi
  rw [Nat.add_assoc, h (m + i) (by omega)]
  simp [List.getD]

theorem bytesAt_some {w : World} {g off : Nat} {xs : List Int} (h : BytesAt w g off xs) (m : Nat) : BytesAt w g off (xs.take m) := by
  intro i hi
  rw [List.length_take] at hi
  rw [h i (by omega)]
  simp [List.getD, show i < m by omega]

set_option maxHeartbeats 2000000 in
theorem first_any (g off len cap : Nat) (xs : List Int) (w : World) (hl : xs.length = len) (hlc : len ≤ cap) (hm : cap ≤ maxLen) (hB : BytesAt w g off xs) (hr : ∀ c ∈ xs, 0 ≤ c ∧ c < 256) (hg : g < w.heap.size) (hbig : len ≤ 1000000000) (h0 : 0 < len) :
    Calls Try.prog 27 #[.slice (some ⟨g, off, none⟩) len cap] w fun e w' => ∃ v size, e = .returned (.tuple #[v.v, .int .i64 (size : Nat)]) ∧ (FirstOk xs v size ∨ (size = 0 ∧ FirstNo xs)) ∧ Below w.heap.size w w' := by
  have hx0 : 0 < xs.length := by omega
  have hd := drop_one xs 0 hx0
  rw [List.drop_zero] at hd
  have hcell := hB 0 hx0
  rw [Nat.add_zero] at hcell
  obtain ⟨r1, r2⟩ := nth_range xs hr 0
  generalize xs.getD 0 0 = c at *
  have HL := hide hl
  have HB := hide hB
  have HR := hide hr
  have HD := hide hd
  have HM := hide hm
  unfold maxLen at hm
  clear hl hB hr hd hx0
  have hbw := ((Below.refl w.heap.size w).alloc (Nat.le_refl _) (.cells #[.int .i64 0, .int .i64 0, .string ⟨#[]⟩] 27))
  by_cases c1 : c = 1
  · subst c1
    have HOk := hide (null_yes xs HD.out)
    go_enter Try.func27, Try.ntmps27
    go_wp2
    refine bodyPost_ret (v := .tuple #[.agg #[.int .i64 0, .int .i64 0, .string ⟨#[]⟩], .int .i64 1]) (by simp [results, Try.results27, go_sem]) rfl ⟨⟨0, 0, ByteArray.empty⟩, 1, rfl, .inl HOk.out, ?_⟩
    exact (Below.refl _ _).alloc (Nat.le_refl _) _
  · have c1' : (c == 1) = false := by simp [c1]
    by_cases c2 : c = 2
    · subst c2
      by_cases h9 : len < 9
      · have HNo := hide (int_no xs HD.out (by rw [HL.out]; exact h9))
        have h9' : (len : Int) < 9 := by omega
        go_enter Try.func27, Try.ntmps27
        go_wp2
        refine bodyPost_ret (v := .tuple #[.agg #[.int .i64 0, .int .i64 0, .string ⟨#[]⟩], .int .i64 0]) (by simp [results, Try.results27, go_sem]) rfl ⟨val0, 0, rfl, .inr ⟨rfl, HNo.out⟩, ?_⟩
        exact (Below.refl _ _).alloc (Nat.le_refl _) _
      · have HOk := hide (int_yes xs HR.out HD.out (by rw [HL.out]; omega))
        have h9' : ¬ (len : Int) < 9 := by omega
        have hl8 : ((xs.drop 1).take 8).length = 8 := by have := HL.out; rw [List.length_take, List.length_drop]; omega
        have HC := hide (of_row g (off + 1) 8 (cap - 1) ((xs.drop 1).take 8) _ hl8 (by omega) (by have := HM.out; omega) (fun i hi => bytesAt_some (bytesAt_drop (HB.out.below hbw hg) 1) 8 i (by rw [hl8]; exact hi)) (fun c hc => HR.out c (List.mem_of_mem_drop (List.mem_of_mem_take hc))))
        obtain ⟨u1, u2⟩ := ofV_range ((xs.drop 1).take 8)
        generalize ofV ((xs.drop 1).take 8) = u at *
        clear hl8
        go_enter Try.func27, Try.ntmps27
        go_wp2_with (first
          | (go_at_call 41; go_must (refine HC.out.mono ?_); rintro e w' ⟨rfl, rfl⟩)
          | (go_at_call 40; refine (unflip_any u _ u1 u2).mono ?_; rintro e w' ⟨rfl, rfl⟩))
        refine bodyPost_ret (v := .tuple #[.agg #[.int .i64 1, .int .i64 (unflipV u), .string ⟨#[]⟩], .int .i64 9]) (by simp [results, Try.results27, go_sem]) rfl ⟨⟨1, unflipV u, ByteArray.empty⟩, 9, rfl, .inl HOk.out, ?_⟩
        exact (Below.refl _ _).alloc (Nat.le_refl _) _
    · have c2' : (c == 2) = false := by simp [c2]
      by_cases c3 : c = 3
      · subst c3
        have HC := hide (firsttext_any g off len cap xs _ HL.out hlc HM.out (HB.out.below hbw hg) HR.out (Nat.lt_of_lt_of_le hg hbw.size) hbig HD.out)
        go_enter Try.func27, Try.ntmps27
        go_wp2_with (first
          | (go_at_call 42; go_must (refine HC.out.mono ?_); rintro e w' ⟨⟨vk, vn, vs⟩, size, rfl, hres, hb2⟩; unfold Val.v; have HRes := hide hres; have hb3 := hbw.trans (hb2.mono (by simp)); have hsz3 := hb3.size; have q0 := hb2.cell (p := ⟨w.heap.size, 0, none⟩) (by simp); have q1 := hb2.cell (p := ⟨w.heap.size, 1, none⟩) (by simp); have q2 := hb2.cell (p := ⟨w.heap.size, 2, none⟩) (by simp); have p0 := hb2.frozen (p := ⟨w.heap.size, 0, none⟩) (by simp); have p1 := hb2.frozen (p := ⟨w.heap.size, 1, none⟩) (by simp); have p2 := hb2.frozen (p := ⟨w.heap.size, 2, none⟩) (by simp); simp at q0 q1 q2 p0 p1 p2; clear hres hb2))
        refine bodyPost_ret (v := .tuple #[.agg #[.int .i64 vk, .int .i64 vn, .string vs], .int .i64 (size : Int)]) (by simp [results, Try.results27, go_sem, *]) rfl ⟨⟨vk, vn, vs⟩, size, rfl, HRes.out, ?_⟩
        exact (((hb3.setCell (p := ⟨w.heap.size, 0, none⟩) (Nat.le_refl _) _).setCell (p := ⟨w.heap.size, 1, none⟩) (Nat.le_refl _) _).setCell (p := ⟨w.heap.size, 2, none⟩) (Nat.le_refl _) _)
      · have c3' : (c == 3) = false := by simp [c3]
        have HNo := hide (other_no xs c HD.out c1 c2 c3)
        go_enter Try.func27, Try.ntmps27
        go_wp2
        refine bodyPost_ret (v := .tuple #[.agg #[.int .i64 0, .int .i64 0, .string ⟨#[]⟩], .int .i64 0]) (by simp [results, Try.results27, go_sem]) rfl ⟨val0, 0, rfl, .inr ⟨rfl, HNo.out⟩, ?_⟩
        exact (Below.refl _ _).alloc (Nat.le_refl _) _

end Go.Proofs.Ytfihjhcjkgpgfaa
