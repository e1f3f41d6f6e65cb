/- Numbers written one behind the other by one call; lists of members as bytes. Numbers as a set: rising, each once. rlog.PutMembers. -/
import Derived.Test.YtodmieehdleohaaGreatSuD
import Derived.Test.YtodmieehdleohaaGreatRwA
namespace Go.Proofs.YtodmieehdleohaaGreat
open Go.RowKit NumMath
set_option linter.unusedVariables false
set_option maxRecDepth 100000

def numsL (ns : List Int) : List Int := ns.flatMap numL

theorem numsL_snoc (ns : List Int) (n : Int) : numsL (ns ++ [n]) = numsL ns ++ numL n := by simp [numsL]

theorem numsL_length : ∀ (ns : List Int), (∀ x ∈ ns, 0 ≤ x ∧ x ≤ 18446744073709551615) → (numsL ns).length ≤ 10 * ns.length
  | [], _ => by simp [numsL]
  | n :: r, h => by
    have h1 := h n (List.mem_cons_self ..)
    have h2 := numsL_length r (fun x hx => h x (List.mem_cons_of_mem _ hx))
    have h3 := numL_length n h1.1 h1.2
    show ((n :: r).flatMap numL).length ≤ _
    rw [List.flatMap_cons, List.length_append, List.length_cons]
    have : (numsL r).length = (r.flatMap numL).length := rfl
    omega

theorem numsL_range (ns : List Int) : ∀ c ∈ numsL ns, 0 ≤ c ∧ c < 256 := fun c hc => by
  obtain ⟨n, _, h⟩ := List.mem_flatMap.1 hc
  exact numL_range n c h

theorem take_snoc {ns : List Int} {k : Nat} (hk : k < ns.length) : ns.take (k + 1) = ns.take k ++ [ns.getD k 0] := by
  rw [List.take_add_one, List.getElem?_eq_getElem hk]
  simp [List.getD, List.getElem?_eq_getElem hk]

theorem getD_mem {ns : List Int} {k : Nat} (hk : k < ns.length) : ns.getD k 0 ∈ ns := by
  have : ns.getD k 0 = ns[k] := by simp [List.getD, List.getElem?_eq_getElem hk]
  rw [this]; exact List.getElem_mem hk

set_option maxHeartbeats 1000000 in
theorem wNs_any (base p : Nat) (bs : List Int) (a : Option Addr) (len cap : Nat) (ns : List Int) (w : World) (h : IsW w base p bs) (hs : SrcU w a len ns) (ho : len = 0 ∨ ∀ x, a = some x → ¬ WB w p x.block) (hr : ∀ x ∈ ns, 0 ≤ x ∧ x ≤ 18446744073709551615) (hlen : len ≤ 1000) (hn : bs.length ≤ 100000000) (hbase : base ≤ w.heap.size) :
    Calls Tryz.prog 122 #[.pointer (some ⟨p, 0, none⟩), .slice a len cap] w fun e w' => e = .returned (.tuple #[]) ∧ WPost w base p (bs ++ numsL ns) w' := by
  have H := hide h
  have HS := hide hs
  have HO := hide ho
  have HRg := hide hr
  have hnl := hs.1
  clear h hs ho hr
  go_enter Tryz.func122, Tryz.ntmps122
  go_wp2
  go_loopw [10] (fun i wr => ∃ k : Nat, k ≤ len ∧ i = .int .i64 k ∧ WPost w base p (bs ++ numsL (ns.take k)) wr) (fun i _ => len - (intOf i).toNat)
  case atStart => exact ⟨0, Nat.zero_le _, rfl, by have := WPost.refl H.out; simpa [numsL] using this⟩
  case round =>
    obtain ⟨k, hk, rfl, hpost⟩ := hrel
    have HP := hide hpost
    clear hpost
    by_cases hlt : k < len
    · rcases HS.out.2 with h0 | ⟨g, off, ha, hg, hB⟩
      · omega
      · have hoff : ¬ WB w p g := by
          rcases HO.out with h0 | h0
          · omega
          · exact h0 _ ha
        subst ha
        have hcell := (HP.out.cell (g := g) (i := off + k) hg hoff).trans (hB k (by omega))
        have HT : Hid (numsL (ns.take (k + 1)) = numsL (ns.take k) ++ numL (ns.getD k 0)) := by
          show _ = _
          rw [take_snoc (by omega), numsL_snoc]
        have hrg := HRg.out _ (getD_mem (ns := ns) (k := k) (by omega))
        have hln := numsL_length (ns.take k) (fun x hx => HRg.out x (List.mem_of_mem_take hx))
        rw [List.length_take] at hln
        obtain ⟨a2, m2, c2, hc, hf, hown, hp, hne⟩ := HP.out.1
        have HO2 := hide hown
        have HN2 := hide hne
        have hsz := HP.out.2.1.size
        have hbl : (bs ++ numsL (ns.take k)).length ≤ 1000000000 := by rw [List.length_append]; omega
        obtain ⟨bk, hbk⟩ : ∃ bk, bs ++ numsL (ns.take k) = bk := ⟨_, rfl⟩
        have HBk := hide hbk
        rw [hbk] at HO2 hbl
        generalize ns.getD k 0 = x at *
        have hklt : (k : Int) < (len : Int) := by omega
        clear hown hne hB hbk hln
        go_wp2_with (first | (go_at_call 147; go_must (refine (addnum_any base _ bk x _ HO2.out hrg.1 hrg.2 hbl (by omega)).mono ?_); rintro e w2 ⟨v2, rfl, hown2, hg2, hat2⟩; obtain ⟨a3, n3, c3, rfl⟩ : ∃ a2 n2 c2, v2 = .slice a2 n2 c2 := (by obtain ⟨x, y, z, _⟩ := hown2.src; exact ⟨x, _, y, z⟩); have HP2 := hide (HP.out.trans (wpost_store hc hf HO2.out hp HN2.out hown2 hg2 hat2)); have hc2 := hg2.cell hc HN2.out; have hf2 := (World.frozen?_of_block (a := ⟨p, 0, none⟩) (hg2.block p (World.block_lt_of_cell? _ ⟨p, 0, none⟩ hc) HN2.out)).trans hf; clear hown2 hg2 hat2))
        go_roundw
        case rel => exact ⟨k + 1, by omega, by go_num, by have := HP2.out; rw [← HBk.out, List.append_assoc, ← HT.out] at this; exact this⟩
        case measure => simp [intOf]; omega
    · have hkl : k = len := by omega
      subst hkl
      go_wp2
      go_end0
      refine ⟨rfl, ?_⟩
      have := HP.out
      rwa [List.take_of_length_le (by omega)] at this

end Go.Proofs.YtodmieehdleohaaGreat

namespace Go.Proofs.YtodmieehdleohaaGreat
open Go.RowKit NumMath
set_option linter.unusedVariables false
set_option maxRecDepth 100000

def insL (m : Int) : List Int → List Int
  | [] => [m]
  | x :: r => if x < m then x :: insL m r else if x = m then x :: r else m :: x :: r

def setL (l : List Int) : List Int := l.foldl (fun acc m => insL m acc) []

theorem ins_mem (m x : Int) : ∀ l : List Int, x ∈ insL m l ↔ x = m ∨ x ∈ l
  | [] => by simp [insL]
  | y :: r => by
    have ih := ins_mem m x r
    unfold insL
    by_cases h1 : y < m
    · rw [if_pos h1, List.mem_cons, ih, List.mem_cons]
      constructor
      · rintro (h | h | h)
        · exact .inr (.inl h)
        · exact .inl h
        · exact .inr (.inr h)
      · rintro (h | h | h)
        · exact .inr (.inl h)
        · exact .inl h
        · exact .inr (.inr h)
    · rw [if_neg h1]
      by_cases h2 : y = m
      · rw [if_pos h2]
        constructor
        · exact .inr
        · rintro (h | h)
          · rw [h, ← h2]; exact List.mem_cons_self ..
          · exact h
      · rw [if_neg h2, List.mem_cons]

theorem ins_strict (m : Int) : ∀ l : List Int, l.Pairwise (· < ·) → (insL m l).Pairwise (· < ·)
  | [], _ => by simp [insL]
  | y :: r, h => by
    obtain ⟨h1, h2⟩ := List.pairwise_cons.1 h
    unfold insL
    by_cases c1 : y < m
    · rw [if_pos c1]
      refine List.pairwise_cons.2 ⟨fun x hx => ?_, ins_strict m r h2⟩
      rcases (ins_mem m x r).1 hx with e | e
      · rw [e]; exact c1
      · exact h1 x e
    · rw [if_neg c1]
      by_cases c2 : y = m
      · rw [if_pos c2]; exact h
      · rw [if_neg c2]
        refine List.pairwise_cons.2 ⟨fun x hx => ?_, h⟩
        rcases List.mem_cons.1 hx with e | e
        · rw [e]; omega
        · have := h1 x e; omega

theorem set_fold : ∀ (l acc : List Int), acc.Pairwise (· < ·) → (l.foldl (fun acc m => insL m acc) acc).Pairwise (· < ·) ∧ ∀ x, x ∈ l.foldl (fun acc m => insL m acc) acc ↔ x ∈ l ∨ x ∈ acc
  | [], acc, h => ⟨h, fun x => by simp⟩
  | m :: r, acc, h => by
    obtain ⟨h1, h2⟩ := set_fold r (insL m acc) (ins_strict m acc h)
    refine ⟨h1, fun x => ?_⟩
    rw [List.foldl_cons, h2 x, ins_mem, List.mem_cons]
    constructor
    · rintro (h | h | h)
      · exact .inl (.inr h)
      · exact .inl (.inl h)
      · exact .inr h
    · rintro ((h | h) | h)
      · exact .inr (.inl h)
      · exact .inl h
      · exact .inr (.inr h)

theorem set_strict (l : List Int) : (setL l).Pairwise (· < ·) := (set_fold l [] List.Pairwise.nil).1
theorem set_mem (l : List Int) (x : Int) : x ∈ setL l ↔ x ∈ l := by
  have := (set_fold l [] List.Pairwise.nil).2 x
  simpa [setL] using this

theorem strict_uniq : ∀ (a b : List Int), a.Pairwise (· < ·) → b.Pairwise (· < ·) → (∀ x, x ∈ a ↔ x ∈ b) → a = b
  | [], [], _, _, _ => rfl
  | [], y :: s, _, _, h => by have := (h y).2 (List.mem_cons_self ..); simp at this
  | x :: r, [], _, _, h => by have := (h x).1 (List.mem_cons_self ..); simp at this
  | x :: r, y :: s, ha, hb, h => by
    obtain ⟨a1, a2⟩ := List.pairwise_cons.1 ha
    obtain ⟨b1, b2⟩ := List.pairwise_cons.1 hb
    have e : x = y := by
      rcases List.mem_cons.1 ((h x).1 (List.mem_cons_self ..)) with e | e
      · exact e
      · rcases List.mem_cons.1 ((h y).2 (List.mem_cons_self ..)) with f | f
        · exact f.symm
        · have := b1 x e; have := a1 y f; omega
    subst e
    rw [strict_uniq r s a2 b2 (fun z => ?_)]
    have hz := h z
    simp only [List.mem_cons] at hz
    constructor
    · intro hr
      rcases hz.1 (.inr hr) with e | e
      · have := a1 z hr; omega
      · exact e
    · intro hs
      rcases hz.2 (.inr hs) with e | e
      · have := b1 z hs; omega
      · exact e

theorem dd_mem : ∀ (l : List Int) (x : Int), x ∈ dedupL l ↔ x ∈ l
  | [], x => by simp [dedupL]
  | [y], x => by simp [dedupL]
  | y :: z :: r, x => by
    have ih := dd_mem (z :: r) x
    rw [dedupL]
    by_cases h : y = z
    · rw [if_pos h, ih, List.mem_cons, List.mem_cons, List.mem_cons, h]
      constructor
      · exact .inr
      · rintro (e | e)
        · exact .inl e
        · exact e
    · rw [if_neg h, List.mem_cons, ih, List.mem_cons (b := y)]

theorem dd_strict : ∀ (l : List Int), l.Pairwise (· ≤ ·) → (dedupL l).Pairwise (· < ·)
  | [], _ => by simp [dedupL]
  | [y], _ => by simp [dedupL]
  | y :: z :: r, h => by
    obtain ⟨h1, h2⟩ := List.pairwise_cons.1 h
    have ih := dd_strict (z :: r) h2
    rw [dedupL]
    by_cases e : y = z
    · rw [if_pos e]; exact ih
    · rw [if_neg e]
      refine List.pairwise_cons.2 ⟨fun x hx => ?_, ih⟩
      have hx' := (dd_mem (z :: r) x).1 hx
      have hz := h1 z (List.mem_cons_self ..)
      rcases List.mem_cons.1 hx' with f | f
      · rw [f]; omega
      · have := (List.pairwise_cons.1 h2).1 x f; omega

theorem srt_pairwise {ys : List Int} (h : Srt 0 ys.length ys) : ys.Pairwise (· ≤ ·) := by
  rw [List.pairwise_iff_getElem]
  intro i j hi hj hij
  have := h i j (Nat.zero_le _) hij hj
  simpa [List.getD, List.getElem?_eq_getElem hi, List.getElem?_eq_getElem hj] using this

theorem dd_set {xs ys : List Int} (hp : ys.Perm xs) (hs : Srt 0 ys.length ys) : dedupL ys = setL xs :=
  strict_uniq _ _ (dd_strict ys (srt_pairwise hs)) (set_strict xs) (fun x => by rw [dd_mem, set_mem]; exact hp.mem_iff)

theorem set_nil : setL [] = [] := rfl

theorem set_range {l : List Int} (h : ∀ x ∈ l, 0 ≤ x ∧ x ≤ 18446744073709551615) : ∀ x ∈ (setL l).take 9, 0 ≤ x ∧ x ≤ 18446744073709551615 := fun x hx => h x ((set_mem l x).1 (List.mem_of_mem_take hx))

/-- a list of members as bytes -/
def memB (l : List Int) : List Int := numL (((setL l).take 9).length : Int) ++ numsL ((setL l).take 9)

theorem memB_length {l : List Int} (h : ∀ x ∈ l, 0 ≤ x ∧ x ≤ 18446744073709551615) : (memB l).length ≤ 100 := by
  unfold memB
  have h1 := numsL_length ((setL l).take 9) (set_range h)
  have h2 : ((setL l).take 9).length ≤ 9 := by rw [List.length_take]; omega
  rw [List.length_append]
  have h3 := numL_length (((setL l).take 9).length : Int) (by omega) (by omega)
  omega

theorem memB_range (l : List Int) : ∀ c ∈ memB l, 0 ≤ c ∧ c < 256 := fun c hc => by
  unfold memB at hc
  rcases List.mem_append.1 hc with h | h
  · exact numL_range _ c h
  · exact numsL_range _ c h

end Go.Proofs.YtodmieehdleohaaGreat

namespace Go.Proofs.YtodmieehdleohaaGreat
open Go.RowKit Go.Shelf NumMath
set_option linter.unusedVariables false
set_option maxRecDepth 100000

theorem vals_any (a : Option Addr) (len cap : Nat) (w : World) :
    Calls Tryz.prog 120 #[.slice a len cap] w fun e w' => e = .returned (.func (.func 146) #[] #[.pointer (some ⟨w.heap.size, 0, none⟩)]) ∧ w' = w.alloc (.cells #[.slice a len cap] 25) :=
  (callsIn_wide (n := 5)).1 (vals_in Fence.wide 5 trivial rfl a len cap w)

theorem compact_none (w : World) : Calls Tryz.prog 121 #[.slice none 0 0] w fun e w' => e = .returned (.slice none 0 0) ∧ w' = w := by
  go_enter Tryz.func121, Tryz.ntmps121
  go_wp2
  go_ret
  exact ⟨rfl, rfl⟩

theorem RU.cap {w : World} {g n cap : Nat} {xs : List Int} (h : RU w g n cap xs) : n ≤ cap ∧ cap ≤ maxLen := by
  rcases h.own.form with ⟨h0, _⟩ | ⟨g', cap', h0, hg, _, hc, hm, hB⟩
  · simp at h0
  · simp only [Value.slice.injEq, Option.some.injEq, Addr.mk.injEq, and_true] at h0
    obtain ⟨rfl, h2, rfl⟩ := h0
    exact ⟨by omega, hm⟩

theorem dd_length : ∀ l : List Int, (dedupL l).length ≤ l.length
  | [] => by simp [dedupL]
  | [x] => by simp [dedupL]
  | x :: y :: r => by
    have ih := dd_length (y :: r)
    rw [dedupL]
    by_cases h : x = y
    · rw [if_pos h, List.length_cons]; omega
    · rw [if_neg h, List.length_cons, List.length_cons]; omega

theorem take_get (S : List Int) (m : Nat) : ∀ i, i < (S.take m).length → i < S.length ∧ (S.take m).getD i 0 = S.getD i 0 := fun i hi => by
  rw [List.length_take] at hi
  exact ⟨by omega, by simp [List.getD, show i < m by omega]⟩

theorem nums_w5 {w2 w5 : World} {g k : Nat} {S ns bs : List Int} (hN : NumsAt w2 g 0 S) (hg : g < w2.heap.size) (hW : WPost (w2.alloc (.cells #[.slice none 0 0] 134)) w2.heap.size w2.heap.size bs w5) (hns : ∀ i, i < ns.length → i < S.length ∧ ns.getD i 0 = S.getD i 0) (hk : ns.length = k) : SrcU w5 (some ⟨g, 0, none⟩) k ns ∧ ¬ WB w5 w2.heap.size g := by
  have h0 := isW_new w2 w2.heap.size w2.heap.size rfl (Nat.le_refl _)
  have hb := new_below w2 (.cells #[.slice none 0 0] 134)
  have hn : ¬ WB (w2.alloc (.cells #[.slice none 0 0] 134)) w2.heap.size g := fun h => by have := (h0.lt h).2; omega
  have hg3 : g < (w2.alloc (.cells #[.slice none 0 0] 134)).heap.size := Nat.lt_of_lt_of_le hg hb.size
  refine ⟨⟨hk, .inr ⟨g, 0, rfl, Nat.lt_of_lt_of_le hg3 hW.2.1.size, fun i hi => ?_⟩⟩, fun h => by have := (hW.1.lt h).2; omega⟩
  obtain ⟨h1, h2⟩ := hns i hi
  rw [h2]
  exact (hW.cell (g := g) (i := 0 + i) hg3 hn).trans ((hb.cell (p := ⟨g, 0 + i, none⟩) hg).trans (hN i h1))

set_option maxHeartbeats 1000000 in
theorem putmem_any (a : Option Addr) (len cap : Nat) (xs : List Int) (w : World) (h : IsNums w a len cap xs) (hl : len < 50) :
    Calls Tryz.prog 71 #[.slice a len cap] w fun e w' => ∃ v, e = .returned v ∧ OwnB w' w.heap.size v (memB xs) ∧ Below w.heap.size w w' := by
  have H := hide h
  have hrg := h.2.2.2.1
  have HRg := hide (set_range hrg)
  have hxl := h.1
  have HLen := hide (memB_length hrg)
  clear h hrg
  have HB0 := hide (new_below w (.cells #[.slice a len cap] 25))
  have HSo := hide (sorted_any w.heap.size a len cap xs (w.alloc (.cells #[.slice a len cap] 25)) (by simp) (by simp) (H.out.src.keep HB0.out) hl)
  go_enter Tryz.func71, Tryz.ntmps71
  go_wp2_with (first
    | (go_at_call 120; go_must (refine (vals_any a len cap _).mono ?_); rintro e w' ⟨rfl, rfl⟩)
    | (go_at_call 119; go_must (refine HSo.out.mono ?_); rintro e w1 ⟨hb1, hp1⟩; have HB1 := hide (HB0.out.trans (hb1.mono HB0.out.size)); have HS1 := hide hb1.size; rcases hp1 with ⟨hx, rfl⟩ | ⟨g, cap1, ys, rfl, hg, hR1, hP1, hT1⟩))
  · have HM : Hid (memB xs = numL 0 ++ numsL []) := by show _ = _; rw [hx]; rfl
    have HLn2 : Hid ((numL 0 ++ numsL []).length ≤ 1000000000) := by show _ ≤ _; rw [← HM.out]; have := HLen.out; omega
    refine (compact_none _).mono ?_
    rintro e w2 ⟨rfl, hw⟩
    have hw := hw.symm
    subst hw
    have HB2 := hide HB1.out
    clear hx HLen HB1
    go_wp2_with (first
      | (go_at_call 123; go_must (refine (wBytes_any w1.heap.size w1.heap.size _ _ HW6.out.1 HLn2.out).mono ?_); rintro e w7 ⟨v, rfl, hO7, hb7⟩; have HO7 := hide hO7; have HB7 := hide hb7; clear hO7 hb7)
      | (go_at_call 122; have hchk := HW5.out; clear hchk; go_must (refine (wNs_any w1.heap.size w1.heap.size (numL (0 : Int)) none 0 0 [] _ HW5.out.1 ⟨rfl, .inl rfl⟩ (.inl rfl) (by simp) (by omega) (by have := numL_length (0 : Int) (by omega) (by omega); omega) (by have := HW5.out.2.1.size; have := HZ3.out; omega)).mono ?_); rintro e w6 ⟨rfl, hp6⟩; have HW6 := hide hp6; clear hp6)
      | (go_at_call 122; go_must (refine (wN_any w1.heap.size w1.heap.size [] (0 : Int) (w1.heap.size + 1) _ ((isW_new w1 w1.heap.size w1.heap.size rfl (Nat.le_refl _)).keep (new_below _ _)) (one_num _ _ _ (by simp)) (by omega) (by omega) (by simp) (by simp; omega)).mono ?_); rintro e w5 ⟨rfl, hp5⟩; have HW5 := hide (WPost.ahead (isW_new w1 w1.heap.size w1.heap.size rfl (Nat.le_refl _)) (new_below _ _) hp5); have HZ3 : Hid (w1.heap.size + 1 ≤ (w1.alloc (.cells #[.slice none 0 0] 134)).heap.size) := (by show _ ≤ _; simp); clear hp5))
    go_ret
    have hW := HW5.out.trans HW6.out
    have hb36 := hW.below (isW_new w1 w1.heap.size w1.heap.size rfl (Nat.le_refl _)) (by simp)
    have hb26 := (new_below w1 (.cells #[.slice none 0 0] 134)).trans hb36
    have hb27 := hb26.trans (HB7.out.mono hb26.size)
    refine ⟨v, rfl, ?_, HB2.out.trans (hb27.mono HB2.out.size)⟩
    rw [HM.out]
    exact HO7.out.mono (Nat.le_trans HB2.out.size hb26.size)
  · rw [hxl] at hR1 hT1
    have HT : Hid (dedupL ys = setL xs) := dd_set hP1 (by have e : ys.length = xs.length := hP1.length_eq; rw [e, hxl]; exact hT1)
    have hdl := dd_length ys
    have hyl := hR1.len
    rw [HT.out] at hdl
    have hc1 := hR1.cap
    have HC := hide (compact_any g len cap1 ys w1 hR1 hc1.1 (by omega))
    rw [HT.out] at HC
    have hglt := hR1.lt
    have hgw : w.heap.size < g := by simp at hg; omega
    clear hR1 hP1 hT1 hg
    refine HC.out.mono ?_
    rintro e w2 ⟨n', rfl, hn', hN2, hK2⟩
    have HB2 := hide (HB1.out.trans (hK2.below HB1.out.size (fun k e => by omega)))
    have hg2 : g < w2.heap.size := Nat.lt_of_lt_of_le hglt hK2.size
    have HN' := hide hn'
    have HN2 := hide hN2
    clear hK2 hn' hN2 HB1 HC HT
    obtain ⟨ns, hns⟩ : ∃ ns, (setL xs).take 9 = ns := ⟨_, rfl⟩
    have HNs := hide hns
    rw [hns] at HRg
    have hnc : n' ≤ cap1 := by have := HN'.out; omega
    have hcm : cap1 ≤ maxLen := hc1.2
    by_cases h9 : n' ≤ 9
    · have HKl : Hid (ns.length = n') := by show _ = _; rw [← hns, List.length_take, HN'.out]; omega
      have HM : Hid (memB xs = numL (n' : Int) ++ numsL ns) := by show _ = _; unfold memB; rw [hns, HKl.out]
      have HLn2 : Hid ((numL (n' : Int) ++ numsL ns).length ≤ 1000000000) := by show _ ≤ _; rw [← HM.out]; have := HLen.out; omega
      have hmn : min (n' : Int) 9 = (n' : Int) := by omega
      have hmn2 : ¬ (9 : Int) < (n' : Int) := by omega
      have hmn3 : (n' : Int) ≤ (cap1 : Int) := by omega
      clear hns HLen
      go_wp2_with (first
        | (go_at_call 123; go_must (refine (wBytes_any w2.heap.size w2.heap.size _ _ HW6.out.1 HLn2.out).mono ?_); rintro e w7 ⟨v, rfl, hO7, hb7⟩; have HO7 := hide hO7; have HB7 := hide hb7; clear hO7 hb7)
        | (go_at_call 122; have hchk := HW5.out; clear hchk; go_must (refine (wNs_any w2.heap.size w2.heap.size (numL (n' : Int)) (some ⟨g, 0, none⟩) n' cap1 ns _ HW5.out.1 (nums_w5 HN2.out hg2 HW5.out (by rw [← HNs.out]; exact take_get _ 9) HKl.out).1 (.inr (fun x hx => by cases hx; exact (nums_w5 HN2.out hg2 HW5.out (by rw [← HNs.out]; exact take_get _ 9) HKl.out).2)) HRg.out (by omega) (by have := numL_length (n' : Int) (by omega) (by omega); omega) (by have := HW5.out.2.1.size; have := HZ3.out; omega)).mono ?_); rintro e w6 ⟨rfl, hp6⟩; have HW6 := hide hp6; clear hp6)
        | (go_at_call 122; go_must (refine (wN_any w2.heap.size w2.heap.size [] (n' : Int) (w2.heap.size + 1) _ ((isW_new w2 w2.heap.size w2.heap.size rfl (Nat.le_refl _)).keep (new_below _ _)) (one_num _ _ _ (by simp)) (by omega) (by omega) (by simp) (by simp; omega)).mono ?_); rintro e w5 ⟨rfl, hp5⟩; have HW5 := hide (WPost.ahead (isW_new w2 w2.heap.size w2.heap.size rfl (Nat.le_refl _)) (new_below _ _) hp5); have HZ3 : Hid (w2.heap.size + 1 ≤ (w2.alloc (.cells #[.slice none 0 0] 134)).heap.size) := (by show _ ≤ _; simp); clear hp5))
      go_ret
      have hW := HW5.out.trans HW6.out
      have hb36 := hW.below (isW_new w2 w2.heap.size w2.heap.size rfl (Nat.le_refl _)) (by simp)
      have hb26 := (new_below w2 (.cells #[.slice none 0 0] 134)).trans hb36
      have hb27 := hb26.trans (HB7.out.mono hb26.size)
      refine ⟨v, rfl, ?_, HB2.out.trans (hb27.mono HB2.out.size)⟩
      rw [HM.out]
      exact HO7.out.mono (Nat.le_trans HB2.out.size hb26.size)
    · have HKl : Hid (ns.length = 9) := by show _ = _; rw [← hns, List.length_take, HN'.out]; omega
      have HM : Hid (memB xs = numL 9 ++ numsL ns) := by show _ = _; unfold memB; rw [hns, HKl.out]; rfl
      have HLn2 : Hid ((numL 9 ++ numsL ns).length ≤ 1000000000) := by show _ ≤ _; rw [← HM.out]; have := HLen.out; omega
      have hmn : min (n' : Int) 9 = 9 := by omega
      have hmn2 : (9 : Int) < (n' : Int) := by omega
      have hmn3 : (9 : Int) ≤ (cap1 : Int) := by omega
      have hmn4 : 9 ≤ cap1 := by omega
      clear hns HLen
      go_wp2_with (first
        | (go_at_call 123; go_must (refine (wBytes_any w2.heap.size w2.heap.size _ _ HW6.out.1 HLn2.out).mono ?_); rintro e w7 ⟨v, rfl, hO7, hb7⟩; have HO7 := hide hO7; have HB7 := hide hb7; clear hO7 hb7)
        | (go_at_call 122; have hchk := HW5.out; clear hchk; go_must (refine (wNs_any w2.heap.size w2.heap.size (numL (9 : Int)) (some ⟨g, 0, none⟩) 9 cap1 ns _ HW5.out.1 (nums_w5 HN2.out hg2 HW5.out (by rw [← HNs.out]; exact take_get _ 9) HKl.out).1 (.inr (fun x hx => by cases hx; exact (nums_w5 HN2.out hg2 HW5.out (by rw [← HNs.out]; exact take_get _ 9) HKl.out).2)) HRg.out (by omega) (by have := numL_length (9 : Int) (by omega) (by omega); omega) (by have := HW5.out.2.1.size; have := HZ3.out; omega)).mono ?_); rintro e w6 ⟨rfl, hp6⟩; have HW6 := hide hp6; clear hp6)
        | (go_at_call 122; go_must (refine (wN_any w2.heap.size w2.heap.size [] (9 : Int) (w2.heap.size + 1) _ ((isW_new w2 w2.heap.size w2.heap.size rfl (Nat.le_refl _)).keep (new_below _ _)) (one_num _ _ _ (by simp)) (by omega) (by omega) (by simp) (by simp; omega)).mono ?_); rintro e w5 ⟨rfl, hp5⟩; have HW5 := hide (WPost.ahead (isW_new w2 w2.heap.size w2.heap.size rfl (Nat.le_refl _)) (new_below _ _) hp5); have HZ3 : Hid (w2.heap.size + 1 ≤ (w2.alloc (.cells #[.slice none 0 0] 134)).heap.size) := (by show _ ≤ _; simp); clear hp5))
      go_ret
      have hW := HW5.out.trans HW6.out
      have hb36 := hW.below (isW_new w2 w2.heap.size w2.heap.size rfl (Nat.le_refl _)) (by simp)
      have hb26 := (new_below w2 (.cells #[.slice none 0 0] 134)).trans hb36
      have hb27 := hb26.trans (HB7.out.mono hb26.size)
      refine ⟨v, rfl, ?_, HB2.out.trans (hb27.mono HB2.out.size)⟩
      rw [HM.out]
      exact HO7.out.mono (Nat.le_trans HB2.out.size hb26.size)

end Go.Proofs.YtodmieehdleohaaGreat
