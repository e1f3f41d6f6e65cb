/- The reference's Frames, whose texts lie where the bytes lay; its Records. -/
import Derived.Test.YtajpamkdcpbabaaWl5
namespace Go.Proofs.Ytajpamkdcpbabaa
open Go.RowKit NumMath Go.ChangeShapes Go.WideShapes Go.Deep
set_option linter.unusedVariables false

/-- the slice v of the call's own holds slices of the texts ts; they lie where the bytes xs lie -/
def OwnF (w : World) (base : Nat) (v : Value) (ts : List (List Int)) (a : Option Addr) (len cap : Nat) (xs : List Int) : Prop :=
  ∃ es : List Value, w.ownsRow base 22 1 v ts.length es ∧ es.length = ts.length ∧ ∀ i, i < ts.length → ∃ b n c, es[i]? = some (.slice b n c) ∧ ∀ w0, IsBytes w0 a len cap xs → IsBytes w0 b n c (ts.getD i [])

theorem ownF_nil (w : World) (base : Nat) (a : Option Addr) (len cap : Nat) (xs : List Int) : OwnF w base (.slice none 0 0) [] a len cap xs := ⟨[], World.ownsRow_nil _ _ _ _, rfl, by simp⟩

theorem OwnF.lt {w : World} {base : Nat} {v : Value} {ts : List (List Int)} {a : Option Addr} {len cap : Nat} {xs : List Int} (h : OwnF w base v ts a len cap xs) : ∀ g, v.ownBlock = some g → base ≤ g ∧ g < w.heap.size := by
  obtain ⟨es, h1, h2, h3⟩ := h
  exact World.ownsRow.lt h1

theorem OwnF.lies {w w' : World} {base : Nat} {v : Value} {ts : List (List Int)} {a : Option Addr} {len cap : Nat} {xs : List Int} (h : OwnF w base v ts a len cap xs) (hb : ∀ g, v.ownBlock = some g → w'.heap[g]? = w.heap[g]?) : OwnF w' base v ts a len cap xs := by
  obtain ⟨es, h1, h2, h3⟩ := h
  exact ⟨es, ownsRow_keep h1 hb, h2, h3⟩

theorem OwnF.keep {w w' : World} {base : Nat} {v : Value} {ts : List (List Int)} {a : Option Addr} {len cap : Nat} {xs : List Int} (h : OwnF w base v ts a len cap xs) (hb : Below w.heap.size w w') : OwnF w' base v ts a len cap xs :=
  h.lies (fun g hg => hb.block g (h.lt g hg).2)

theorem OwnF.is {w : World} {base : Nat} {v : Value} {ts : List (List Int)} {a : Option Addr} {len cap : Nat} {xs : List Int} (h : OwnF w base v ts a len cap xs) (hI : IsBytes w a len cap xs) : ∃ b n c, v = .slice b n c ∧ IsTexts w b n c ts := by
  obtain ⟨es, h1, h2, h3⟩ := h
  have hlt := World.ownsRow.lt h1
  rcases h1.2 with ⟨rfl, h0⟩ | ⟨g, cap', cur, rfl, hg, hh, hn, hm, _, _⟩
  · have hx : ts = [] := List.length_eq_zero_iff.1 h0
    subst hx
    exact ⟨none, 0, 0, rfl, rfl, Nat.le_refl _, by unfold maxLen; omega, .inl rfl⟩
  · refine ⟨_, _, cap', rfl, rfl, hn, hm, .inr ⟨g, 0, rfl, (hlt g rfl).2, ?_⟩⟩
    intro i hi
    obtain ⟨b, n, c, e1, e2⟩ := h3 i hi
    have d0 := World.ownsRow.cells h1 (g := g) rfl i _ e1
    have e : (⟨g, 0, none⟩ : Addr).add i = ⟨g, 0 + i, none⟩ := by unfold Addr.add; split <;> simp_all
    rw [e] at d0
    exact ⟨b, n, c, d0, e2 _ hI⟩

theorem OwnF.form {w : World} {base : Nat} {v : Value} {ts : List (List Int)} {a : Option Addr} {len cap : Nat} {xs : List Int} (h : OwnF w base v ts a len cap xs) : ∃ b n c, v = .slice b n c := by
  obtain ⟨es, h1, h2, h3⟩ := h
  rcases h1.2 with ⟨rfl, h0⟩ | ⟨g, cap', cur, rfl, _⟩
  · exact ⟨_, _, _, rfl⟩
  · exact ⟨_, _, _, rfl⟩

theorem wp_appF {ops : Array Oper} {rest : List Oper} {o : Oper} {a : Act} {Q : Exit → Act → World → Prop} (w : World) (hgd : o.guard = none) (s x : Operand)
    (ho : o.op = .call { callee := .builtin .append, args := #[s, x], argTypes := #[32, 32] }) (base : Nat) (v : Value) (ts : List (List Int)) (sa : Option Addr) (len cap : Nat) (xs : List Int) (hs : a.eval s = v) (hown : OwnF w base v ts sa len cap xs)
    (g : Nat) (b : Option Addr) (n c : Nat) (t : List Int) (hx : a.eval x = .slice (some ⟨g, 0, none⟩) 1 1) (hc : w.cell? ⟨g, 0, none⟩ = some (.slice b n c)) (hI : ∀ w0, IsBytes w0 sa len cap xs → IsBytes w0 b n c t)
    (hbig : ts.length ≤ 1000000000) (hbase : base ≤ w.heap.size)
    (h : ∀ v' w', OwnF w' base v' (ts ++ [t]) sa len cap xs → w.grownBy w' v.ownBlock → Below base w w' → wpList Try.prog ops Q rest (a.put o.dst v') w') : wpList Try.prog ops Q (o :: rest) a w := by
  obtain ⟨i0, hi, hz0, hz1, hz2⟩ := info_parts infoSl
  obtain ⟨es, h1, h2, h3⟩ := hown
  have hnews : ∀ j u, ([Value.slice b n c])[j]? = some u → w.cell? ((⟨g, 0, none⟩ : Addr).add j) = some u := by
    intro j u hu
    have h2 : (⟨g, 0, none⟩ : Addr).add j = ⟨g, j, none⟩ := by unfold Addr.add; split <;> simp_all
    rw [h2]
    match j, hu with
    | 0, hu => simp at hu; rw [← hu]; exact hc
  refine wpList_append_own_at w hgd s x 32 ho base 22 i0 (.slice none 0 0) 1 24 Try.underlying32 hi hz0 hz1 hz2 rfl (by decide) v ts.length es hs h1 ⟨g, 0, none⟩ 1 1 [.slice b n c] hx rfl hnews (by intro u hu; rw [List.mem_singleton.1 hu]; rfl) (by unfold maxLen; omega) (by omega) hbase ?_
  intro v' w' k1 k2 k3 k4
  refine h v' w' ?_ k2 (Below.ofGrown k2 hbase (fun q hq => (World.ownsRow.lt h1 q hq).1))
  refine ⟨es ++ [.slice b n c], by rw [List.length_append]; exact k1, by simp [h2], ?_⟩
  intro i hi
  rw [List.length_append, List.length_singleton] at hi
  by_cases hlt : i < ts.length
  · obtain ⟨b', n', c', e1, e2⟩ := h3 i hlt
    refine ⟨b', n', c', by rw [List.getElem?_append_left (by omega)]; exact e1, ?_⟩
    have e : (ts ++ [t]).getD i [] = ts.getD i [] := by simp [List.getD, List.getElem?_append_left hlt]
    rw [e]
    exact e2
  · have hie : i = ts.length := by omega
    subst hie
    refine ⟨b, n, c, by rw [← h2]; simp, ?_⟩
    have e : (ts ++ [t]).getD ts.length [] = t := by simp [List.getD]
    rw [e]
    exact hI

/-- texts that lie where the bytes lay, and how many bytes their frames have -/
def AllIn (w : World) (a : Option Addr) (len cap : Nat) (xs : List Int) (e : Ending) (w' : World) : Prop := ∃ v L, e = .returned (.tuple #[v, .int .i64 ((flat L).length : Int)]) ∧ AllOf xs L ∧ OwnF w' w.heap.size v L a len cap xs ∧ Below w.heap.size w w'

set_option maxHeartbeats 2000000 in
theorem framesF_any (a : Option Addr) (len cap : Nat) (xs : List Int) (w : World) (h : IsBytes w a len cap xs) (hbig : len ≤ 1000000000) :
    Calls Try.prog 16 #[.slice a len cap] w fun e w' => AllIn w a len cap xs e w' := by
  have H := hide h
  have HL := hide h.1
  have HA : Hid (AreB xs) := h.2.2.2.1
  have hlc := h.2.1
  have hm : (cap : Int) ≤ 9223372036854775807 := by have := h.2.2.1; unfold maxLen at this; omega
  have HB := hide hbig
  clear h hbig
  go_enter Try.func16, Try.ntmps16
  go_wp2
  go_loopw [4, 5] (fun v z wr => ∃ (L : List (List Int)) (r : List Int) (k : Nat), z = .int .i64 k ∧ k = (flat L).length ∧ xs = flat L ++ r ∧ Texts L ∧ OwnF wr w.heap.size v L a len cap xs ∧ Below w.heap.size w wr) (fun _ z _ => len - (intOf z).toNat)
  case atStart => exact ⟨[], xs, 0, rfl, rfl, rfl, (by intro t ht; cases ht), ownF_nil _ _ _ _ _ _, Below.refl _ _⟩
  case round =>
    obtain ⟨L, r, k, rfl, hk, hx, hT, hown, hb⟩ := hrel
    have hkl : k + r.length = len := by rw [← HL.out, hx, List.length_append, ← hk]
    have hdr : xs.drop k = r := by rw [hx, hk, List.drop_left]
    have hsz := hb.size
    obtain ⟨b1, hsl, h1W⟩ := isB_cutFromW (a := a) (xs := xs) hlc k r.length (cap - k) (by omega) (by omega) .i64 (k : Int) rfl
    rw [hdr] at h1W
    have h1w := h1W _ (H.out.keep hb)
    have hLl : L.length ≤ 1000000000 := by have := flat_len_le L; have := HB.out; omega
    have HLl := hide hLl
    have HX := hide hx
    have HT := hide hT
    have HK := hide hk
    have HKL := hide hkl
    have H1 := hide h1w
    have HW := hide h1W
    clear h1w
    have hk2 : (k : Int) ≤ len := by omega
    generalize hm1 : r.length = m1 at *
    have HM1 := hide hm1
    have HOw := hide hown
    clear hx hT hk hdr h1W hLl hkl hm1
    match hu : unfr r with
    | none =>
      have HU := hide hu
      clear hu
      obtain ⟨a2, n2, c2, hv2⟩ := hown.form
      subst hv2
      clear hown
      go_wp2_with (first
        | (go_at_call 32; refine (run_no b1 m1 (cap - k) r _ H1.out HU.out).mono ?_; rintro e w1 ⟨rfl, hb1⟩))
      go_ret2
      exact ⟨_, L, by rw [← HK.out]; rfl, ⟨HT.out, r, HX.out, HU.out⟩, HOw.out.keep hb1, hb.trans (hb1.mono hsz)⟩
    | some t =>
      have HU := hide hu
      obtain ⟨s1, s2⟩ := all_step HA.out HT.out HX.out hu
      have s4 := (unfr_some (fun c hc => HA.out c (by rw [HX.out]; exact List.mem_append_right _ hc)) hu).2.2.2.1
      have S1 := hide s1
      have S2 := hide s2
      have HTL : Hid (8 + t.length ≤ m1) := by show _ ≤ _; rw [← HM1.out]; exact s4
      clear hu s1 s2 s4 hown
      go_wp2_with (first
        | (go_at_call 32; refine (run_yes b1 m1 (cap - k) r t _ H1.out HU.out).mono ?_; rintro e w1 ⟨b, n, c, rfl, hn, hI, hb1⟩; have HI1 := hide (fun w0 h0 => hI w0 (HW.out w0 h0)); have HN := hide hn; have hsz1 := hb1.size; have hO1 := HOw.out.keep hb1; have hn8 : (8 : Int) + n ≤ m1 := (by have := HTL.out; omega); have hkk : (k : Int) + m1 = len := (by have := HKL.out; omega); clear hI hn)
        | (at_builtin; go_must (refine wp_appF _ rfl _ _ rfl w.heap.size _ L a len cap xs rfl (hO1.keep (new_below _ _)) w1.heap.size b n c t rfl (cell_new1 _ _ _ _ rfl) HI1.out HLl.out (by simp; omega) ?_); intro v3 w3 hO3 hgr3 hb3))
      go_roundw
      case rel => exact ⟨L ++ [t], r.drop (8 + t.length), k + (8 + n), by go_num, by rw [flat_snoc, List.length_append, frL_length, ← HK.out, HN.out], S2.out, S1.out, hO3, hb.trans ((hb1.mono hsz).trans (((new_below _ _).mono (by omega)).trans hb3))⟩
      case measure => simp [intOf]; omega

/-- the reference's Sync, with the world that it leaves -/
theorem xsyncE_any (q : Nat) (a : Option Addr) (n c : Nat) (v : Value) (w : World) (hc : w.cell? ⟨q, 0, none⟩ = some (.slice a n c)) (h1 : w.cell? ⟨q, 1, none⟩ = some v) (hf : w.frozen? ⟨q, 1, none⟩ = false) :
    Calls Try.prog 38 #[.pointer (some ⟨q, 0, none⟩)] w fun e w' => e = .returned (.tuple #[]) ∧ w' = w.setCell ⟨q, 1, none⟩ (.int .i64 (n : Int)) := by
  go_enter Try.func38, Try.ntmps38
  go_wp2
  go_end0
  exact ⟨rfl, rfl⟩

set_option maxHeartbeats 1000000 in
theorem xcutE_any (base q size : Nat) (bs : List Int) (syn m : Nat) (w : World) (h : IsX w base q size bs syn) (hbs : bs.length ≤ 1000000000) (hbase : base ≤ w.heap.size) (hm : m ≤ bs.length) :
    Calls Try.prog 30 #[.pointer (some ⟨q, 0, none⟩), .int .i64 (m : Int)] w fun e w' => e = .returned (.int .i64 0) ∧ IsX w' base q size (bs.take m) m ∧ SPost 0 w q w' ∧ ∀ k, k ≠ q → w'.heap[k]? = w.heap[k]? := by
  have H := hide h
  obtain ⟨fa, l, c, hc, h1, h2, hf, hB, hq, ho⟩ := h
  have hn := hB.1
  have hB1 := hB.2.1
  have hB2 := hB.2.2.1
  subst hn
  have hcut := run_cutToM fa bs.length c hB1 m hm .i64 .i64
  have HP := hide (isX_set0 hc h1 h2 hf hq hbase ho (Below.refl _ _) (isB_headO hB m m hm (Nat.le_refl _) (by omega)) (fun x hx => .inl ⟨x, hx, rfl⟩))
  have HQ := hide (isX_set1 HP.out.1 m)
  have hf0 := hf 0
  have hlt : ¬ (m : Int) < 0 := by omega
  have hgt : ¬ (bs.length : Int) < (m : Int) := by omega
  have HS := hide (xsyncE_any q fa m m (.int .i64 (syn : Int)) (w.setCell ⟨q, 0, none⟩ (.slice fa m m)) (World.cell?_setCell_same _ _ _ hc) (by rw [cell_set_off _ _ _ _ _ (by decide)]; exact h1) (by simp [hf 1]))
  clear hB ho hf hB1 hB2
  go_enter Try.func30, Try.ntmps30
  go_wp2_with (first
    | (go_at_call 38; go_must (refine HS.out.mono ?_); rintro e w5 ⟨rfl, hw⟩; have hw := hw.symm; subst hw))
  go_ret
  exact ⟨rfl, HQ.out.1, HP.out.2.trans HQ.out.2, fun k hk => (Below.heap_setCell _ _ _ _ hk).trans (Below.heap_setCell _ _ _ _ hk)⟩

set_option maxHeartbeats 1000000 in
theorem xrecords_any (base q size : Nat) (bs : List Int) (syn : Nat) (w : World) (h : IsX w base q size bs syn) (hbs : bs.length ≤ 1000000000) (hbase : base ≤ w.heap.size) :
    Calls Try.prog 14 #[.pointer (some ⟨q, 0, none⟩)] w fun e w' => ∃ a n c L, e = .returned (.slice a n c) ∧ AllOf bs L ∧ IsTexts w' a n c L ∧ IsX w' base q size (flat L) (flat L).length ∧ SPost 0 w q w' := by
  have H := hide h
  obtain ⟨fa, l, c, hc, h1, h2, hf, hB, hq, ho⟩ := h
  have HF := hide (framesF_any fa l c bs w hB (by rw [← hB.1]; exact hbs))
  have HB := hide hB
  have HO := hide ho
  have HBS := hide hbs
  clear hB ho hf hbs
  go_enter Try.func14, Try.ntmps14
  go_wp2_with (first
    | (go_at_call 16; refine HF.out.mono ?_; rintro e w1 ⟨v, L, rfl, hL, hO, hb1⟩; obtain ⟨va, vn, vc, rfl⟩ := hO.form; have HL := hide hL; have HOF := hide hO; clear hL hO)
    | (go_at_call 30; go_must (refine (xcutE_any base q size bs syn _ _ (H.out.keep hb1) HBS.out (Nat.le_trans hbase hb1.size) (all_flat HL.out).1).mono ?_); rw [(all_flat HL.out).2]; rintro e w2 ⟨rfl, hd2, hp2, hk2⟩; have HD2 := hide hd2; have HP2 := hide hp2; have HK2 := hide hk2; clear hd2 hp2 hk2))
  go_ret
  have hof : OwnF w2 w.heap.size (.slice va vn vc) L fa l c bs := HOF.out.lies (fun g hg => HK2.out g (fun e => by have := (HOF.out.lt g hg).1; have := H.out.at; omega))
  have hI2 : IsBytes w2 fa l c bs := by
    have h3 := HB.out.keep hb1
    refine ⟨h3.1, h3.2.1, h3.2.2.1, h3.2.2.2.1, ?_⟩
    rcases h3.2.2.2.2 with h0 | ⟨g, off, rfl, hg, hB'⟩
    · exact .inl h0
    · have e' := HK2.out g (HO.out _ rfl).2.2
      exact .inr ⟨g, off, rfl, Nat.lt_of_lt_of_le hg HP2.out.size, fun i hi => (World.cell?_of_block (a := ⟨g, off + i, none⟩) e').trans (hB' i hi)⟩
  obtain ⟨b', n', c', e, hT⟩ := hof.is hI2
  cases e
  exact ⟨_, _, _, L, rfl, HL.out, hT, HD2.out, SPost.ahead H.out.at hb1 HP2.out⟩

end Go.Proofs.Ytajpamkdcpbabaa
