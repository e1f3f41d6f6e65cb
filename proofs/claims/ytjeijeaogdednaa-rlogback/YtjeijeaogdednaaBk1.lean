/- What was put is read again: records, in plain lists. -/
import Derived.Test.YtjeijeaogdednaaPm8
import Derived.Test.YtjeijeaogdednaaRpD
namespace Go.Proofs.Ytjeijeaogdednaa
open Go.RowKit NumMath
set_option linter.unusedVariables false
set_option maxRecDepth 100000

theorem rd_num (n most : Int) (t : List Int) (h1 : 0 ≤ n) (h2 : n ≤ 18446744073709551615) (h3 : n ≤ most) : rdN most (some (numL n ++ t)) = (n, some t) := by
  have h : numAt (numL n ++ t) = some (n.toNat, t) := scan_num n.toNat t (by omega)
  rw [rdN_fit most _ _ _ h (by omega)]
  have : ((n.toNat : Nat) : Int) = n := by omega
  rw [this]

theorem rd_int (i : Int) (t : List Int) (h1 : -9223372036854775808 ≤ i) (h2 : i ≤ 9223372036854775807) : rdI (some (numL (zigV i) ++ t)) = (i, some t) := by
  obtain ⟨z1, z2⟩ := zigV_range i h1 h2
  unfold rdI
  rw [rd_num _ _ t z1 z2 z2]
  dsimp only
  rw [zag_zig]

theorem rd_text (b t : List Int) (h : b.length ≤ 1000000) : rdT m63 (some ((numL b.length ++ b) ++ t)) = (b, some t) := by
  rw [List.append_assoc]
  have hn := rd_num (b.length : Int) m63 (b ++ t) (by omega) (by omega) (by show _ ≤ (9223372036854775807 : Int); omega)
  rw [rdT_some m63 _ (by decide) (b ++ t) (by rw [hn]) (by rw [hn]; dsimp only; rw [List.length_append]; omega), hn]
  dsimp only
  rw [Int.toNat_natCast, List.take_left, List.drop_left]

theorem mem_loop : ∀ (l : List Int) (last : Int) (t : List Int) (y : List Int × Option (List Int)), (∀ x ∈ l, 0 ≤ x ∧ x ≤ 18446744073709551615) → memLoop l.length last (some (numsL l ++ t)) = some y → y = (l, some t)
  | [], last, t, y, _, h => by
    simp [memLoop, numsL] at h
    rw [← h]
  | x :: r, last, t, y, hr, h => by
    have hx := hr x (List.mem_cons_self ..)
    have e : numsL (x :: r) ++ t = numL x ++ (numsL r ++ t) := by simp [numsL]
    have hn := rd_num x 18446744073709551615 (numsL r ++ t) hx.1 hx.2 hx.2
    rw [e, List.length_cons] at h
    by_cases hl : x ≤ last
    · rw [memLoop_no (by rw [hn]; exact hl)] at h
      cases h
    · rw [memLoop_yes (by rw [hn]; exact hl), hn] at h
      dsimp only at h
      cases hy : memLoop r.length x (some (numsL r ++ t)) with
      | none => rw [hy] at h; cases h
      | some z =>
        rw [hy] at h
        have hz := mem_loop r x t z (fun x hx => hr x (List.mem_cons_of_mem _ hx)) hy
        subst hz
        exact (Option.some.inj h).symm

theorem take9 {m : List Int} (h : m.length ≤ 9) : (setL m).take 9 = setL m := List.take_of_length_le (by have := set_length m; omega)

theorem mem_back {m l : List Int} (h9 : m.length ≤ 9) (hr : ∀ x ∈ m, 0 ≤ x ∧ x ≤ 18446744073709551615) (h : memOf (memB m) = some l) : l = setL m := by
  have hs := set_length m
  unfold memB memOf at h
  rw [take9 h9] at h
  have hn := rd_num ((setL m).length : Int) 9 (numsL (setL m)) (by omega) (by omega) (by omega)
  rw [hn] at h
  dsimp only at h
  rw [Int.toNat_natCast] at h
  cases hy : memLoop (setL m).length 0 (some (numsL (setL m))) with
  | none => rw [hy] at h; cases h
  | some y =>
    rw [hy] at h
    have hz := mem_loop (setL m) 0 [] y (fun x hx => hr x ((set_mem m x).1 hx)) (by rw [List.append_nil]; exact hy)
    subst hz
    rw [memEnd_yes rfl] at h
    exact (Option.some.inj h).symm

theorem set_set (m : List Int) : setL (setL m) = setL m := strict_uniq _ _ (set_strict _) (set_strict _) (fun x => by rw [set_mem])
theorem memB_set (m : List Int) : memB (setL m) = memB m := by unfold memB; rw [set_set]

theorem rec_hard (h : Int × Int) (L : LogS) (t v : Int) (h1 : 0 ≤ t ∧ t ≤ 18446744073709551615) (h2 : 0 ≤ v ∧ v ≤ 18446744073709551615) : recL h L (hardB t v) = (0, (t, v), L) := by
  have e : hardB t v = numL 1 ++ (numL t ++ (numL v ++ [])) := by simp [hardB, numsL]
  have r1 := rd_num 1 3 (numL t ++ (numL v ++ [])) (by decide) (by decide) (by decide)
  have r2 := rd_num t m64 (numL v ++ []) h1.1 h1.2 h1.2
  have r3 := rd_num v m64 [] h2.1 h2.2 h2.2
  unfold recL
  rw [e, r1]
  rw [if_pos rfl]
  dsimp only
  unfold hardOf
  rw [r2]
  dsimp only
  rw [r3]
  rfl

theorem ent_back (e : Ent) (hk : e.ok) (hd : e.d.length ≤ 1000000) : rdN 3 (some (entB e)) = (2, some (numL e.i ++ (numL e.t ++ (numL (zigV e.k) ++ ((numL (e.d.length : Int) ++ e.d) ++ []))))) ∧ entOf (some (numL e.i ++ (numL e.t ++ (numL (zigV e.k) ++ ((numL (e.d.length : Int) ++ e.d) ++ []))))) = (e, 0) := by
  obtain ⟨h1, h2, h3, h4⟩ := hk
  have q : entB e = numL 2 ++ (numL e.i ++ (numL e.t ++ (numL (zigV e.k) ++ ((numL (e.d.length : Int) ++ e.d) ++ [])))) := by simp [entB, numsL]
  refine ⟨by rw [q]; exact rd_num 2 3 _ (by decide) (by decide) (by decide), ?_⟩
  have r2 := rd_num e.i m64 (numL e.t ++ (numL (zigV e.k) ++ ((numL (e.d.length : Int) ++ e.d) ++ []))) h1.1 h1.2 h1.2
  have r3 := rd_num e.t m64 (numL (zigV e.k) ++ ((numL (e.d.length : Int) ++ e.d) ++ [])) h2.1 h2.2 h2.2
  have r4 := rd_int e.k ((numL (e.d.length : Int) ++ e.d) ++ []) h3 h4
  have r5 := rd_text e.d [] hd
  unfold entOf
  rw [r2]
  dsimp only
  rw [r3]
  dsimp only
  rw [r4]
  dsimp only
  rw [r5]
  rfl

theorem rec_ent (h : Int × Int) (L : LogS) (e : Ent) (hk : e.ok) (hd : e.d.length ≤ 1000000) : recL h L (entB e) = ((appL L [e]).1, h, (appL L [e]).2) := by
  obtain ⟨q1, q2⟩ := ent_back e hk hd
  unfold recL
  rw [q1]
  dsimp only
  rw [if_neg (by decide), if_pos rfl, q2]
  dsimp only
  rw [if_pos rfl]

theorem rec_snap (h : Int × Int) (L : LogS) (s : Snp) (hi : 0 ≤ s.i ∧ s.i ≤ 18446744073709551615) (ht : 0 ≤ s.t ∧ s.t ≤ 18446744073709551615) (hm : ∀ x ∈ s.m, 0 ≤ x ∧ x ≤ 18446744073709551615) (hd : s.d.length ≤ 1000000) (hM : memOf (memB s.m) = some (setL s.m)) : recL h L (snapB s) = (0, h, ⟨capS ⟨s.i, s.t, setL s.m, s.d⟩, restL L ⟨s.i, s.t, setL s.m, s.d⟩, 0, false⟩) := by
  have q : snapB s = numL 3 ++ (numL s.i ++ (numL s.t ++ ((numL ((memB s.m).length : Int) ++ memB s.m) ++ ((numL (s.d.length : Int) ++ s.d) ++ [])))) := by simp [snapB, numsL]
  have hl := memB_length hm
  have r1 := rd_num 3 3 (numL s.i ++ (numL s.t ++ ((numL ((memB s.m).length : Int) ++ memB s.m) ++ ((numL (s.d.length : Int) ++ s.d) ++ [])))) (by decide) (by decide) (by decide)
  have r2 := rd_num s.i m64 (numL s.t ++ ((numL ((memB s.m).length : Int) ++ memB s.m) ++ ((numL (s.d.length : Int) ++ s.d) ++ []))) hi.1 hi.2 hi.2
  have r3 := rd_num s.t m64 ((numL ((memB s.m).length : Int) ++ memB s.m) ++ ((numL (s.d.length : Int) ++ s.d) ++ [])) ht.1 ht.2 ht.2
  have r4 := rd_text (memB s.m) ((numL (s.d.length : Int) ++ s.d) ++ []) (by omega)
  have r5 := rd_text s.d [] hd
  have hs : snapOf (some (numL s.i ++ (numL s.t ++ ((numL ((memB s.m).length : Int) ++ memB s.m) ++ ((numL (s.d.length : Int) ++ s.d) ++ []))))) = some ⟨s.i, s.t, setL s.m, s.d⟩ := by
    unfold snapOf
    rw [r2]
    dsimp only
    rw [r3]
    dsimp only
    rw [r4]
    dsimp only
    rw [hM, r5]
    rfl
  unfold recL
  rw [q, r1]
  dsimp only
  rw [if_neg (by decide), if_neg (by decide), if_pos rfl, hs]

theorem rest_log0 (s : Snp) (hi : 0 ≤ s.i) : restL log0 s = [] := by
  have hc := capI_rng hi
  unfold restL
  split
  · exact entsL_no (.inr (.inl (by show (0 : Int) + ((0 : Nat) : Int) < _; omega)))
  · rfl

theorem rep_ents : ∀ (es : List Ent) (h : Int × Int) (L : LogS), (∀ j, j < es.length → (es.getD j ent0).i = L.s.i + L.es.length + 1 + j) → (∀ e ∈ es, e.ok ∧ e.d.length ≤ 1000000) → ∃ L2, repL h L (es.map entB) = (0, h, L2) ∧ L2.s = L.s ∧ L2.es = L.es ++ es
  | [], h, L, _, _ => ⟨L, rfl, rfl, by simp⟩
  | e :: r, h, L, hi, ho => by
    have h0 : e.i = L.s.i + L.es.length + 1 := by have := hi 0 (by simp); simpa using this
    have hF : Fits L [e] := ⟨by show L.s.i + 1 ≤ e.i; omega, by show e.i ≤ _; omega, fun j hj => by
      have : j = 0 := by simpa using hj
      subst this
      show e.i = e.i + ((0 : Nat) : Int)
      omega⟩
    have hk := ho e (List.mem_cons_self ..)
    have ha := appL_yes (L := L) (es := [e]) (by simp) hF
    have ht : (([e].getD 0 ent0).i - (L.s.i + 1)).toNat = L.es.length := by show (e.i - (L.s.i + 1)).toNat = _; omega
    rw [ht, List.take_length] at ha
    obtain ⟨L2, q1, q2, q3⟩ := rep_ents r h (appL L [e]).2 (fun j hj => by
      have h2 := hi (j + 1) (by rw [List.length_cons]; omega)
      rw [List.getD_cons_succ] at h2
      rw [ha]
      dsimp only
      rw [h2, List.length_append, List.length_singleton]
      omega) (fun x hx => ho x (List.mem_cons_of_mem _ hx))
    refine ⟨L2, ?_, ?_, ?_⟩
    · rw [List.map_cons, repL, rec_ent h L e hk.1 hk.2]
      dsimp only
      rw [if_pos (by rw [ha])]
      exact q1
    · rw [q2, ha]
    · rw [q3, ha]
      simp

/-- all of it -/
theorem rep_back (t v : Int) (s : Snp) (es : List Ent) (h1 : 0 ≤ t ∧ t ≤ 18446744073709551615) (h2 : 0 ≤ v ∧ v ≤ 18446744073709551615) (hi : 0 ≤ s.i ∧ s.i ≤ 18446744073709551615) (ht : 0 ≤ s.t ∧ s.t ≤ 18446744073709551615) (hm : ∀ x ∈ s.m, 0 ≤ x ∧ x ≤ 18446744073709551615) (hd : s.d.length ≤ 1000000) (hM : memOf (memB s.m) = some (setL s.m))
    (he : ∀ j, j < es.length → (es.getD j ent0).i = capI s.i + 1 + j) (ho : ∀ e ∈ es, e.ok ∧ e.d.length ≤ 1000000) :
    ∃ L2, repL (0, 0) log0 (snapB s :: hardB t v :: es.map entB) = (0, (t, v), L2) ∧ L2.s = ⟨capI s.i, s.t, setL s.m, s.d⟩ ∧ L2.es = es := by
  obtain ⟨L2, q1, q2, q3⟩ := rep_ents es (t, v) ⟨⟨capI s.i, s.t, setL s.m, s.d⟩, [], 0, false⟩ (fun j hj => by rw [he j hj]; show _ = capI s.i + ((0 : Nat) : Int) + 1 + j; omega) ho
  refine ⟨L2, ?_, q2, by rw [q3]; rfl⟩
  rw [repL, rec_snap (0, 0) log0 s hi ht hm hd hM]
  dsimp only
  rw [if_pos rfl, repL, rec_hard _ _ t v h1 h2]
  dsimp only
  rw [if_pos rfl, rest_log0 ⟨s.i, s.t, setL s.m, s.d⟩ hi.1]
  exact q1

end Go.Proofs.Ytjeijeaogdednaa
