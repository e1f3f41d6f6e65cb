/- What was put is read again: records, in plain lists. For the law that what is put comes back: lists of texts that grow, entries whole. -/
import Derived.Test.YtodmieehdleohaaGreatPmC
import Derived.Test.YtodmieehdleohaaGreatRpD
import Derived.Test.YtodmieehdleohaaGreatOpen8
namespace Go.Proofs.YtodmieehdleohaaGreat
open Go.RowKit NumMath
set_option linter.unusedVariables false
set_option maxRecDepth 100000

theorem rd_num (n most : Int) (t : List Int) (h1 : 0 ≤ n) (h2 : n ≤ 18446744073709551615) (h3 : n ≤ most) : rdN most (some (numL n ++ t)) = (n, some t) := by
  have h : numAt (numL n ++ t) = some (n.toNat, t) := scan_num n.toNat t (by omega)
  rw [rdN_fit most _ _ _ h (by omega)]
  have : ((n.toNat : Nat) : Int) = n := by omega
  rw [this]

theorem rd_int (i : Int) (t : List Int) (h1 : -9223372036854775808 ≤ i) (h2 : i ≤ 9223372036854775807) : rdI (some (numL (zigV i) ++ t)) = (i, some t) := by
  obtain ⟨z1, z2⟩ := zigV_range i h1 h2
  unfold rdI
  rw [rd_num _ _ t z1 z2 z2]
  dsimp only
  rw [zag_zig]

theorem rd_text (b t : List Int) (h : b.length ≤ 1000000) : rdT m63 (some ((numL b.length ++ b) ++ t)) = (b, some t) := by
  rw [List.append_assoc]
  have hn := rd_num (b.length : Int) m63 (b ++ t) (by omega) (by omega) (by show _ ≤ (9223372036854775807 : Int); omega)
  rw [rdT_some m63 _ (by decide) (b ++ t) (by rw [hn]) (by rw [hn]; dsimp only; rw [List.length_append]; omega), hn]
  dsimp only
  rw [Int.toNat_natCast, List.take_left, List.drop_left]

theorem mem_loop : ∀ (l : List Int) (last : Int) (t : List Int) (y : List Int × Option (List Int)), (∀ x ∈ l, 0 ≤ x ∧ x ≤ 18446744073709551615) → memLoop l.length last (some (numsL l ++ t)) = some y → y = (l, some t)
  | [], last, t, y, _, h => by
    simp [memLoop, numsL] at h
    rw [← h]
  | x :: r, last, t, y, hr, h => by
    have hx := hr x (List.mem_cons_self ..)
    have e : numsL (x :: r) ++ t = numL x ++ (numsL r ++ t) := by simp [numsL]
    have hn := rd_num x 18446744073709551615 (numsL r ++ t) hx.1 hx.2 hx.2
    rw [e, List.length_cons] at h
    by_cases hl : x ≤ last
    · rw [memLoop_no (by rw [hn]; exact hl)] at h
      cases h
    · rw [memLoop_yes (by rw [hn]; exact hl), hn] at h
      dsimp only at h
      cases hy : memLoop r.length x (some (numsL r ++ t)) with
      | none => rw [hy] at h; cases h
      | some z =>
        rw [hy] at h
        have hz := mem_loop r x t z (fun x hx => hr x (List.mem_cons_of_mem _ hx)) hy
        subst hz
        exact (Option.some.inj h).symm

theorem take9 {m : List Int} (h : m.length ≤ 9) : (setL m).take 9 = setL m := List.take_of_length_le (by have := set_length m; omega)

theorem mem_back {m l : List Int} (h9 : m.length ≤ 9) (hr : ∀ x ∈ m, 0 ≤ x ∧ x ≤ 18446744073709551615) (h : memOf (memB m) = some l) : l = setL m := by
  have hs := set_length m
  unfold memB memOf at h
  rw [take9 h9] at h
  have hn := rd_num ((setL m).length : Int) 9 (numsL (setL m)) (by omega) (by omega) (by omega)
  rw [hn] at h
  dsimp only at h
  rw [Int.toNat_natCast] at h
  cases hy : memLoop (setL m).length 0 (some (numsL (setL m))) with
  | none => rw [hy] at h; cases h
  | some y =>
    rw [hy] at h
    have hz := mem_loop (setL m) 0 [] y (fun x hx => hr x ((set_mem m x).1 hx)) (by rw [List.append_nil]; exact hy)
    subst hz
    rw [memEnd_yes rfl] at h
    exact (Option.some.inj h).symm

theorem set_set (m : List Int) : setL (setL m) = setL m := strict_uniq _ _ (set_strict _) (set_strict _) (fun x => by rw [set_mem])
theorem memB_set (m : List Int) : memB (setL m) = memB m := by unfold memB; rw [set_set]

theorem rec_hard (h : Int × Int) (L : LogS) (t v : Int) (h1 : 0 ≤ t ∧ t ≤ 18446744073709551615) (h2 : 0 ≤ v ∧ v ≤ 18446744073709551615) : recL h L (hardB t v) = (0, (t, v), L) := by
  have e : hardB t v = numL 1 ++ (numL t ++ (numL v ++ [])) := by simp [hardB, numsL]
  have r1 := rd_num 1 3 (numL t ++ (numL v ++ [])) (by decide) (by decide) (by decide)
  have r2 := rd_num t m64 (numL v ++ []) h1.1 h1.2 h1.2
  have r3 := rd_num v m64 [] h2.1 h2.2 h2.2
  unfold recL
  rw [e, r1]
  rw [if_pos rfl]
  dsimp only
  unfold hardOf
  rw [r2]
  dsimp only
  rw [r3]
  rfl

theorem ent_back (e : Ent) (hk : e.ok) (hd : e.d.length ≤ 1000000) : rdN 3 (some (entB e)) = (2, some (numL e.i ++ (numL e.t ++ (numL (zigV e.k) ++ ((numL (e.d.length : Int) ++ e.d) ++ []))))) ∧ entOf (some (numL e.i ++ (numL e.t ++ (numL (zigV e.k) ++ ((numL (e.d.length : Int) ++ e.d) ++ []))))) = (e, 0) := by
  obtain ⟨h1, h2, h3, h4⟩ := hk
  have q : entB e = numL 2 ++ (numL e.i ++ (numL e.t ++ (numL (zigV e.k) ++ ((numL (e.d.length : Int) ++ e.d) ++ [])))) := by simp [entB, numsL]
  refine ⟨by rw [q]; exact rd_num 2 3 _ (by decide) (by decide) (by decide), ?_⟩
  have r2 := rd_num e.i m64 (numL e.t ++ (numL (zigV e.k) ++ ((numL (e.d.length : Int) ++ e.d) ++ []))) h1.1 h1.2 h1.2
  have r3 := rd_num e.t m64 (numL (zigV e.k) ++ ((numL (e.d.length : Int) ++ e.d) ++ [])) h2.1 h2.2 h2.2
  have r4 := rd_int e.k ((numL (e.d.length : Int) ++ e.d) ++ []) h3 h4
  have r5 := rd_text e.d [] hd
  unfold entOf
  rw [r2]
  dsimp only
  rw [r3]
  dsimp only
  rw [r4]
  dsimp only
  rw [r5]
  rfl

theorem rec_ent (h : Int × Int) (L : LogS) (e : Ent) (hk : e.ok) (hd : e.d.length ≤ 1000000) : recL h L (entB e) = ((appL L [e]).1, h, (appL L [e]).2) := by
  obtain ⟨q1, q2⟩ := ent_back e hk hd
  unfold recL
  rw [q1]
  dsimp only
  rw [if_neg (by decide), if_pos rfl, q2]
  dsimp only
  rw [if_pos rfl]

theorem rec_snap (h : Int × Int) (L : LogS) (s : Snp) (hi : 0 ≤ s.i ∧ s.i ≤ 18446744073709551615) (ht : 0 ≤ s.t ∧ s.t ≤ 18446744073709551615) (hm : ∀ x ∈ s.m, 0 ≤ x ∧ x ≤ 18446744073709551615) (hd : s.d.length ≤ 1000000) (hM : memOf (memB s.m) = some (setL s.m)) : recL h L (snapB s) = (0, h, ⟨capS ⟨s.i, s.t, setL s.m, s.d⟩, restL L ⟨s.i, s.t, setL s.m, s.d⟩, 0, false⟩) := by
  have q : snapB s = numL 3 ++ (numL s.i ++ (numL s.t ++ ((numL ((memB s.m).length : Int) ++ memB s.m) ++ ((numL (s.d.length : Int) ++ s.d) ++ [])))) := by simp [snapB, numsL]
  have hl := memB_length hm
  have r1 := rd_num 3 3 (numL s.i ++ (numL s.t ++ ((numL ((memB s.m).length : Int) ++ memB s.m) ++ ((numL (s.d.length : Int) ++ s.d) ++ [])))) (by decide) (by decide) (by decide)
  have r2 := rd_num s.i m64 (numL s.t ++ ((numL ((memB s.m).length : Int) ++ memB s.m) ++ ((numL (s.d.length : Int) ++ s.d) ++ []))) hi.1 hi.2 hi.2
  have r3 := rd_num s.t m64 ((numL ((memB s.m).length : Int) ++ memB s.m) ++ ((numL (s.d.length : Int) ++ s.d) ++ [])) ht.1 ht.2 ht.2
  have r4 := rd_text (memB s.m) ((numL (s.d.length : Int) ++ s.d) ++ []) (by omega)
  have r5 := rd_text s.d [] hd
  have hs : snapOf (some (numL s.i ++ (numL s.t ++ ((numL ((memB s.m).length : Int) ++ memB s.m) ++ ((numL (s.d.length : Int) ++ s.d) ++ []))))) = some ⟨s.i, s.t, setL s.m, s.d⟩ := by
    unfold snapOf
    rw [r2]
    dsimp only
    rw [r3]
    dsimp only
    rw [r4]
    dsimp only
    rw [hM, r5]
    rfl
  unfold recL
  rw [q, r1]
  dsimp only
  rw [if_neg (by decide), if_neg (by decide), if_pos rfl, hs]

theorem rest_log0 (s : Snp) (hi : 0 ≤ s.i) : restL log0 s = [] := by
  have hc := capI_rng hi
  unfold restL
  split
  · exact entsL_no (.inr (.inl (by show (0 : Int) + ((0 : Nat) : Int) < _; omega)))
  · rfl

theorem rep_ents : ∀ (es : List Ent) (h : Int × Int) (L : LogS), (∀ j, j < es.length → (es.getD j ent0).i = L.s.i + L.es.length + 1 + j) → (∀ e ∈ es, e.ok ∧ e.d.length ≤ 1000000) → ∃ L2, repL h L (es.map entB) = (0, h, L2) ∧ L2.s = L.s ∧ L2.es = L.es ++ es
  | [], h, L, _, _ => ⟨L, rfl, rfl, by simp⟩
  | e :: r, h, L, hi, ho => by
    have h0 : e.i = L.s.i + L.es.length + 1 := by have := hi 0 (by simp); simpa using this
    have hF : Fits L [e] := ⟨by show L.s.i + 1 ≤ e.i; omega, by show e.i ≤ _; omega, fun j hj => by
      have : j = 0 := by simpa using hj
      subst this
      show e.i = e.i + ((0 : Nat) : Int)
      omega⟩
    have hk := ho e (List.mem_cons_self ..)
    have ha := appL_yes (L := L) (es := [e]) (by simp) hF
    have ht : (([e].getD 0 ent0).i - (L.s.i + 1)).toNat = L.es.length := by show (e.i - (L.s.i + 1)).toNat = _; omega
    rw [ht, List.take_length] at ha
    obtain ⟨L2, q1, q2, q3⟩ := rep_ents r h (appL L [e]).2 (fun j hj => by
      have h2 := hi (j + 1) (by rw [List.length_cons]; omega)
      rw [List.getD_cons_succ] at h2
      rw [ha]
      dsimp only
      rw [h2, List.length_append, List.length_singleton]
      omega) (fun x hx => ho x (List.mem_cons_of_mem _ hx))
    refine ⟨L2, ?_, ?_, ?_⟩
    · rw [List.map_cons, repL, rec_ent h L e hk.1 hk.2]
      dsimp only
      rw [if_pos (by rw [ha])]
      exact q1
    · rw [q2, ha]
    · rw [q3, ha]
      simp

/-- all of it -/
theorem rep_back (t v : Int) (s : Snp) (es : List Ent) (h1 : 0 ≤ t ∧ t ≤ 18446744073709551615) (h2 : 0 ≤ v ∧ v ≤ 18446744073709551615) (hi : 0 ≤ s.i ∧ s.i ≤ 18446744073709551615) (ht : 0 ≤ s.t ∧ s.t ≤ 18446744073709551615) (hm : ∀ x ∈ s.m, 0 ≤ x ∧ x ≤ 18446744073709551615) (hd : s.d.length ≤ 1000000) (hM : memOf (memB s.m) = some (setL s.m))
    (he : ∀ j, j < es.length → (es.getD j ent0).i = capI s.i + 1 + j) (ho : ∀ e ∈ es, e.ok ∧ e.d.length ≤ 1000000) :
    ∃ L2, repL (0, 0) log0 (snapB s :: hardB t v :: es.map entB) = (0, (t, v), L2) ∧ L2.s = ⟨capI s.i, s.t, setL s.m, s.d⟩ ∧ L2.es = es := by
  obtain ⟨L2, q1, q2, q3⟩ := rep_ents es (t, v) ⟨⟨capI s.i, s.t, setL s.m, s.d⟩, [], 0, false⟩ (fun j hj => by rw [he j hj]; show _ = capI s.i + ((0 : Nat) : Int) + 1 + j; omega) ho
  refine ⟨L2, ?_, q2, by rw [q3]; rfl⟩
  rw [repL, rec_snap (0, 0) log0 s hi ht hm hd hM]
  dsimp only
  rw [if_pos rfl, repL, rec_hard _ _ t v h1 h2]
  dsimp only
  rw [if_pos rfl, rest_log0 ⟨s.i, s.t, setL s.m, s.d⟩ hi.1]
  exact q1

end Go.Proofs.YtodmieehdleohaaGreat

namespace Go.Proofs.YtodmieehdleohaaGreat
open Go.RowKit NumMath
set_option linter.unusedVariables false
set_option maxRecDepth 100000

/-- a text behind a list of texts -/
theorem wp_appT4 {ops : Array Oper} {rest : List Oper} {o : Oper} {a : Act} {Q : Exit → Act → World → Prop} (w : World) (hgd : o.guard = none) (s x : Operand)
    (ho : o.op = .call { callee := .builtin .append, args := #[s, x], argTypes := #[66, 66] }) (base : Nat) (v : Value) (ts : List (List Int)) (hs : a.eval s = v) (hown : OwnT w base v ts)
    (g : Nat) (b : Option Addr) (n c : Nat) (t : List Int) (hx : a.eval x = .slice (some ⟨g, 0, none⟩) 1 1) (hc : w.cell? ⟨g, 0, none⟩ = some (.slice b n c)) (hI : IsBytes w b n c t) (hoff : n = 0 ∨ ∀ y, b = some y → v.ownBlock ≠ some y.block)
    (hbig : ts.length ≤ 1000000000) (hbase : base ≤ w.heap.size)
    (h : ∀ v' w', OwnT w' base v' (ts ++ [t]) → w.grownBy w' v.ownBlock → (v'.ownBlock = v.ownBlock ∨ v'.ownBlock = some w.heap.size) → wpList Tryz.prog ops Q rest (a.put o.dst v') w') : wpList Tryz.prog ops Q (o :: rest) a w := by
  obtain ⟨i0, hi, hz0, hz1, hz2⟩ := info_parts infoSl
  obtain ⟨es, h1, h2, h3⟩ := hown
  have hnews : ∀ j u, ([Value.slice b n c])[j]? = some u → w.cell? ((⟨g, 0, none⟩ : Addr).add j) = some u := by
    intro j u hu
    have h2 : (⟨g, 0, none⟩ : Addr).add j = ⟨g, j, none⟩ := by unfold Addr.add; split <;> simp_all
    rw [h2]
    match j, hu with
    | 0, hu => simp at hu; rw [← hu]; exact hc
  refine wpList_append_own_at w hgd s x 66 ho base 26 i0 (.slice none 0 0) 1 24 Tryz.underlying66 hi hz0 hz1 hz2 rfl (by decide) v ts.length es hs h1 ⟨g, 0, none⟩ 1 1 [.slice b n c] hx rfl hnews (by intro u hu; rw [List.mem_singleton.1 hu]; rfl) (by unfold maxLen; omega) (by omega) hbase ?_
  intro v' w' k1 k2 k3 k4
  refine h v' w' ?_ k2 k4
  have hel : ∀ u t', ElemT w v.ownBlock u t' → ElemT w' v'.ownBlock u t' := by
    rintro u t' ⟨b', n', c', rfl, e2, e3⟩
    refine ⟨b', n', c', rfl, e2.lies (Keeps.ofGrown k2) (e3.imp id (fun q y hy => q y hy)), ?_⟩
    rcases e3 with e3 | e3
    · exact .inl e3
    · by_cases hn0 : n' = 0
      · exact .inl hn0
      · right
        intro y hy
        rcases k4 with k4 | k4
        · rw [k4]; exact e3 y hy
        · rw [k4]
          rcases e2.2.2.2.2 with q | ⟨g', off', ha, hg', _⟩
          · exact absurd q hn0
          · rw [hy] at ha
            cases ha
            intro q
            have := Option.some.inj q
            dsimp only at this
            omega
  refine ⟨es ++ [.slice b n c], by rw [List.length_append]; exact k1, by simp [h2], ?_⟩
  intro i hi
  rw [List.length_append, List.length_singleton] at hi
  by_cases hlt : i < ts.length
  · obtain ⟨u, e1, e2⟩ := h3 i hlt
    refine ⟨u, by rw [List.getElem?_append_left (by omega)]; exact e1, ?_⟩
    have e : (ts ++ [t]).getD i [] = ts.getD i [] := by simp [List.getD, List.getElem?_append_left hlt]
    rw [e]
    exact hel u _ e2
  · have hie : i = ts.length := by omega
    subst hie
    refine ⟨.slice b n c, by rw [← h2]; simp, ?_⟩
    have e : (ts ++ [t]).getD ts.length [] = t := by simp [List.getD]
    rw [e]
    exact hel _ t ⟨b, n, c, rfl, hI, hoff⟩

/-- two texts in a list that was just made -/
theorem ownT_two {w : World} {base b1 b2 : Nat} {r1 r2 : Value} {t1 t2 : List Int} (h1 : OwnB w b1 r1 t1) (h2 : OwnB w b2 r2 t2) (q1 : ∀ c ∈ t1, 0 ≤ c ∧ c < 256) (q2 : ∀ c ∈ t2, 0 ≤ c ∧ c < 256) (hb : base ≤ w.heap.size) (g : Nat) (hg : w.heap.size = g) :
    OwnT (w.alloc (.cells #[r1, r2] 26)) base (.slice (some ⟨g, 0, none⟩) 2 2) [t1, t2] := by
  subst hg
  refine ⟨[r1, r2], World.ownsRow_lit w #[r1, r2] 2 hb (by unfold maxLen; omega) rfl, rfl, ?_⟩
  have hel : ∀ (r : Value) (t : List Int) (b : Nat), OwnB w b r t → (∀ c ∈ t, 0 ≤ c ∧ c < 256) → ElemT (w.alloc (.cells #[r1, r2] 26)) (Value.slice (some ⟨w.heap.size, 0, none⟩) 2 2).ownBlock r t := by
    intro r t b h q
    have hlt := h.lt
    obtain ⟨a, c, rfl, hI⟩ := h.is q
    refine ⟨a, t.length, c, rfl, hI.keep (new_below _ _), ?_⟩
    rcases hI.2.2.2.2 with h0 | ⟨g', off', ha, hg', _⟩
    · exact .inl h0
    · right
      intro y hy e
      rw [ha] at hy
      cases hy
      have : w.heap.size = g' := Option.some.inj e
      omega
  intro i hi
  match i, hi with
  | 0, _ => exact ⟨r1, rfl, hel r1 t1 b1 h1 q1⟩
  | 1, _ => exact ⟨r2, rfl, hel r2 t2 b2 h2 q2⟩

theorem keeps_below {B g : Nat} {w w1 w2 : World} (h : Below B w w1) (hk : Keeps (fun k => k = g) w1 w2) (hB : B ≤ g) (hB1 : B ≤ w1.heap.size) : Below B w w2 :=
  ⟨hk.os.trans h.os, hk.tape.trans h.tape, hk.output.trans h.output, Nat.le_trans h.size hk.size, fun k hkB => (hk.block k (by omega) (by omega)).trans (h.block k hkB)⟩

theorem keeps_on {M : Nat → Prop} {w w1 w2 : World} (h : Keeps M w w1) (hb : Below w1.heap.size w1 w2) : Keeps M w w2 :=
  ⟨hb.os.trans h.os, hb.tape.trans h.tape, hb.output.trans h.output, Nat.le_trans h.size hb.size, fun k hk hn => (hb.block k (Nat.lt_of_lt_of_le hk h.size)).trans (h.block k hk hn)⟩

/-- a block of its own, or one behind: what was there but for the one is kept -/
theorem keeps_grown {g : Nat} {w w1 w2 : World} {k : Option Nat} (h : Keeps (fun k => k = g) w w1) (hg : w1.grownBy w2 k) (hk : ∀ j, k = some j → j = g ∨ w.heap.size ≤ j) : Keeps (fun k => k = g) w w2 := by
  have h2 := Keeps.ofGrown hg
  refine ⟨h2.os.trans h.os, h2.tape.trans h.tape, h2.output.trans h.output, Nat.le_trans h.size h2.size, fun j hj hn => (h2.block j (Nat.lt_of_lt_of_le hj h.size) (fun e => ?_)).trans (h.block j hj hn)⟩
  rcases hk j e with q | q
  · exact hn q
  · omega

/-- all entries of a log -/
theorem ents_all (X : Nat → Prop) (base p : Nat) (L : LogS) (w : World) (h : IsL X w base p L) (hG : L.Good) (hn : L.es.length ≤ 100) (x : Int) (hx : x = L.s.i + 1) :
    Calls Tryz.prog 32 #[.pointer (some ⟨p, 0, none⟩), .int .u64 x, .int .i64 100] w fun e w' => ∃ b n c ms, e = .returned (.slice b n c) ∧ n = L.es.length ∧ ms.map MEnt.e = L.es ∧ IsMs (fun k => k < w.heap.size) w' b n c ms ∧ (n = 0 ∨ ∀ y, b = some y → w.heap.size ≤ y.block) ∧ Below w.heap.size w w' := by
  subst hx
  refine (ents_any X base p L (L.s.i + 1) 100 w h hG (by have := hG.i0; omega) (by decide) (by decide)).mono ?_
  rintro e w' ⟨b, n, c, ms, rfl, hE, hr, ho, hb⟩
  rw [entsL_all (by omega) (by omega)] at hE
  refine ⟨b, n, c, ms, rfl, by rw [← hE, List.length_map, hr.len.1], hE, (hr.is (fun m hm => (ho m hm).more (fun k hk => .inl (.inl hk)))), ?_, hb⟩
  by_cases h0 : n = 0
  · exact .inl h0
  · right
    intro y hy
    subst hy
    have := hr.lt y.block (by rfl)
    exact this.1

/-- what Replay answers to what was put -/
theorem back_any (a : Option Addr) (len cap : Nat) (t v : Int) (s : Snp) (es : List Ent) (w : World) (h : IsTexts w a len cap (snapB s :: hardB t v :: es.map entB)) (hn : es.length ≤ 12) (h1 : 0 ≤ t ∧ t ≤ 18446744073709551615) (h2 : 0 ≤ v ∧ v ≤ 18446744073709551615) (hi : 0 ≤ s.i ∧ s.i ≤ 18446744073709551615) (ht : 0 ≤ s.t ∧ s.t ≤ 18446744073709551615) (hm : ∀ x ∈ s.m, 0 ≤ x ∧ x ≤ 18446744073709551615) (hd : s.d.length ≤ 200) (hM : memOf (memB s.m) = some (setL s.m))
    (he : ∀ j, j < es.length → (es.getD j ent0).i = capI s.i + 1 + j) (ho : ∀ e ∈ es, e.ok ∧ e.d.length ≤ 100) :
    Calls Tryz.prog 142 #[.slice a len cap] w fun e w' => ∃ p, e = .returned (.tuple #[.agg #[.int .u64 t, .int .u64 v], .pointer (some ⟨p, 0, none⟩), .int .i64 0]) ∧ IsL (fun k => SB 4 w' p k) w' w.heap.size p ⟨⟨capI s.i, s.t, setL s.m, s.d⟩, es, 0, false⟩ ∧ Below w.heap.size w w' := by
  obtain ⟨L2, q1, q2, q3⟩ := rep_back t v s es h1 h2 hi ht hm (by omega) hM he (fun e h => ⟨(ho e h).1, by have := (ho e h).2; omega⟩)
  have hl := h.1
  simp only [List.length_cons, List.length_map] at hl
  refine (replayAll_any a len cap _ w h (by omega) ?_).mono ?_
  · intro b hb
    rcases List.mem_cons.1 hb with rfl | hb
    · have := snapB_length s hi ht hm (by omega)
      omega
    · rcases List.mem_cons.1 hb with rfl | hb
      · have := numsL_length [1, t, v] (rng3 ⟨by decide, by decide⟩ h1 h2)
        unfold hardB
        simp at this
        omega
      · obtain ⟨e, he', rfl⟩ := List.mem_map.1 hb
        have := entB_length e (ho e he').1 (by have := (ho e he').2; omega)
        have := (ho e he').2
        omega
  · rw [q1]
    rintro e w' ⟨hb, ⟨h0, _⟩ | ⟨_, p, he, hL⟩⟩
    · exact absurd rfl h0
    · refine ⟨p, he, ?_, hb⟩
      have e2 : L2.clean = ⟨⟨capI s.i, s.t, setL s.m, s.d⟩, es, 0, false⟩ := by unfold LogS.clean; rw [q2, q3]
      dsimp only at hL
      rw [e2] at hL
      exact hL

theorem snapB_range (s : Snp) (hd : ∀ c ∈ s.d, 0 ≤ c ∧ c < 256) : ∀ c ∈ snapB s, 0 ≤ c ∧ c < 256 := fun c hc => by
  unfold snapB memB at hc
  simp only [List.mem_append] at hc
  rcases hc with (h | h | h | h) | h | h
  · exact numsL_range _ c h
  · exact numL_range _ c h
  · exact numL_range _ c h
  · exact numsL_range _ c h
  · exact numL_range _ c h
  · exact hd c h

theorem entB_range (e : Ent) (hd : ∀ c ∈ e.d, 0 ≤ c ∧ c < 256) : ∀ c ∈ entB e, 0 ≤ c ∧ c < 256 := fun c hc => by
  unfold entB at hc
  simp only [List.mem_append] at hc
  rcases hc with (h | h) | h | h
  · exact numsL_range _ c h
  · exact numL_range _ c h
  · exact numL_range _ c h
  · exact hd c h

theorem good_back {i t : Int} {m d : List Int} {es : List Ent} {L1 : LogS} (hG : L1.Good) (hs : L1.s = ⟨i, t, m, d⟩) (he : L1.es = es) : LogS.Good ⟨⟨i, t, setL m, d⟩, es, 0, false⟩ := by
  have h0 := hG.i0; have h1 := hG.i1; have h2 := hG.t0; have h3 := hG.t1; have h4 := hG.m0; have h5 := hG.m1; have h6 := hG.d1; have h7 := hG.n; have h8 := hG.at_; have h9 := hG.ok
  rw [hs] at h0 h1 h2 h3 h4 h5 h6 h8
  rw [he] at h7 h8 h9
  exact ⟨h0, h1, h2, h3, fun c hc => h4 c ((set_mem m c).1 hc), Nat.le_trans (set_length m) h5, h6, h7, h8, h9, by show (0 : Int) ≤ 0; decide, by show (0 : Int) ≤ 18446744073709551615; decide⟩

end Go.Proofs.YtodmieehdleohaaGreat
