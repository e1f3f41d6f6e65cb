/- For the law that what is put comes back: lists of texts that grow, entries whole. -/
import Derived.Test.YtjeijeaogdednaaBk1
import Derived.Test.YtjeijeaogdednaaOpen8
namespace Go.Proofs.Ytjeijeaogdednaa
open Go.RowKit NumMath
set_option linter.unusedVariables false
set_option maxRecDepth 100000

/-- a text behind a list of texts -/
theorem wp_appT4 {ops : Array Oper} {rest : List Oper} {o : Oper} {a : Act} {Q : Exit → Act → World → Prop} (w : World) (hgd : o.guard = none) (s x : Operand)
    (ho : o.op = .call { callee := .builtin .append, args := #[s, x], argTypes := #[61, 61] }) (base : Nat) (v : Value) (ts : List (List Int)) (hs : a.eval s = v) (hown : OwnT w base v ts)
    (g : Nat) (b : Option Addr) (n c : Nat) (t : List Int) (hx : a.eval x = .slice (some ⟨g, 0, none⟩) 1 1) (hc : w.cell? ⟨g, 0, none⟩ = some (.slice b n c)) (hI : IsBytes w b n c t) (hoff : n = 0 ∨ ∀ y, b = some y → v.ownBlock ≠ some y.block)
    (hbig : ts.length ≤ 1000000000) (hbase : base ≤ w.heap.size)
    (h : ∀ v' w', OwnT w' base v' (ts ++ [t]) → w.grownBy w' v.ownBlock → (v'.ownBlock = v.ownBlock ∨ v'.ownBlock = some w.heap.size) → wpList Try.prog ops Q rest (a.put o.dst v') w') : wpList Try.prog ops Q (o :: rest) a w := by
  obtain ⟨i0, hi, hz0, hz1, hz2⟩ := info_parts infoSl
  obtain ⟨es, h1, h2, h3⟩ := hown
  have hnews : ∀ j u, ([Value.slice b n c])[j]? = some u → w.cell? ((⟨g, 0, none⟩ : Addr).add j) = some u := by
    intro j u hu
    have h2 : (⟨g, 0, none⟩ : Addr).add j = ⟨g, j, none⟩ := by unfold Addr.add; split <;> simp_all
    rw [h2]
    match j, hu with
    | 0, hu => simp at hu; rw [← hu]; exact hc
  refine wpList_append_own_at w hgd s x 61 ho base 24 i0 (.slice none 0 0) 1 24 Try.underlying61 hi hz0 hz1 hz2 rfl (by decide) v ts.length es hs h1 ⟨g, 0, none⟩ 1 1 [.slice b n c] hx rfl hnews (by intro u hu; rw [List.mem_singleton.1 hu]; rfl) (by unfold maxLen; omega) (by omega) hbase ?_
  intro v' w' k1 k2 k3 k4
  refine h v' w' ?_ k2 k4
  have hel : ∀ u t', ElemT w v.ownBlock u t' → ElemT w' v'.ownBlock u t' := by
    rintro u t' ⟨b', n', c', rfl, e2, e3⟩
    refine ⟨b', n', c', rfl, e2.lies (Keeps.ofGrown k2) (e3.imp id (fun q y hy => q y hy)), ?_⟩
    rcases e3 with e3 | e3
    · exact .inl e3
    · by_cases hn0 : n' = 0
      · exact .inl hn0
      · right
        intro y hy
        rcases k4 with k4 | k4
        · rw [k4]; exact e3 y hy
        · rw [k4]
          rcases e2.2.2.2.2 with q | ⟨g', off', ha, hg', _⟩
          · exact absurd q hn0
          · rw [hy] at ha
            cases ha
            intro q
            have := Option.some.inj q
            dsimp only at this
            omega
  refine ⟨es ++ [.slice b n c], by rw [List.length_append]; exact k1, by simp [h2], ?_⟩
  intro i hi
  rw [List.length_append, List.length_singleton] at hi
  by_cases hlt : i < ts.length
  · obtain ⟨u, e1, e2⟩ := h3 i hlt
    refine ⟨u, by rw [List.getElem?_append_left (by omega)]; exact e1, ?_⟩
    have e : (ts ++ [t]).getD i [] = ts.getD i [] := by simp [List.getD, List.getElem?_append_left hlt]
    rw [e]
    exact hel u _ e2
  · have hie : i = ts.length := by omega
    subst hie
    refine ⟨.slice b n c, by rw [← h2]; simp, ?_⟩
    have e : (ts ++ [t]).getD ts.length [] = t := by simp [List.getD]
    rw [e]
    exact hel _ t ⟨b, n, c, rfl, hI, hoff⟩

/-- two texts in a list that was just made -/
theorem ownT_two {w : World} {base b1 b2 : Nat} {r1 r2 : Value} {t1 t2 : List Int} (h1 : OwnB w b1 r1 t1) (h2 : OwnB w b2 r2 t2) (q1 : ∀ c ∈ t1, 0 ≤ c ∧ c < 256) (q2 : ∀ c ∈ t2, 0 ≤ c ∧ c < 256) (hb : base ≤ w.heap.size) (g : Nat) (hg : w.heap.size = g) :
    OwnT (w.alloc (.cells #[r1, r2] 24)) base (.slice (some ⟨g, 0, none⟩) 2 2) [t1, t2] := by
  subst hg
  refine ⟨[r1, r2], World.ownsRow_lit w #[r1, r2] 2 hb (by unfold maxLen; omega) rfl, rfl, ?_⟩
  have hel : ∀ (r : Value) (t : List Int) (b : Nat), OwnB w b r t → (∀ c ∈ t, 0 ≤ c ∧ c < 256) → ElemT (w.alloc (.cells #[r1, r2] 24)) (Value.slice (some ⟨w.heap.size, 0, none⟩) 2 2).ownBlock r t := by
    intro r t b h q
    have hlt := h.lt
    obtain ⟨a, c, rfl, hI⟩ := h.is q
    refine ⟨a, t.length, c, rfl, hI.keep (new_below _ _), ?_⟩
    rcases hI.2.2.2.2 with h0 | ⟨g', off', ha, hg', _⟩
    · exact .inl h0
    · right
      intro y hy e
      rw [ha] at hy
      cases hy
      have : w.heap.size = g' := Option.some.inj e
      omega
  intro i hi
  match i, hi with
  | 0, _ => exact ⟨r1, rfl, hel r1 t1 b1 h1 q1⟩
  | 1, _ => exact ⟨r2, rfl, hel r2 t2 b2 h2 q2⟩

theorem keeps_below {B g : Nat} {w w1 w2 : World} (h : Below B w w1) (hk : Keeps (fun k => k = g) w1 w2) (hB : B ≤ g) (hB1 : B ≤ w1.heap.size) : Below B w w2 :=
  ⟨hk.os.trans h.os, hk.tape.trans h.tape, hk.output.trans h.output, Nat.le_trans h.size hk.size, fun k hkB => (hk.block k (by omega) (by omega)).trans (h.block k hkB)⟩

theorem keeps_on {M : Nat → Prop} {w w1 w2 : World} (h : Keeps M w w1) (hb : Below w1.heap.size w1 w2) : Keeps M w w2 :=
  ⟨hb.os.trans h.os, hb.tape.trans h.tape, hb.output.trans h.output, Nat.le_trans h.size hb.size, fun k hk hn => (hb.block k (Nat.lt_of_lt_of_le hk h.size)).trans (h.block k hk hn)⟩

/-- a block of its own, or one behind: what was there but for the one is kept -/
theorem keeps_grown {g : Nat} {w w1 w2 : World} {k : Option Nat} (h : Keeps (fun k => k = g) w w1) (hg : w1.grownBy w2 k) (hk : ∀ j, k = some j → j = g ∨ w.heap.size ≤ j) : Keeps (fun k => k = g) w w2 := by
  have h2 := Keeps.ofGrown hg
  refine ⟨h2.os.trans h.os, h2.tape.trans h.tape, h2.output.trans h.output, Nat.le_trans h.size h2.size, fun j hj hn => (h2.block j (Nat.lt_of_lt_of_le hj h.size) (fun e => ?_)).trans (h.block j hj hn)⟩
  rcases hk j e with q | q
  · exact hn q
  · omega

/-- all entries of a log -/
theorem ents_all (X : Nat → Prop) (base p : Nat) (L : LogS) (w : World) (h : IsL X w base p L) (hG : L.Good) (hn : L.es.length ≤ 100) (x : Int) (hx : x = L.s.i + 1) :
    Calls Try.prog 32 #[.pointer (some ⟨p, 0, none⟩), .int .u64 x, .int .i64 100] w fun e w' => ∃ b n c ms, e = .returned (.slice b n c) ∧ n = L.es.length ∧ ms.map MEnt.e = L.es ∧ IsMs (fun k => k < w.heap.size) w' b n c ms ∧ (n = 0 ∨ ∀ y, b = some y → w.heap.size ≤ y.block) ∧ Below w.heap.size w w' := by
  subst hx
  refine (ents_any X base p L (L.s.i + 1) 100 w h hG (by have := hG.i0; omega) (by decide) (by decide)).mono ?_
  rintro e w' ⟨b, n, c, ms, rfl, hE, hr, ho, hb⟩
  rw [entsL_all (by omega) (by omega)] at hE
  refine ⟨b, n, c, ms, rfl, by rw [← hE, List.length_map, hr.len.1], hE, (hr.is (fun m hm => (ho m hm).more (fun k hk => .inl (.inl hk)))), ?_, hb⟩
  by_cases h0 : n = 0
  · exact .inl h0
  · right
    intro y hy
    subst hy
    have := hr.lt y.block (by rfl)
    exact this.1

/-- what Replay answers to what was put -/
theorem back_any (a : Option Addr) (len cap : Nat) (t v : Int) (s : Snp) (es : List Ent) (w : World) (h : IsTexts w a len cap (snapB s :: hardB t v :: es.map entB)) (hn : es.length ≤ 12) (h1 : 0 ≤ t ∧ t ≤ 18446744073709551615) (h2 : 0 ≤ v ∧ v ≤ 18446744073709551615) (hi : 0 ≤ s.i ∧ s.i ≤ 18446744073709551615) (ht : 0 ≤ s.t ∧ s.t ≤ 18446744073709551615) (hm : ∀ x ∈ s.m, 0 ≤ x ∧ x ≤ 18446744073709551615) (hd : s.d.length ≤ 200) (hM : memOf (memB s.m) = some (setL s.m))
    (he : ∀ j, j < es.length → (es.getD j ent0).i = capI s.i + 1 + j) (ho : ∀ e ∈ es, e.ok ∧ e.d.length ≤ 100) :
    Calls Try.prog 30 #[.slice a len cap] w fun e w' => ∃ p, e = .returned (.tuple #[.agg #[.int .u64 t, .int .u64 v], .pointer (some ⟨p, 0, none⟩), .int .i64 0]) ∧ IsL (fun k => SB 4 w' p k) w' w.heap.size p ⟨⟨capI s.i, s.t, setL s.m, s.d⟩, es, 0, false⟩ ∧ Below w.heap.size w w' := by
  obtain ⟨L2, q1, q2, q3⟩ := rep_back t v s es h1 h2 hi ht hm (by omega) hM he (fun e h => ⟨(ho e h).1, by have := (ho e h).2; omega⟩)
  have hl := h.1
  simp only [List.length_cons, List.length_map] at hl
  refine (replayAll_any a len cap _ w h (by omega) ?_).mono ?_
  · intro b hb
    rcases List.mem_cons.1 hb with rfl | hb
    · have := snapB_length s hi ht hm (by omega)
      omega
    · rcases List.mem_cons.1 hb with rfl | hb
      · have := numsL_length [1, t, v] (rng3 ⟨by decide, by decide⟩ h1 h2)
        unfold hardB
        simp at this
        omega
      · obtain ⟨e, he', rfl⟩ := List.mem_map.1 hb
        have := entB_length e (ho e he').1 (by have := (ho e he').2; omega)
        have := (ho e he').2
        omega
  · rw [q1]
    rintro e w' ⟨hb, ⟨h0, _⟩ | ⟨_, p, he, hL⟩⟩
    · exact absurd rfl h0
    · refine ⟨p, he, ?_, hb⟩
      have e2 : L2.clean = ⟨⟨capI s.i, s.t, setL s.m, s.d⟩, es, 0, false⟩ := by unfold LogS.clean; rw [q2, q3]
      dsimp only at hL
      rw [e2] at hL
      exact hL

theorem snapB_range (s : Snp) (hd : ∀ c ∈ s.d, 0 ≤ c ∧ c < 256) : ∀ c ∈ snapB s, 0 ≤ c ∧ c < 256 := fun c hc => by
  unfold snapB memB at hc
  simp only [List.mem_append] at hc
  rcases hc with (h | h | h | h) | h | h
  · exact numsL_range _ c h
  · exact numL_range _ c h
  · exact numL_range _ c h
  · exact numsL_range _ c h
  · exact numL_range _ c h
  · exact hd c h

theorem entB_range (e : Ent) (hd : ∀ c ∈ e.d, 0 ≤ c ∧ c < 256) : ∀ c ∈ entB e, 0 ≤ c ∧ c < 256 := fun c hc => by
  unfold entB at hc
  simp only [List.mem_append] at hc
  rcases hc with (h | h) | h | h
  · exact numsL_range _ c h
  · exact numL_range _ c h
  · exact numL_range _ c h
  · exact hd c h

theorem good_back {i t : Int} {m d : List Int} {es : List Ent} {L1 : LogS} (hG : L1.Good) (hs : L1.s = ⟨i, t, m, d⟩) (he : L1.es = es) : LogS.Good ⟨⟨i, t, setL m, d⟩, es, 0, false⟩ := by
  have h0 := hG.i0; have h1 := hG.i1; have h2 := hG.t0; have h3 := hG.t1; have h4 := hG.m0; have h5 := hG.m1; have h6 := hG.d1; have h7 := hG.n; have h8 := hG.at_; have h9 := hG.ok
  rw [hs] at h0 h1 h2 h3 h4 h5 h6 h8
  rw [he] at h7 h8 h9
  exact ⟨h0, h1, h2, h3, fun c hc => h4 c ((set_mem m c).1 hc), Nat.le_trans (set_length m) h5, h6, h7, h8, h9, by show (0 : Int) ≤ 0; decide, by show (0 : Int) ≤ 18446744073709551615; decide⟩

end Go.Proofs.Ytjeijeaogdednaa
