/- The program's store: Scan. -/
import Derived.Test.YtfldiapdfpkdaaaQsM
namespace Go.Proofs.Ytfldiapdfpkdaaa
open Go.RowKit Go.Shelf NumMath Go.ChangeShapes Go.WideShapes Go.Deep
set_option linter.unusedVariables false
set_option maxRecDepth 100000

attribute [local go_sem] Oper.semAt_some

theorem opX {P : Program} {l : List Oper} {md : Region.Mode} {Q : Exit → Act → World → Prop} {S : World → Prop} {w : World} {E j : Nat} {o : Oper} {fuel : Nat} {listed : Array Bool} {a : Act} (hi : l[j]? = some o)
    (h : ∀ K : Act → World → Prop, Shut (∀ a w', (j ≠ E → S w') → wpAnyX P md l.toArray Q S E fuel (listed.setIfInBounds j true) a w' → K a w') → if Region.wanted o (yielded l.toArray a.tmps) = true then Oper.wp P o a w K Q else K (a.put o.dst undef) w) :
    wpOp P l.toArray Q j (fun a' w' => (j ≠ E → S w') ∧ wpAnyX P md l.toArray Q S E fuel (listed.setIfInBounds j true) a' w') a w := by
  have h1 := h (fun a' w' => (j ≠ E → S w') ∧ wpAnyX P md l.toArray Q S E fuel (listed.setIfInBounds j true) a' w') (fun a w' h1 h2 => ⟨h1, h2⟩)
  have h2 : l.toArray[j]? = some o := by simpa using hi
  unfold wpOp
  rw [h2]
  dsimp only
  by_cases hwt : Region.wanted o (yielded l.toArray a.tmps) = true
  · rw [if_pos hwt] at h1 ⊢
    exact .inl h1
  · rw [if_neg hwt] at h1 ⊢
    exact h1

/-- one of two may come up -/
theorem bothX {P : Program} {l : List Oper} {md : Region.Mode} {Q : Exit → Act → World → Prop} {S : World → Prop} {w : World} {E i j : Nat} {o o' : Oper} {fuel : Nat} {listed : Array Bool} {a : Act} (hi : l[i]? = some o) (hj : l[j]? = some o') (hr : Region.ready md l.toArray listed = [i, j])
    (h : ∀ K : Act → World → Prop, Shut (∀ a w', (i ≠ E → S w') → wpAnyX P md l.toArray Q S E fuel (listed.setIfInBounds i true) a w' → K a w') → if Region.wanted o (yielded l.toArray a.tmps) = true then Oper.wp P o a w K Q else K (a.put o.dst undef) w)
    (h' : ∀ K : Act → World → Prop, Shut (∀ a w', (j ≠ E → S w') → wpAnyX P md l.toArray Q S E fuel (listed.setIfInBounds j true) a w' → K a w') → if Region.wanted o' (yielded l.toArray a.tmps) = true then Oper.wp P o' a w K Q else K (a.put o'.dst undef) w) :
    wpAnyX P md l.toArray Q S E (fuel + 1) listed a w := by
  refine ⟨fun h0 => (by rw [hr] at h0; cases h0), fun k hk => ?_⟩
  rw [hr] at hk
  simp only [List.mem_cons, List.not_mem_nil, or_false] at hk
  rcases hk with rfl | rfl
  · exact opX hi h
  · exact opX hj h'

theorem Foot.all {α : Type} {X : Nat → Prop} {w : World} {P : α → World → Prop} : ∀ l : List α, (∀ x ∈ l, Foot X w (P x)) → Foot X w (fun w => ∀ x ∈ l, P x w)
  | [], _ => foot_pure (fun w' x hx => by cases hx)
  | x :: r, h => ((h x (List.mem_cons_self ..)).and (Foot.all r (fun y hy => h y (List.mem_cons_of_mem _ hy)))).imp (fun w' hp y hy => by
      rcases List.mem_cons.1 hy with rfl | hy
      · exact hp.1
      · exact hp.2 y hy)

theorem foot_ownY {α : Type} {L : Lay α} {X : Nat → Prop} {w : World} {base : Nat} {a : Option Addr} {n c : Nat} {xs : List α} (h : OwnY L w base (.slice a n c) xs) (ho : ∀ k, X k → k < base) : Foot X w (fun w => IsY L w a n c xs) := by
  rcases h.form with ⟨e, rfl⟩ | ⟨g, cap, e, hg, hgl, hnc, hm, hC, _⟩
  · cases e
    exact foot_pure (fun w' => isY_nil w')
  · cases e
    exact ⟨fun k => k = g, fun k hk => by subst hk; exact ⟨hgl, fun hx => by have := ho _ hx; omega⟩, fun w' hs hb => ⟨rfl, hnc, hm, .inr ⟨g, 0, rfl, Nat.lt_of_lt_of_le hgl hs, hC.same (hb g rfl)⟩⟩⟩

/-- a cell's data hang on no block below N -/
theorem foot_mc {W : World} {N : Nat} {k : List Int} {g kc : Nat} {ms : List MV} {a : Option Addr} {n c : Nat} {it : MV} (h1 : Foot (fun k => k < N) W (fun w => IsBytes w (some ⟨g, 0, none⟩) k.length kc k)) (h2 : OwnY layV W N (.slice a n c) ms) (h3 : ∀ x ∈ ms, Foot (fun k => k < N ∨ (Value.slice a n c).ownBlock = some k) W (fun w => x.at w)) (h4 : Foot (fun k => k < N) W (fun w => it.at w)) :
    Foot (fun k => k < N) W (fun w => MC.at w ⟨k, some ⟨g, 0, none⟩, k.length, kc, ms, a, n, c, it⟩) :=
  (h1.and ((foot_ownY h2 (fun k hk => hk)).and ((Foot.all ms (fun x hx => (h3 x hx).more (fun k hk => .inl (.inl hk)))).and h4))).imp (fun w' h => ⟨h.1, h.2.1, h.2.2.1, h.2.2.2⟩)

/-- cells that a call made -/
def ScanPost (w : World) (st : List Cel) (e : Ending) (w' : World) : Prop :=
  ∃ v ms, e = .returned v ∧ OwnY layC w' w.heap.size v ms ∧ ms.map MC.c = st ∧ (∀ m ∈ ms, Foot (fun k => k < w.heap.size ∨ v.ownBlock = some k) w' (fun w => MC.at w m)) ∧ Below w.heap.size w w'

set_option maxHeartbeats 8000000 in
theorem pScan_any (G : Nat → Prop) (base : Nat) (w : World) (p mb z : Nat) (cs : List PC) (h : IsS G base w p mb z cs) (hz : z ≤ 100000) (la : Option Addr) (ln lc : Nat) (lo : List Int) (hlo : IsBytes w la ln lc lo) (ha : Option Addr) (hn hc : Nat) (hi : List Int) (hhi : IsBytes w ha hn hc hi) (ts : Int) :
    Calls Try.prog 11 #[.pointer (some ⟨p, 0, none⟩), .slice la ln lc, .slice ha hn hc, .int .u64 ts] w fun e w' => ScanPost w (scanC lo hi ts (cs.map PC.c)) e w' := by
  refine (callsIn_wide (n := 6)).1 ?_
  refine callsIn_of_wp_marks Try.func11 rfl trivial ?_ rfl
  simp only [Try.ntmps11, List.size_toArray, List.length_cons, List.length_nil, Nat.reduceAdd, Nat.reduceSub, Array.replicate_succ, Array.replicate_zero, List.push_toArray, List.append_toArray, List.nil_append, List.cons_append]
  obtain ⟨W0, hW0⟩ : ∃ W0, W0 = ((((w.alloc (.cells #[.pointer (some ⟨p, 0, none⟩)] 26)).alloc (.cells #[.slice la ln lc] 23)).alloc (.cells #[.slice ha hn hc] 23)).alloc (.cells #[.int .u64 ts] 24)).alloc (.cells #[.slice none 0 0] 31) := ⟨_, rfl⟩
  have hb0 : Below w.heap.size w W0 := by rw [hW0]; exact belY (belY (belY (belY (belY (Below.refl _ _) _) _) _) _) _
  have hs0 : W0.heap.size = w.heap.size + 5 := by rw [hW0]; simp
  have hN0 : W0.cell? ⟨w.heap.size, 0, none⟩ = some (.pointer (some ⟨p, 0, none⟩)) := by rw [hW0]; exact ((new_below _ _).cell (p := ⟨w.heap.size, 0, none⟩) (by simp; omega)).trans (((new_below _ _).cell (p := ⟨w.heap.size, 0, none⟩) (by simp; omega)).trans (((new_below _ _).cell (p := ⟨w.heap.size, 0, none⟩) (by simp; omega)).trans (((new_below _ _).cell (p := ⟨w.heap.size, 0, none⟩) (by simp)).trans (rangeY_new w w.heap.size _ _ rfl 0 _ rfl))))
  have hL : W0.cell? ⟨w.heap.size + 1, 0, none⟩ = some (.slice la ln lc) := by rw [hW0]; exact ((new_below _ _).cell (p := ⟨w.heap.size + 1, 0, none⟩) (by simp)).trans (((new_below _ _).cell (p := ⟨w.heap.size + 1, 0, none⟩) (by simp)).trans (((new_below _ _).cell (p := ⟨w.heap.size + 1, 0, none⟩) (by simp)).trans (rangeY_new _ _ _ _ (by simp) 0 _ rfl)))
  have hH : W0.cell? ⟨w.heap.size + 2, 0, none⟩ = some (.slice ha hn hc) := by rw [hW0]; exact ((new_below _ _).cell (p := ⟨w.heap.size + 2, 0, none⟩) (by simp)).trans (((new_below _ _).cell (p := ⟨w.heap.size + 2, 0, none⟩) (by simp)).trans (rangeY_new _ _ _ _ (by simp) 0 _ rfl))
  have hT : W0.cell? ⟨w.heap.size + 3, 0, none⟩ = some (.int .u64 ts) := by rw [hW0]; exact ((new_below _ _).cell (p := ⟨w.heap.size + 3, 0, none⟩) (by simp)).trans (rangeY_new _ _ _ _ (by simp) 0 _ rfl)
  have hN1 : W0.cell? ⟨w.heap.size + 4, 0, none⟩ = some (.slice none 0 0) := by rw [hW0]; exact rangeY_new _ _ _ _ (by simp) 0 _ rfl
  have hF1 : W0.frozen? ⟨w.heap.size + 4, 0, none⟩ = false := by rw [hW0]; have := fzY_new ((((w.alloc (.cells #[.pointer (some ⟨p, 0, none⟩)] 26)).alloc (.cells #[.slice la ln lc] 23)).alloc (.cells #[.slice ha hn hc] 23)).alloc (.cells #[.int .u64 ts] 24)) #[.slice none 0 0] 31 0; simpa using this
  have H := hide h
  have hmf : ∀ (fn : Fn) (first cap : Array Value) (w : World), (Instr.makeFunc fn first cap).run Try.prog w = .ok (.func fn first cap) w := fun _ _ _ _ => rfl
  gi_wp2_with fail
  rw [← hW0]
  have HIt : Hid (Calls Try.prog 37 #[.pointer (some ⟨p, 0, none⟩), .func (.func 33) #[] #[.pointer (some ⟨w.heap.size + 1, 0, none⟩), .pointer (some ⟨w.heap.size + 2, 0, none⟩), .pointer (some ⟨w.heap.size + 3, 0, none⟩)]] W0 fun e w' => RisePost W0 (keysP (seenP lo hi ts) cs) e w') := by
    have hS := h.keep hb0
    exact rising_scan G base W0 p mb z cs hS hz _ _ _ _ (fun W2 m hm hb2 => scan1_any base W2 m ((hS.is m hm).keep hb2) (hS.go m hm) hz _ _ _ la ln lc lo ((hlo.keep hb0).keep hb2) ha hn hc hi ((hhi.keep hb0).keep hb2) ts ((hb2.cell (p := ⟨w.heap.size + 1, 0, none⟩) (by show _ < _; rw [hs0]; simp)).trans hL) ((hb2.cell (p := ⟨w.heap.size + 2, 0, none⟩) (by show _ < _; rw [hs0]; simp)).trans hH) ((hb2.cell (p := ⟨w.heap.size + 3, 0, none⟩) (by show _ < _; rw [hs0]; simp)).trans hT) (by have := hb2.size; omega) (by have := hb2.size; omega) (by have := hb2.size; omega))
  have HB0 := hide hb0
  have HS0 := hide hs0
  have HF1 := hide hF1
  have HN1 := hide hN1
  have HT0 := hide hT
  clear h hb0 hW0 hN1 hF1 hs0 hlo hhi hL hH hT
  gi_wp2_with (first
    | (refine ⟨trivial, ?_⟩; gi_at_call 37; refine (callsIn_wide.2 HIt.out).mono ?_; rintro e w2 ⟨Bs, a2, n2, c2, rfl, hBs1, hBs2, hBs3, hsrc, hal, hb2⟩; have HR2 := hide (And.intro hBs1 (And.intro hBs2 (And.intro hBs3 (And.intro hsrc (And.intro hal hb2))))); clear hBs1 hBs2 hBs3 hsrc hal hb2))
  obtain ⟨hBs1, hBs2, hBs3, hsrc, hal, hb2⟩ := HR2.out
  have hs2 : w.heap.size + 5 ≤ w2.heap.size := by have := hb2.size; rw [HS0.out] at this; exact this
  have HB02 : Hid (Below W0.heap.size W0 w2) := hb2
  have HBw2 : Hid (Below w.heap.size w w2) := HB0.out.trans (HB02.out.mono (by rw [HS0.out]; omega))
  have cN0' := (HB02.out.cell (p := ⟨w.heap.size, 0, none⟩) (by show w.heap.size < W0.heap.size; rw [HS0.out]; omega)).trans hN0
  have cT' := (HB02.out.cell (p := ⟨w.heap.size + 3, 0, none⟩) (by show w.heap.size + 3 < W0.heap.size; rw [HS0.out]; omega)).trans HT0.out
  have cN1' := (HB02.out.cell (p := ⟨w.heap.size + 4, 0, none⟩) (by show w.heap.size + 4 < W0.heap.size; rw [HS0.out]; omega)).trans HN1.out
  have fN1' := (HB02.out.frozen (p := ⟨w.heap.size + 4, 0, none⟩) (by show w.heap.size + 4 < W0.heap.size; rw [HS0.out]; omega)).trans HF1.out
  have hln : (cs.filter (seenP lo hi ts)).length = n2 := by have := hsrc.1; unfold keysP at this; rw [List.length_map] at this; exact this
  have hlz : (cs.filter (seenP lo hi ts)).length ≤ z := by
    have h1 := List.length_filter_le (seenP lo hi ts) cs
    have := H.out.few
    omega
  have HX := hide hsrc
  have HAl := hide hal
  have HBs := hide (And.intro hBs1 (And.intro hBs2 hBs3))
  have hS0 := HS0.out
  clear HR2 hsrc hal hBs1 hBs2 hBs3 hb2 HIt hN0
  refine' loopV (a₁ := _) (by omega) Bs n2 c2 a2 (keysP (seenP lo hi ts) cs) HX.out.1 (by omega) rfl rfl (fun j W => ∃ v ms, InI layC (fun m w => MC.at w m) w2 (w.heap.size + 4) v ms W ∧ ms.map MC.c = ((cs.filter (seenP lo hi ts)).map (cutP ts)).take j) _ _ _ _ _ _
  case refine'_1 =>
    intro o o'
    exact ⟨_, [], InI.start (by omega) cN1' fN1' o o', rfl⟩
  case refine'_2 =>
    rintro j W o ⟨v, ms, h, e⟩
    exact ⟨v, ms, h.put (by omega) _ (by omega) (by omega) o, e⟩
  case refine'_3 =>
    rintro j W ⟨v, ms, h, -⟩
    have hk := h.kp
    obtain ⟨b1, b2, b3⟩ := HBs.out
    refine ⟨(World.cell?_of_block (a := ⟨Bs, 0, none⟩) (hk.block Bs b2 (by omega))).trans b3, HX.out.1, ?_⟩
    rcases HX.out.2 with h0 | ⟨g, off, ha, hg, hC⟩
    · exact .inl h0
    · have := HAl.out _ ha
      dsimp only at this
      exact .inr ⟨g, off, ha, Nat.lt_of_lt_of_le hg hk.size, hC.same (hk.block g hg (by omega))⟩
  case refine'_5 =>
    intro x W K hK
    gi_wp2
    exact hK
  case refine'_6 =>
    rintro j x W hx ⟨v, ms, hI, he⟩ hlt
    obtain ⟨m, hm, rfl⟩ : ∃ m, (cs.filter (seenP lo hi ts))[j]? = some m ∧ x = kb m.key := by
      unfold keysP at hx
      rw [List.getElem?_map] at hx
      cases hq : (cs.filter (seenP lo hi ts))[j]? with
      | none => rw [hq] at hx; cases hx
      | some m => rw [hq] at hx; exact ⟨m, rfl, (by simpa using hx.symm)⟩
    have hmm : m ∈ cs := (List.mem_filter.1 (List.mem_of_getElem? hm)).1
    have hg := H.out.go m hmm
    have hfew := hg.few
    have hfit := hg.fit
    have hfiti := hg.fiti
    have hkl := hg.kl
    have hes : encStr (kb m.key) = .string (strB m.key) := strB_kb m.key
    have hIl := hI.own.lt
    have hml : ms.length ≤ 100000 := by
      have h5 := congrArg List.length he
      rw [List.length_map, List.length_take, List.length_map] at h5
      omega
    obtain ⟨sa, sn, sc, rfl, -, -, -⟩ := hI.own.any4
    have hkW : Keeps (fun k => k = w.heap.size + 4) w W := kpThen (Below.keeps HBw2.out _) (fun k hk => .inl hk) hI.kp
    have HST : Hid (∀ V, Keeps (fun k => (Value.slice sa sn sc).ownBlock = some k) W.drew V → Keeps (fun k => k = w.heap.size + 4) w V) := fun V hV => kpThen hkW (fun k hk => .inr (by have := (hIl k hk).1; omega)) (kpThen (Below.keeps (Below.refl _ W).drew _) (fun k hk => .inl hk) hV)
    have HSB : Hid (∀ V, Keeps (fun k => (Value.slice sa sn sc).ownBlock = some k) W.drew V → Below w.heap.size w V) := fun V hV => (HST.out V hV).below (Nat.le_refl _) (fun k (e : k = w.heap.size + 4) => by omega)
    have hbW : Below w.heap.size w W := hkW.below (Nat.le_refl _) (fun k (e : k = w.heap.size + 4) => by omega)
    have hS := H.out.keep hbW
    obtain ⟨i, hil, hi2⟩ := List.getElem_of_mem hmm
    have hi : cs[i]? = some m := by rw [List.getElem?_eq_getElem hil, hi2]
    have hlk := hS.map.look hg.key (by omega) W rfl
    rw [blkOf_at hS.sort hi, ptrV_of] at hlk
    have cp := hS.c
    have cN : W.cell? ⟨w.heap.size, 0, none⟩ = some (.pointer (some ⟨p, 0, none⟩)) := (World.cell?_of_block (a := ⟨w.heap.size, 0, none⟩) (hI.kp.block w.heap.size (by omega) (by omega))).trans cN0'
    have hNl : w2.heap.size ≤ W.heap.size := hI.kp.size
    have cT : W.cell? ⟨w.heap.size + 3, 0, none⟩ = some (.int .u64 ts) := (World.cell?_of_block (a := ⟨w.heap.size + 3, 0, none⟩) (hI.kp.block (w.heap.size + 3) (by omega) (by omega))).trans cT'
    have HV : Hid (∀ V : World, Keeps (fun k => (Value.slice sa sn sc).ownBlock = some k) W.drew V → V.cell? ⟨w.heap.size + 4, 0, none⟩ = some (.slice sa sn sc) ∧ V.cell? ⟨w.heap.size + 3, 0, none⟩ = some (.int .u64 ts) ∧ V.cell? ⟨m.b, 1, none⟩ = some (.int .u64 m.it.v.ts) ∧ V.cell? ⟨m.b, 2, none⟩ = some (.int .u64 m.it.v.tx) ∧ V.cell? ⟨m.b, 3, none⟩ = some (.bool m.it.v.dd) ∧ V.cell? ⟨m.b, 4, none⟩ = some (.slice m.it.va m.it.vn m.it.vc) ∧ V.cell? ⟨m.b, 5, none⟩ = some (.slice m.it.ka m.it.kn m.it.kc)) := by
      intro V hV
      obtain ⟨-, x1, x2, x3, x4, x5⟩ := ((H.out.keep (HSB.out V hV)).is m hmm).x
      exact ⟨(World.cell?_of_block (a := ⟨w.heap.size + 4, 0, none⟩) (hV.block (w.heap.size + 4) (by show w.heap.size + 4 < W.heap.size; omega) (fun e => by have := (hIl _ e).1; omega))).trans hI.c1, (World.cell?_of_block (a := ⟨w.heap.size + 3, 0, none⟩) (hV.block (w.heap.size + 3) (by show w.heap.size + 3 < W.heap.size; omega) (fun e => by have := (hIl _ e).1; omega))).trans cT, x1, x2, x3, x4, x5⟩
    have HU : Hid (∀ V, Below W.drew.heap.size W.drew V → Calls Try.prog 36 #[.pointer (some ⟨m.b, 0, none⟩), .int .u64 ts] V fun e w' => ∃ a n c, e = .returned (.slice a n c) ∧ n ≤ 100000 ∧ IsY layV w' a n c (m.vs.drop (posV tsM ts m.vs)) ∧ Below V.heap.size V w') := by
      intro V hV
      have hb := HSB.out V (Below.keeps hV _)
      refine (pupTo_any base V m ((H.out.keep hb).is m hmm) hg.desc (by omega) ts).mono ?_
      rintro e w' ⟨a, n, c, rfl, h1, h2, h3⟩
      exact ⟨a, n, c, rfl, by rw [List.length_drop] at h1; omega, h2 _ h3, h3⟩
    have HCp : Hid (∀ V, Below W.drew.heap.size W.drew V → ∀ a n c, n ≤ 100000 → IsY layV V a n c (m.vs.drop (posV tsM ts m.vs)) → Calls Try.prog 38 #[.slice a n c] V fun e w' => ∃ a6 n6 c6 ms6, e = .returned (.slice a6 n6 c6) ∧ ms6.map MV.v = (m.vs.drop (posV tsM ts m.vs)).map MV.v ∧ OwnY layV w' W.heap.size (.slice a6 n6 c6) ms6 ∧ (∀ x ∈ ms6, Foot (fun k => k < W.heap.size ∨ (Value.slice a6 n6 c6).ownBlock = some k) w' (fun w => x.at w)) ∧ Below V.heap.size V w') := by
      intro V hV a n c hn hY
      have hb := HSB.out V (Below.keeps hV _)
      have hdat := (H.out.keep hb).dat m hmm
      have hsz : W.heap.size ≤ V.heap.size := hV.size
      refine (copies_any a n c _ V hY (fun x hx => (hdat.1 x (List.mem_of_mem_drop hx)).now) (fun x hx => hfit x (List.mem_of_mem_drop hx)) (by omega)).mono ?_
      rintro e w' ⟨v6, ms6, rfl, h1⟩
      obtain ⟨a6, n6, c6, rfl, -, -, -⟩ := h1.own.any4
      exact ⟨a6, n6, c6, ms6, rfl, h1.eq, h1.own.mono hsz, fun x hx => (h1.ok x hx).more (fun k hk => .inl (hk.imp (fun h => by omega) id)), h1.b⟩
    have HCo : Hid (∀ V, Below W.drew.heap.size W.drew V → Calls Try.prog 39 #[.agg #[.int .u64 m.it.v.ts, .int .u64 m.it.v.tx, .bool m.it.v.dd, .slice m.it.va m.it.vn m.it.vc, .slice m.it.ka m.it.kn m.it.kc]] V fun e w' => ∃ m' : MV, e = .returned (.agg #[.int .u64 m'.v.ts, .int .u64 m'.v.tx, .bool m'.v.dd, .slice m'.va m'.vn m'.vc, .slice m'.ka m'.kn m'.kc]) ∧ m'.v = m.it.v ∧ Foot (fun k => k < W.heap.size) w' (fun w => m'.at w) ∧ Below V.heap.size V w') := by
      intro V hV
      have hb := HSB.out V (Below.keeps hV _)
      have hdat := (H.out.keep hb).dat m hmm
      have hsz : W.heap.size ≤ V.heap.size := hV.size
      refine (copyOf_any m.it V hdat.2.now hfiti).mono ?_
      rintro e w' ⟨m', rfl, h1, h2, h3⟩
      exact ⟨m', rfl, h1, h2.more (fun k hk => .inl (by omega)), h3⟩
    have HKy : Hid (∀ V, Below W.drew.heap.size W.drew V → ∃ g c w', (convert 9 23 (.string (strB m.key))).run Try.prog V = .ok (.slice (some ⟨g, 0, none⟩) m.key.length c) w' ∧ Foot (fun k => k < W.heap.size) w' (fun w => IsBytes w (some ⟨g, 0, none⟩) m.key.length c m.key) ∧ Below V.heap.size V w') := by
      intro V hV
      have hsz : W.heap.size ≤ V.heap.size := hV.size
      obtain ⟨c, w', h1, h2, h3, -⟩ := conv_key m.key hg.key hkl V
      exact ⟨_, c, w', h1, foot_newB h2 hsz, h3⟩
    have HRf : Hid (Keeps (fun k => (Value.slice sa sn sc).ownBlock = some k) W.drew W.drew) := Below.keeps (Below.refl _ _) _
    have HB0' : Hid (Below W.drew.heap.size W.drew W.drew) := Below.refl _ _
    have HI := hide hI
    have HE := hide he
    have HM := hide hm
    clear hI he hm hmm hg hfit hfiti hS hi hi2 hil hkW hbW hx hIl cT
    rw [hes]
    gi_wp2
    refine startR (fun V => Keeps (fun k => (Value.slice sa sn sc).ownBlock = some k) W.drew V) 15 (by kernel_rfl) (by kernel_rfl) ?_
    refine' takeR (E := 15) (i := 0) (v := _) rfl (by kernel_rfl) (by kernel_rfl) (by kernel_rfl) (by kernel_rfl) (by rfl) HRf.out ?_ ?_; rotate_left
    · (intro V hSw; obtain ⟨y0, y1, y2, y3, y4, y5, y6⟩ := HV.out V hSw; go_simp; all_goals (with_reducible rfl))
    (try simp only [Act.put, List.setIfInBounds_toArray, List.set_cons_zero, List.set_cons_succ])
    refine' takeR (E := 15) (i := 1) (v := _) rfl (by kernel_rfl) (by kernel_rfl) (by kernel_rfl) (by kernel_rfl) (by rfl) HRf.out ?_ ?_; rotate_left
    · (intro V hSw; obtain ⟨y0, y1, y2, y3, y4, y5, y6⟩ := HV.out V hSw; go_simp; all_goals (with_reducible rfl))
    (try simp only [Act.put, List.setIfInBounds_toArray, List.set_cons_zero, List.set_cons_succ])
    refine' takeR (E := 15) (i := 3) (v := _) rfl (by kernel_rfl) (by kernel_rfl) (by kernel_rfl) (by kernel_rfl) (by rfl) HRf.out ?_ ?_; rotate_left
    · (intro V hSw; obtain ⟨y0, y1, y2, y3, y4, y5, y6⟩ := HV.out V hSw; go_simp; all_goals (with_reducible rfl))
    (try simp only [Act.put, List.setIfInBounds_toArray, List.set_cons_zero, List.set_cons_succ])
    refine' takeR (E := 15) (i := 4) (v := _) rfl (by kernel_rfl) (by kernel_rfl) (by kernel_rfl) (by kernel_rfl) (by rfl) HRf.out ?_ ?_; rotate_left
    · (intro V hSw; obtain ⟨y0, y1, y2, y3, y4, y5, y6⟩ := HV.out V hSw; go_simp; all_goals (with_reducible rfl))
    (try simp only [Act.put, List.setIfInBounds_toArray, List.set_cons_zero, List.set_cons_succ])
    refine' takeR (E := 15) (i := 7) (v := _) rfl (by kernel_rfl) (by kernel_rfl) (by kernel_rfl) (by kernel_rfl) (by rfl) HRf.out ?_ ?_; rotate_left
    · (intro V hSw; obtain ⟨y0, y1, y2, y3, y4, y5, y6⟩ := HV.out V hSw; go_simp; all_goals (with_reducible rfl))
    (try simp only [Act.put, List.setIfInBounds_toArray, List.set_cons_zero, List.set_cons_succ])
    refine' takeR (E := 15) (i := 8) (v := _) rfl (by kernel_rfl) (by kernel_rfl) (by kernel_rfl) (by kernel_rfl) (by rfl) HRf.out ?_ ?_; rotate_left
    · (intro V hSw; obtain ⟨y0, y1, y2, y3, y4, y5, y6⟩ := HV.out V hSw; go_simp; all_goals (with_reducible rfl))
    (try simp only [Act.put, List.setIfInBounds_toArray, List.set_cons_zero, List.set_cons_succ])
    refine' takeR (E := 15) (i := 9) (v := _) rfl (by kernel_rfl) (by kernel_rfl) (by kernel_rfl) (by kernel_rfl) (by rfl) HRf.out ?_ ?_; rotate_left
    · (intro V hSw; obtain ⟨y0, y1, y2, y3, y4, y5, y6⟩ := HV.out V hSw; go_simp; all_goals (with_reducible rfl))
    (try simp only [Act.put, List.setIfInBounds_toArray, List.set_cons_zero, List.set_cons_succ])
    refine' takeR (E := 15) (i := 10) (v := _) rfl (by kernel_rfl) (by kernel_rfl) (by kernel_rfl) (by kernel_rfl) (by rfl) HRf.out ?_ ?_; rotate_left
    · (intro V hSw; obtain ⟨y0, y1, y2, y3, y4, y5, y6⟩ := HV.out V hSw; go_simp; all_goals (with_reducible rfl))
    (try simp only [Act.put, List.setIfInBounds_toArray, List.set_cons_zero, List.set_cons_succ])
    refine bothX (i := 2) (j := 5) rfl rfl (by kernel_rfl) (fun K hK => ?_) (fun K hK => ?_)
    · skip
      obtain ⟨gk, cc, V1, hcv, hkf, hbk⟩ := HKy.out W.drew HB0'.out
      have HB1s := hide hbk
      have HKf0 := hide hkf
      clear hbk hkf
      go_simp
      have HKf := HKf0
      have HB1 := hide (HB0'.out.trans (HB1s.out.mono HB0'.out.size))
      refine hK.out _ _ (fun _ => Below.keeps HB1.out _) ?_
      clear hK K
      (try simp only [Act.put, List.setIfInBounds_toArray, List.set_cons_zero, List.set_cons_succ])
      refine callX (i := 5) rfl (by kernel_rfl) (fun K hK => ?_)
      go_simp
      refine (HU.out V1 HB1.out).mono ?_
      rintro e V2 ⟨a5, n5, c5, rfl, hn5, hy5, hbk⟩
      have HB2s := hide hbk
      have HKf := hide (HKf.out.keep HB2s.out)
      have HYv := hide hy5
      clear hbk hy5
      have HB2 := hide (HB1.out.trans (HB2s.out.mono HB1.out.size))
      refine hK.out _ _ (fun _ => Below.keeps HB2.out _) ?_
      clear hK K
      (try simp only [Act.put, List.setIfInBounds_toArray, List.set_cons_zero, List.set_cons_succ])
      refine callX (i := 6) rfl (by kernel_rfl) (fun K hK => ?_)
      go_simp
      refine (HCp.out V2 HB2.out a5 n5 c5 hn5 HYv.out).mono ?_
      rintro e V3 ⟨a6, n6, c6, ms6, rfl, he6, ho6, hf6, hbk⟩
      have HB3s := hide hbk
      have HKf := hide (HKf.out.keep HB3s.out)
      have HE6 := hide he6
      have HO6 := hide ho6
      have HF6 := hide hf6
      clear hbk he6 ho6 hf6
      have HB3 := hide (HB2.out.trans (HB3s.out.mono HB2.out.size))
      refine hK.out _ _ (fun _ => Below.keeps HB3.out _) ?_
      clear hK K
      (try simp only [Act.put, List.setIfInBounds_toArray, List.set_cons_zero, List.set_cons_succ])
      refine callX (i := 11) rfl (by kernel_rfl) (fun K hK => ?_)
      go_simp
      refine (HCo.out V3 HB3.out).mono ?_
      rintro e V4 ⟨m11, rfl, he11, hf11, hbk⟩
      have HB4s := hide hbk
      have HKf := hide (HKf.out.keep HB4s.out); have HO6 := hide (HO6.out.keep HB4s.out); have HF6 := hide (fun x hx => (HF6.out x hx).keep HB4s.out)
      have HE11 := hide he11
      have HF11 := hide hf11
      clear hbk he11 hf11
      have HB4 := hide (HB3.out.trans (HB4s.out.mono HB3.out.size))
      refine hK.out _ _ (fun _ => Below.keeps HB4.out _) ?_
      clear hK K
      (try simp only [Act.put, List.setIfInBounds_toArray, List.set_cons_zero, List.set_cons_succ])
      refine callX (i := 12) rfl (by kernel_rfl) (fun K hK => ?_)
      go_simp
      refine hK.out _ _ (fun _ => Below.keeps HB4.out _) ?_
      clear hK K
      (try simp only [Act.put, List.setIfInBounds_toArray, List.set_cons_zero, List.set_cons_succ])
      refine callX (i := 13) rfl (by kernel_rfl) (fun K hK => ?_)
      go_simp
      obtain ⟨Vn, hVn⟩ : ∃ Vn, Vn = V4.alloc (.cells #[.slice (some ⟨gk, 0, none⟩) m.key.length cc, .slice a6 n6 c6, .int .u64 m11.v.ts, .int .u64 m11.v.tx, .bool m11.v.dd, .slice m11.va m11.vn m11.vc, .slice m11.ka m11.kn m11.kc] 52) := ⟨_, rfl⟩
      rw [← hVn]
      have HNs : Hid (Below V4.heap.size V4 Vn) := (by rw [hVn]; exact new_below _ _)
      have HSr : Hid (SrcY layC Vn (some ⟨V4.heap.size, 0, none⟩) 1 [⟨m.key, some ⟨gk, 0, none⟩, m.key.length, cc, ms6, a6, n6, c6, m11⟩]) := (by rw [hVn]; exact srcY_one _ _ _ (by simp) (rangeY_new _ _ _ _ rfl))
      have HBn := hide (HB4.out.trans (HNs.out.mono HB4.out.size))
      refine hK.out _ _ (fun _ => Below.keeps HBn.out _) ?_
      clear hK K
      (try simp only [Act.put, List.setIfInBounds_toArray, List.set_cons_zero, List.set_cons_succ])
      refine callX (i := 14) rfl (by kernel_rfl) (fun K hK => ?_)
      refine step_joinY layC _ (by rfl) _ _ rfl (w2.heap.size + 2) (.slice sa sn sc) ms rfl (HI.out.own.keep (show Below W.heap.size W Vn from (Below.refl _ W).drew.trans HBn.out)) (some ⟨V4.heap.size, 0, none⟩) 1 1 [⟨m.key, some ⟨gk, 0, none⟩, m.key.length, cc, ms6, a6, n6, c6, m11⟩] rfl HSr.out (by simp; omega) (by have := HBn.out.size; have : W.drew.heap.size = W.heap.size := rfl; omega) ?_
      intro v' w3 hO3 hg3 ha3
      obtain ⟨va3, vn3, vc3, rfl, -, -, -⟩ := hO3.any4
      have hft := (foot_mc HKf.out HO6.out HF6.out HF11.out).keep HNs.out
      obtain ⟨hI3, hp3, c3, f3⟩ := HI.out.grow (by omega) (show Below W.heap.size W Vn from (Below.refl _ W).drew.trans HBn.out) (by omega) hft hO3 hg3 ha3
      have HK3 := hide (kpThen (X' := fun k => (Value.slice sa sn sc).ownBlock = some k) (Below.keeps HBn.out _) (fun k hk => .inl hk) (grown_keeps hg3))
      refine hK.out _ _ (fun _ => HK3.out) ?_
      clear hK K
      (try simp only [Act.put, List.setIfInBounds_toArray, List.set_cons_zero, List.set_cons_succ])
      have HI3 := hide hI3
      have HP3 := hide hp3
      clear hI3 hp3 hO3 hg3 ha3 hVn
      refine callX (i := 15) rfl (by kernel_rfl) (fun K hK => ?_)
      go_simp
      refine hK.out _ _ (fun h => absurd rfl h) ?_
      clear hK K
      (try simp only [Act.put, List.setIfInBounds_toArray, List.set_cons_zero, List.set_cons_succ])
      refine doneX (by kernel_rfl) ?_ _
      simp only [calmV]
      gi_wp2
      refine ⟨HP3.out _ (by omega) (by omega), HP3.out _ (by omega) (by omega), _, _, HI3.out, ?_⟩
      rw [List.map_append, HE.out, List.take_add_one, List.getElem?_map, HM.out]
      have hcE : MC.c ⟨m.key, some ⟨gk, 0, none⟩, m.key.length, cc, ms6, a6, n6, c6, m11⟩ = cutP ts m := by show Cel.mk _ _ _ = _; unfold cutP; rw [HE6.out, HE11.out]
      simp only [List.map_cons, List.map_nil, hcE]
      rfl
    · skip
      go_simp
      refine (HU.out W.drew HB0'.out).mono ?_
      rintro e V1 ⟨a5, n5, c5, rfl, hn5, hy5, hbk⟩
      have HB1s := hide hbk
      have HYv := hide hy5
      clear hbk hy5
      have HB1 := hide (HB0'.out.trans (HB1s.out.mono HB0'.out.size))
      refine hK.out _ _ (fun _ => Below.keeps HB1.out _) ?_
      clear hK K
      (try simp only [Act.put, List.setIfInBounds_toArray, List.set_cons_zero, List.set_cons_succ])
      refine bothX (i := 2) (j := 6) rfl rfl (by kernel_rfl) (fun K hK => ?_) (fun K hK => ?_)
      · skip
        obtain ⟨gk, cc, V2, hcv, hkf, hbk⟩ := HKy.out V1 HB1.out
        have HB2s := hide hbk
        have HKf0 := hide hkf
        clear hbk hkf
        go_simp
        have HYv := hide (HYv.out.keep HB2s.out)
        have HKf := HKf0
        have HB2 := hide (HB1.out.trans (HB2s.out.mono HB1.out.size))
        refine hK.out _ _ (fun _ => Below.keeps HB2.out _) ?_
        clear hK K
        (try simp only [Act.put, List.setIfInBounds_toArray, List.set_cons_zero, List.set_cons_succ])
        refine callX (i := 6) rfl (by kernel_rfl) (fun K hK => ?_)
        go_simp
        refine (HCp.out V2 HB2.out a5 n5 c5 hn5 HYv.out).mono ?_
        rintro e V3 ⟨a6, n6, c6, ms6, rfl, he6, ho6, hf6, hbk⟩
        have HB3s := hide hbk
        have HKf := hide (HKf.out.keep HB3s.out)
        have HE6 := hide he6
        have HO6 := hide ho6
        have HF6 := hide hf6
        clear hbk he6 ho6 hf6
        have HB3 := hide (HB2.out.trans (HB3s.out.mono HB2.out.size))
        refine hK.out _ _ (fun _ => Below.keeps HB3.out _) ?_
        clear hK K
        (try simp only [Act.put, List.setIfInBounds_toArray, List.set_cons_zero, List.set_cons_succ])
        refine callX (i := 11) rfl (by kernel_rfl) (fun K hK => ?_)
        go_simp
        refine (HCo.out V3 HB3.out).mono ?_
        rintro e V4 ⟨m11, rfl, he11, hf11, hbk⟩
        have HB4s := hide hbk
        have HKf := hide (HKf.out.keep HB4s.out); have HO6 := hide (HO6.out.keep HB4s.out); have HF6 := hide (fun x hx => (HF6.out x hx).keep HB4s.out)
        have HE11 := hide he11
        have HF11 := hide hf11
        clear hbk he11 hf11
        have HB4 := hide (HB3.out.trans (HB4s.out.mono HB3.out.size))
        refine hK.out _ _ (fun _ => Below.keeps HB4.out _) ?_
        clear hK K
        (try simp only [Act.put, List.setIfInBounds_toArray, List.set_cons_zero, List.set_cons_succ])
        refine callX (i := 12) rfl (by kernel_rfl) (fun K hK => ?_)
        go_simp
        refine hK.out _ _ (fun _ => Below.keeps HB4.out _) ?_
        clear hK K
        (try simp only [Act.put, List.setIfInBounds_toArray, List.set_cons_zero, List.set_cons_succ])
        refine callX (i := 13) rfl (by kernel_rfl) (fun K hK => ?_)
        go_simp
        obtain ⟨Vn, hVn⟩ : ∃ Vn, Vn = V4.alloc (.cells #[.slice (some ⟨gk, 0, none⟩) m.key.length cc, .slice a6 n6 c6, .int .u64 m11.v.ts, .int .u64 m11.v.tx, .bool m11.v.dd, .slice m11.va m11.vn m11.vc, .slice m11.ka m11.kn m11.kc] 52) := ⟨_, rfl⟩
        rw [← hVn]
        have HNs : Hid (Below V4.heap.size V4 Vn) := (by rw [hVn]; exact new_below _ _)
        have HSr : Hid (SrcY layC Vn (some ⟨V4.heap.size, 0, none⟩) 1 [⟨m.key, some ⟨gk, 0, none⟩, m.key.length, cc, ms6, a6, n6, c6, m11⟩]) := (by rw [hVn]; exact srcY_one _ _ _ (by simp) (rangeY_new _ _ _ _ rfl))
        have HBn := hide (HB4.out.trans (HNs.out.mono HB4.out.size))
        refine hK.out _ _ (fun _ => Below.keeps HBn.out _) ?_
        clear hK K
        (try simp only [Act.put, List.setIfInBounds_toArray, List.set_cons_zero, List.set_cons_succ])
        refine callX (i := 14) rfl (by kernel_rfl) (fun K hK => ?_)
        refine step_joinY layC _ (by rfl) _ _ rfl (w2.heap.size + 2) (.slice sa sn sc) ms rfl (HI.out.own.keep (show Below W.heap.size W Vn from (Below.refl _ W).drew.trans HBn.out)) (some ⟨V4.heap.size, 0, none⟩) 1 1 [⟨m.key, some ⟨gk, 0, none⟩, m.key.length, cc, ms6, a6, n6, c6, m11⟩] rfl HSr.out (by simp; omega) (by have := HBn.out.size; have : W.drew.heap.size = W.heap.size := rfl; omega) ?_
        intro v' w3 hO3 hg3 ha3
        obtain ⟨va3, vn3, vc3, rfl, -, -, -⟩ := hO3.any4
        have hft := (foot_mc HKf.out HO6.out HF6.out HF11.out).keep HNs.out
        obtain ⟨hI3, hp3, c3, f3⟩ := HI.out.grow (by omega) (show Below W.heap.size W Vn from (Below.refl _ W).drew.trans HBn.out) (by omega) hft hO3 hg3 ha3
        have HK3 := hide (kpThen (X' := fun k => (Value.slice sa sn sc).ownBlock = some k) (Below.keeps HBn.out _) (fun k hk => .inl hk) (grown_keeps hg3))
        refine hK.out _ _ (fun _ => HK3.out) ?_
        clear hK K
        (try simp only [Act.put, List.setIfInBounds_toArray, List.set_cons_zero, List.set_cons_succ])
        have HI3 := hide hI3
        have HP3 := hide hp3
        clear hI3 hp3 hO3 hg3 ha3 hVn
        refine callX (i := 15) rfl (by kernel_rfl) (fun K hK => ?_)
        go_simp
        refine hK.out _ _ (fun h => absurd rfl h) ?_
        clear hK K
        (try simp only [Act.put, List.setIfInBounds_toArray, List.set_cons_zero, List.set_cons_succ])
        refine doneX (by kernel_rfl) ?_ _
        simp only [calmV]
        gi_wp2
        refine ⟨HP3.out _ (by omega) (by omega), HP3.out _ (by omega) (by omega), _, _, HI3.out, ?_⟩
        rw [List.map_append, HE.out, List.take_add_one, List.getElem?_map, HM.out]
        have hcE : MC.c ⟨m.key, some ⟨gk, 0, none⟩, m.key.length, cc, ms6, a6, n6, c6, m11⟩ = cutP ts m := by show Cel.mk _ _ _ = _; unfold cutP; rw [HE6.out, HE11.out]
        simp only [List.map_cons, List.map_nil, hcE]
        rfl
      · skip
        go_simp
        refine (HCp.out V1 HB1.out a5 n5 c5 hn5 HYv.out).mono ?_
        rintro e V2 ⟨a6, n6, c6, ms6, rfl, he6, ho6, hf6, hbk⟩
        have HB2s := hide hbk
        have HE6 := hide he6
        have HO6 := hide ho6
        have HF6 := hide hf6
        clear hbk he6 ho6 hf6
        have HB2 := hide (HB1.out.trans (HB2s.out.mono HB1.out.size))
        refine hK.out _ _ (fun _ => Below.keeps HB2.out _) ?_
        clear hK K
        (try simp only [Act.put, List.setIfInBounds_toArray, List.set_cons_zero, List.set_cons_succ])
        refine bothX (i := 2) (j := 11) rfl rfl (by kernel_rfl) (fun K hK => ?_) (fun K hK => ?_)
        · skip
          obtain ⟨gk, cc, V3, hcv, hkf, hbk⟩ := HKy.out V2 HB2.out
          have HB3s := hide hbk
          have HKf0 := hide hkf
          clear hbk hkf
          go_simp
          have HO6 := hide (HO6.out.keep HB3s.out); have HF6 := hide (fun x hx => (HF6.out x hx).keep HB3s.out)
          have HKf := HKf0
          have HB3 := hide (HB2.out.trans (HB3s.out.mono HB2.out.size))
          refine hK.out _ _ (fun _ => Below.keeps HB3.out _) ?_
          clear hK K
          (try simp only [Act.put, List.setIfInBounds_toArray, List.set_cons_zero, List.set_cons_succ])
          refine callX (i := 11) rfl (by kernel_rfl) (fun K hK => ?_)
          go_simp
          refine (HCo.out V3 HB3.out).mono ?_
          rintro e V4 ⟨m11, rfl, he11, hf11, hbk⟩
          have HB4s := hide hbk
          have HKf := hide (HKf.out.keep HB4s.out); have HO6 := hide (HO6.out.keep HB4s.out); have HF6 := hide (fun x hx => (HF6.out x hx).keep HB4s.out)
          have HE11 := hide he11
          have HF11 := hide hf11
          clear hbk he11 hf11
          have HB4 := hide (HB3.out.trans (HB4s.out.mono HB3.out.size))
          refine hK.out _ _ (fun _ => Below.keeps HB4.out _) ?_
          clear hK K
          (try simp only [Act.put, List.setIfInBounds_toArray, List.set_cons_zero, List.set_cons_succ])
          refine callX (i := 12) rfl (by kernel_rfl) (fun K hK => ?_)
          go_simp
          refine hK.out _ _ (fun _ => Below.keeps HB4.out _) ?_
          clear hK K
          (try simp only [Act.put, List.setIfInBounds_toArray, List.set_cons_zero, List.set_cons_succ])
          refine callX (i := 13) rfl (by kernel_rfl) (fun K hK => ?_)
          go_simp
          obtain ⟨Vn, hVn⟩ : ∃ Vn, Vn = V4.alloc (.cells #[.slice (some ⟨gk, 0, none⟩) m.key.length cc, .slice a6 n6 c6, .int .u64 m11.v.ts, .int .u64 m11.v.tx, .bool m11.v.dd, .slice m11.va m11.vn m11.vc, .slice m11.ka m11.kn m11.kc] 52) := ⟨_, rfl⟩
          rw [← hVn]
          have HNs : Hid (Below V4.heap.size V4 Vn) := (by rw [hVn]; exact new_below _ _)
          have HSr : Hid (SrcY layC Vn (some ⟨V4.heap.size, 0, none⟩) 1 [⟨m.key, some ⟨gk, 0, none⟩, m.key.length, cc, ms6, a6, n6, c6, m11⟩]) := (by rw [hVn]; exact srcY_one _ _ _ (by simp) (rangeY_new _ _ _ _ rfl))
          have HBn := hide (HB4.out.trans (HNs.out.mono HB4.out.size))
          refine hK.out _ _ (fun _ => Below.keeps HBn.out _) ?_
          clear hK K
          (try simp only [Act.put, List.setIfInBounds_toArray, List.set_cons_zero, List.set_cons_succ])
          refine callX (i := 14) rfl (by kernel_rfl) (fun K hK => ?_)
          refine step_joinY layC _ (by rfl) _ _ rfl (w2.heap.size + 2) (.slice sa sn sc) ms rfl (HI.out.own.keep (show Below W.heap.size W Vn from (Below.refl _ W).drew.trans HBn.out)) (some ⟨V4.heap.size, 0, none⟩) 1 1 [⟨m.key, some ⟨gk, 0, none⟩, m.key.length, cc, ms6, a6, n6, c6, m11⟩] rfl HSr.out (by simp; omega) (by have := HBn.out.size; have : W.drew.heap.size = W.heap.size := rfl; omega) ?_
          intro v' w3 hO3 hg3 ha3
          obtain ⟨va3, vn3, vc3, rfl, -, -, -⟩ := hO3.any4
          have hft := (foot_mc HKf.out HO6.out HF6.out HF11.out).keep HNs.out
          obtain ⟨hI3, hp3, c3, f3⟩ := HI.out.grow (by omega) (show Below W.heap.size W Vn from (Below.refl _ W).drew.trans HBn.out) (by omega) hft hO3 hg3 ha3
          have HK3 := hide (kpThen (X' := fun k => (Value.slice sa sn sc).ownBlock = some k) (Below.keeps HBn.out _) (fun k hk => .inl hk) (grown_keeps hg3))
          refine hK.out _ _ (fun _ => HK3.out) ?_
          clear hK K
          (try simp only [Act.put, List.setIfInBounds_toArray, List.set_cons_zero, List.set_cons_succ])
          have HI3 := hide hI3
          have HP3 := hide hp3
          clear hI3 hp3 hO3 hg3 ha3 hVn
          refine callX (i := 15) rfl (by kernel_rfl) (fun K hK => ?_)
          go_simp
          refine hK.out _ _ (fun h => absurd rfl h) ?_
          clear hK K
          (try simp only [Act.put, List.setIfInBounds_toArray, List.set_cons_zero, List.set_cons_succ])
          refine doneX (by kernel_rfl) ?_ _
          simp only [calmV]
          gi_wp2
          refine ⟨HP3.out _ (by omega) (by omega), HP3.out _ (by omega) (by omega), _, _, HI3.out, ?_⟩
          rw [List.map_append, HE.out, List.take_add_one, List.getElem?_map, HM.out]
          have hcE : MC.c ⟨m.key, some ⟨gk, 0, none⟩, m.key.length, cc, ms6, a6, n6, c6, m11⟩ = cutP ts m := by show Cel.mk _ _ _ = _; unfold cutP; rw [HE6.out, HE11.out]
          simp only [List.map_cons, List.map_nil, hcE]
          rfl
        · skip
          go_simp
          refine (HCo.out V2 HB2.out).mono ?_
          rintro e V3 ⟨m11, rfl, he11, hf11, hbk⟩
          have HB3s := hide hbk
          have HO6 := hide (HO6.out.keep HB3s.out); have HF6 := hide (fun x hx => (HF6.out x hx).keep HB3s.out)
          have HE11 := hide he11
          have HF11 := hide hf11
          clear hbk he11 hf11
          have HB3 := hide (HB2.out.trans (HB3s.out.mono HB2.out.size))
          refine hK.out _ _ (fun _ => Below.keeps HB3.out _) ?_
          clear hK K
          (try simp only [Act.put, List.setIfInBounds_toArray, List.set_cons_zero, List.set_cons_succ])
          refine callX (i := 2) rfl (by kernel_rfl) (fun K hK => ?_)
          obtain ⟨gk, cc, V4, hcv, hkf, hbk⟩ := HKy.out V3 HB3.out
          have HB4s := hide hbk
          have HKf0 := hide hkf
          clear hbk hkf
          go_simp
          have HO6 := hide (HO6.out.keep HB4s.out); have HF6 := hide (fun x hx => (HF6.out x hx).keep HB4s.out); have HF11 := hide (HF11.out.keep HB4s.out)
          have HKf := HKf0
          have HB4 := hide (HB3.out.trans (HB4s.out.mono HB3.out.size))
          refine hK.out _ _ (fun _ => Below.keeps HB4.out _) ?_
          clear hK K
          (try simp only [Act.put, List.setIfInBounds_toArray, List.set_cons_zero, List.set_cons_succ])
          refine callX (i := 12) rfl (by kernel_rfl) (fun K hK => ?_)
          go_simp
          refine hK.out _ _ (fun _ => Below.keeps HB4.out _) ?_
          clear hK K
          (try simp only [Act.put, List.setIfInBounds_toArray, List.set_cons_zero, List.set_cons_succ])
          refine callX (i := 13) rfl (by kernel_rfl) (fun K hK => ?_)
          go_simp
          obtain ⟨Vn, hVn⟩ : ∃ Vn, Vn = V4.alloc (.cells #[.slice (some ⟨gk, 0, none⟩) m.key.length cc, .slice a6 n6 c6, .int .u64 m11.v.ts, .int .u64 m11.v.tx, .bool m11.v.dd, .slice m11.va m11.vn m11.vc, .slice m11.ka m11.kn m11.kc] 52) := ⟨_, rfl⟩
          rw [← hVn]
          have HNs : Hid (Below V4.heap.size V4 Vn) := (by rw [hVn]; exact new_below _ _)
          have HSr : Hid (SrcY layC Vn (some ⟨V4.heap.size, 0, none⟩) 1 [⟨m.key, some ⟨gk, 0, none⟩, m.key.length, cc, ms6, a6, n6, c6, m11⟩]) := (by rw [hVn]; exact srcY_one _ _ _ (by simp) (rangeY_new _ _ _ _ rfl))
          have HBn := hide (HB4.out.trans (HNs.out.mono HB4.out.size))
          refine hK.out _ _ (fun _ => Below.keeps HBn.out _) ?_
          clear hK K
          (try simp only [Act.put, List.setIfInBounds_toArray, List.set_cons_zero, List.set_cons_succ])
          refine callX (i := 14) rfl (by kernel_rfl) (fun K hK => ?_)
          refine step_joinY layC _ (by rfl) _ _ rfl (w2.heap.size + 2) (.slice sa sn sc) ms rfl (HI.out.own.keep (show Below W.heap.size W Vn from (Below.refl _ W).drew.trans HBn.out)) (some ⟨V4.heap.size, 0, none⟩) 1 1 [⟨m.key, some ⟨gk, 0, none⟩, m.key.length, cc, ms6, a6, n6, c6, m11⟩] rfl HSr.out (by simp; omega) (by have := HBn.out.size; have : W.drew.heap.size = W.heap.size := rfl; omega) ?_
          intro v' w3 hO3 hg3 ha3
          obtain ⟨va3, vn3, vc3, rfl, -, -, -⟩ := hO3.any4
          have hft := (foot_mc HKf.out HO6.out HF6.out HF11.out).keep HNs.out
          obtain ⟨hI3, hp3, c3, f3⟩ := HI.out.grow (by omega) (show Below W.heap.size W Vn from (Below.refl _ W).drew.trans HBn.out) (by omega) hft hO3 hg3 ha3
          have HK3 := hide (kpThen (X' := fun k => (Value.slice sa sn sc).ownBlock = some k) (Below.keeps HBn.out _) (fun k hk => .inl hk) (grown_keeps hg3))
          refine hK.out _ _ (fun _ => HK3.out) ?_
          clear hK K
          (try simp only [Act.put, List.setIfInBounds_toArray, List.set_cons_zero, List.set_cons_succ])
          have HI3 := hide hI3
          have HP3 := hide hp3
          clear hI3 hp3 hO3 hg3 ha3 hVn
          refine callX (i := 15) rfl (by kernel_rfl) (fun K hK => ?_)
          go_simp
          refine hK.out _ _ (fun h => absurd rfl h) ?_
          clear hK K
          (try simp only [Act.put, List.setIfInBounds_toArray, List.set_cons_zero, List.set_cons_succ])
          refine doneX (by kernel_rfl) ?_ _
          simp only [calmV]
          gi_wp2
          refine ⟨HP3.out _ (by omega) (by omega), HP3.out _ (by omega) (by omega), _, _, HI3.out, ?_⟩
          rw [List.map_append, HE.out, List.take_add_one, List.getElem?_map, HM.out]
          have hcE : MC.c ⟨m.key, some ⟨gk, 0, none⟩, m.key.length, cc, ms6, a6, n6, c6, m11⟩ = cutP ts m := by show Cel.mk _ _ _ = _; unfold cutP; rw [HE6.out, HE11.out]
          simp only [List.map_cons, List.map_nil, hcE]
          rfl
  case refine'_7 =>
    rintro W ⟨v, ms, hI, he⟩ hD
    have HD := hide hD
    have c1 := hI.c1
    have HI := hide hI
    have HE := hide he
    clear hI he hD
    gi_wp2
    refine ⟨by simp, .inl ⟨_, _, rfl, run_takeDeferred HD.out, ?_⟩⟩
    have hI2 := HI.out.put (by omega) w2.heap.size (Nat.le_refl _) (by omega) (.deferred none)
    refine ⟨_, results_tmp rfl _ _ _, ?_⟩
    refine ⟨v, ms, rfl, hI2.own.mono (by omega), ?_, fun m hm => (hI2.ft m hm).more (fun k hk => .inl (hk.imp (fun h => by omega) id)), ?_⟩
    · rw [HE.out, List.take_of_length_le (by rw [List.length_map]; omega)]
      exact scanP_eq lo hi ts cs H.out.go
    · exact HBw2.out.trans ((hI2.kp.below (B := w.heap.size) HBw2.out.size (fun k (e : k = w.heap.size + 4) => by omega)))

end Go.Proofs.Ytfldiapdfpkdaaa
