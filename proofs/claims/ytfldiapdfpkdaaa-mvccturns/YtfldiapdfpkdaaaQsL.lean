/- The program's store: Intents. -/
import Derived.Test.YtfldiapdfpkdaaaQsG
import Derived.Test.YtfldiapdfpkdaaaMv7
import Derived.Lib.ConvBytes
import Derived.Test.YtfldiapdfpkdaaaCvK
import Derived.OwnWalkIn
namespace Go.Proofs.Ytfldiapdfpkdaaa
open Go.RowKit Go.Shelf NumMath Go.ChangeShapes Go.WideShapes Go.Deep
set_option linter.unusedVariables false
set_option maxRecDepth 100000

attribute [local go_sem] Oper.semAt_some

theorem wpIn_joinY {α : Type} (L : Lay α) {F : Fence} {n : Nat} {ops : Array Oper} {rest : List Oper} {o : Oper} {a : Act} {Q : Exit → Act → World → Prop} (w : World) (hgd : o.guard = none) (s x : Operand)
    (ho : o.op = .call { callee := .builtin .append, args := #[s, x], argTypes := #[L.t, L.t] }) (base : Nat) (v : Value) (xs : List α) (hs : a.eval s = v) (hown : OwnY L w base v xs)
    (sa : Option Addr) (m c : Nat) (ys : List α) (hx : a.eval x = .slice sa m c) (hB : SrcY L w sa m ys) (hbig : xs.length + ys.length ≤ 1000000000) (hbase : base ≤ w.heap.size)
    (h : ∀ v' w', OwnY L w' base v' (xs ++ ys) → w.grownBy w' v.ownBlock → AtB w v v' → wpListIn F n Try.prog ops Q rest (a.put o.dst v') w') : wpListIn F n Try.prog ops Q (o :: rest) a w := by
  refine wpListIn_plain hgd fun K hK' => ?_
  obtain ⟨v', w', hrun, r1, r2, r3⟩ := run_joinY L w o.type base v xs hown sa m c ys hB hbig hbase
  unfold Oper.wpIn
  refine ⟨?_, ?_⟩
  · simp [Oper.about, ho, resolve, Target.leads, Sem.run_pure]
  · rw [Oper.semAt_plain F _ _ (by rw [ho]; intro c hc'; cases hc')]
    simp [execOp, ho, resolve, invoke, builtin, hs, hx, hrun, Result.andThen]
    exact hK' _ _ (h v' w' r1 r2 r3)

theorem grown_keeps {w w' : World} {o : Option Nat} (h : w.grownBy w' o) : Keeps (fun k => o = some k) w w' :=
  ⟨h.os, h.tape, h.output, h.size, fun k hk hn => h.block k hk (fun e => hn e.symm)⟩

/-- a list that grows in a box, thing by thing; what its things lie in hangs on no block of X -/
structure InI {α : Type} (L : Lay α) (at_ : α → World → Prop) (w2 : World) (N1 : Nat) (v : Value) (ms : List α) (W : World) : Prop where
  kp : Keeps (fun k => k = N1) w2 W
  c1 : W.cell? ⟨N1, 0, none⟩ = some v
  f1 : W.frozen? ⟨N1, 0, none⟩ = false
  own : OwnY L W (w2.heap.size + 2) v ms
  ft : ∀ m ∈ ms, Foot (fun k => k < w2.heap.size + 2 ∨ v.ownBlock = some k) W (at_ m)

theorem InI.start {α : Type} {L : Lay α} {at_ : α → World → Prop} {w2 : World} {N1 : Nat} (h1 : N1 < w2.heap.size) (c1 : w2.cell? ⟨N1, 0, none⟩ = some (.slice none 0 0)) (f1 : w2.frozen? ⟨N1, 0, none⟩ = false) (o o' : Obj) : InI L at_ w2 N1 (.slice none 0 0) [] ((w2.alloc o).alloc o') := by
  have hb : Below w2.heap.size w2 ((w2.alloc o).alloc o') := belY (belY (Below.refl _ _) _) _
  exact ⟨Below.keeps hb _, (hb.cell (p := ⟨N1, 0, none⟩) h1).trans c1, (hb.frozen (p := ⟨N1, 0, none⟩) h1).trans f1, ownY_nil _ _, fun m hm => by cases hm⟩

theorem InI.put {α : Type} {L : Lay α} {at_ : α → World → Prop} {w2 W : World} {N1 : Nat} {v : Value} {ms : List α} (h : InI L at_ w2 N1 v ms W) (h1 : N1 < w2.heap.size) (l : Nat) (hl1 : w2.heap.size ≤ l) (hl2 : l < w2.heap.size + 2) (o : Obj) : InI L at_ w2 N1 v ms (W.putObj l o) := by
  have hp : Keeps (fun k => k = l) W (W.putObj l o) := ⟨rfl, rfl, rfl, by simp [World.putObj], fun k _ hn => World.putObj_heap_other hn⟩
  refine ⟨kpThen h.kp (fun k (e : k = l) => .inr (by omega)) hp, ?_, ?_, h.own.lies (fun g hg => World.putObj_heap_other (by have := (h.own.lt g hg).1; omega)), fun m hm => (h.ft m hm).step (Keeps.wider hp (fun k e => .inl (by omega))) (fun k hk => .inl hk)⟩
  · exact (World.cell?_of_block (a := ⟨N1, 0, none⟩) (World.putObj_heap_other (by show N1 ≠ l; omega))).trans h.c1
  · exact (World.frozen?_of_block (a := ⟨N1, 0, none⟩) (World.putObj_heap_other (by show N1 ≠ l; omega))).trans h.f1

/-- one thing more: W1 is behind what made it (new blocks alone), w' behind the append -/
theorem InI.grow {α : Type} {L : Lay α} {at_ : α → World → Prop} {w2 W W1 w' : World} {N1 : Nat} {v v' : Value} {ms : List α} {m : α} (h : InI L at_ w2 N1 v ms W) (h1 : N1 < w2.heap.size) (hb : Below W.heap.size W W1) (hs : w2.heap.size + 2 ≤ W.heap.size) (hm : Foot (fun k => k < W.heap.size) W1 (at_ m))
    (ho : OwnY L w' (w2.heap.size + 2) v' (ms ++ [m])) (hg : W1.grownBy w' v.ownBlock) (ha : AtB W1 v v') :
    InI L at_ w2 N1 v' (ms ++ [m]) (w'.setCell ⟨N1, 0, none⟩ v') ∧ (∀ k, w2.heap.size ≤ k → k < w2.heap.size + 2 → (w'.setCell ⟨N1, 0, none⟩ v').heap[k]? = W.heap[k]?) ∧ w'.cell? ⟨N1, 0, none⟩ = some v ∧ w'.frozen? ⟨N1, 0, none⟩ = false := by
  have hlt : N1 < W.heap.size := by have := h.kp.size; omega
  have hvl : ∀ g, v.ownBlock = some g → w2.heap.size + 2 ≤ g ∧ g < W.heap.size := h.own.lt
  have hNv : v.ownBlock ≠ some N1 := fun e => by have := hvl _ e; omega
  have hgk := grown_keeps hg
  have hbk : ∀ k, k < W.heap.size → v.ownBlock ≠ some k → w'.heap[k]? = W.heap[k]? := fun k hk hn => (hgk.block k (Nat.lt_of_lt_of_le hk hb.size) hn).trans (hb.block k hk)
  have c2 := (World.cell?_of_block (a := ⟨N1, 0, none⟩) (hbk N1 hlt hNv)).trans h.c1
  have f2 := (World.frozen?_of_block (a := ⟨N1, 0, none⟩) (hbk N1 hlt hNv)).trans h.f1
  have hset := keepsY_cell (w := w') (g := N1) (i := 0) v'
  refine ⟨⟨?_, ?_, ?_, ?_, ?_⟩, ?_, c2, f2⟩
  · exact kpThen (kpThen (kpThen h.kp (fun k hk => .inl hk) (Below.keeps hb _)) (fun k (hk : v.ownBlock = some k) => .inr (by have := hvl _ hk; omega)) hgk) (fun k hk => .inl hk) hset
  · exact World.cell?_setCell_same' _ _ _ (by rw [c2]; rfl)
  · rw [World.frozen?_setCell]; exact f2
  · exact ho.lies (fun g hg2 => hset.block g (ho.lt g hg2).2 (by have := (ho.lt g hg2).1; omega))
  · intro x hx
    have hY : ∀ k, (k < w2.heap.size + 2 ∨ v'.ownBlock = some k) → (k < w2.heap.size + 2 ∨ v.ownBlock = some k) ∨ W1.heap.size ≤ k := by
      rintro k (hk | hk)
      · exact .inl (.inl hk)
      · rcases ha with e | ⟨g, e, hge⟩
        · rw [e] at hk; exact .inl (.inr hk)
        · rw [e] at hk; cases hk; exact .inr hge
    have hfin : ∀ {X : Nat → Prop}, (∀ k, k < w2.heap.size + 2 ∨ v.ownBlock = some k → X k) → Foot X W1 (at_ x) → Foot (fun k => k < w2.heap.size + 2 ∨ v'.ownBlock = some k) (w'.setCell ⟨N1, 0, none⟩ v') (at_ x) := by
      intro X hX hf
      have hf1 : Foot (fun k => k < w2.heap.size + 2 ∨ v'.ownBlock = some k) w' (at_ x) := hf.step (Keeps.wider hgk (fun k hk => hX k (.inr hk))) (fun k hk => (hY k hk).imp (hX k) id)
      exact hf1.step (Keeps.wider hset (fun k e => .inl (by omega))) (fun k hk => .inl hk)
    rcases List.mem_append.1 hx with hx | hx
    · exact hfin (fun k hk => hk) ((h.ft x hx).keep hb)
    · simp at hx
      subst hx
      exact hfin (fun k hk => by rcases hk with hk | hk; omega; exact (hvl k hk).2) hm
  · intro k hk1 hk2
    have hn : v.ownBlock ≠ some k := fun e => by have := (hvl _ e).1; omega
    exact (hset.block k (by have := hgk.size; have := hb.size; omega) (by omega)).trans (hbk k (by omega) hn)

/-- a list of texts that a call made -/
def IntPost (w : World) (ks : List (List Int)) (e : Ending) (w' : World) : Prop :=
  ∃ v ms, e = .returned v ∧ OwnY layT w' w.heap.size v ms ∧ ms.map MB.t = ks ∧ (∀ m ∈ ms, Foot (fun k => k < w.heap.size ∨ v.ownBlock = some k) w' (fun w => m.at w)) ∧ Below w.heap.size w w'

theorem foot_newB {w : World} {g n c : Nat} {xs : List Int} (h : IsBytes w (some ⟨g, 0, none⟩) n c xs) {N : Nat} (hg : N ≤ g) : Foot (fun k => k < N) w (fun w => IsBytes w (some ⟨g, 0, none⟩) n c xs) :=
  foot_bytes h (.inr (fun y hy hx => by cases hy; simp at hx; omega))

set_option maxHeartbeats 4000000 in
theorem pInts_any (G : Nat → Prop) (base : Nat) (w : World) (p mb z : Nat) (cs : List PC) (h : IsS G base w p mb z cs) (hz : z ≤ 100000) (txn : Int) :
    Calls Try.prog 17 #[.pointer (some ⟨p, 0, none⟩), .int .u64 txn] w fun e w' => IntPost w (intentsC (cs.map PC.c) txn) e w' := by
  refine (callsIn_wide (n := 6)).1 ?_
  refine callsIn_of_wp_marks Try.func17 rfl trivial ?_ rfl
  simp only [Try.ntmps17, List.size_toArray, List.length_cons, List.length_nil, Nat.reduceAdd, Nat.reduceSub, Array.replicate_succ, Array.replicate_zero, List.push_toArray, List.append_toArray, List.nil_append, List.cons_append]
  obtain ⟨W0, hW0⟩ : ∃ W0, W0 = w.alloc (.cells #[.slice none 0 0] 34) := ⟨_, rfl⟩
  have hb0 : Below w.heap.size w W0 := by rw [hW0]; exact belY (Below.refl _ _) _
  have hs0 : W0.heap.size = w.heap.size + 1 := by rw [hW0]; simp
  have hN1 : W0.cell? ⟨w.heap.size, 0, none⟩ = some (.slice none 0 0) := by rw [hW0]; exact rangeY_new _ _ _ _ rfl 0 _ rfl
  have hF1 : W0.frozen? ⟨w.heap.size, 0, none⟩ = false := by rw [hW0]; exact fzY_new w #[.slice none 0 0] 34 0
  have H := hide h
  gi_wp2_with fail
  rw [← hW0]
  have HIt : Hid (∀ W, Below W0.heap.size W0 W → ∀ B, W.cell? ⟨B, 0, none⟩ = some (.int .u64 txn) → B < W.heap.size → Calls Try.prog 37 #[.pointer (some ⟨p, 0, none⟩), .func (.func 59) #[] #[.pointer (some ⟨B, 0, none⟩)]] W fun e w' => RisePost W (keysP (fun m => m.it.v.tx != 0 && m.it.v.tx == txn) cs) e w') := by
    intro W hW B hB hBl
    have hS := (h.keep hb0).keep hW
    exact rising_it G base W p mb z cs hS hz _ B (fun W2 m hm hb2 => intentOf1_any base W2 m ((hS.is m hm).keep hb2) _ txn B ((hb2.cell (p := ⟨B, 0, none⟩) hBl).trans hB))
  have HB0 := hide hb0
  have HS0 := hide hs0
  have HF1 := hide hF1
  have HN1 := hide hN1
  clear h hb0 hW0 hN1 hF1 hs0
  gi_wp2_with (first
    | (refine ⟨trivial, ?_⟩; gi_at_call 37; refine (callsIn_wide.2 (HIt.out _ HB1.out _ HBx.out HBl.out)).mono ?_; rintro e w2 ⟨Bs, a2, n2, c2, rfl, hBs1, hBs2, hBs3, hsrc, hal, hb2⟩; have HR2 := hide (And.intro hBs1 (And.intro hBs2 (And.intro hBs3 (And.intro hsrc (And.intro hal hb2))))); clear hBs1 hBs2 hBs3 hsrc hal hb2)
    | (refine ⟨trivial, ?_⟩; gi_at_call 43; refine (callsIn_wide.2 (intentOf_any txn _)).mono ?_; rintro e w1 ⟨rfl, hw1⟩; have HB1 : Hid (Below W0.heap.size W0 w1) := (by rw [hw1]; exact (Below.refl _ W0).alloc (Nat.le_refl _) _); have HBx : Hid (w1.cell? ⟨W0.heap.size, 0, none⟩ = some (.int .u64 txn)) := (by rw [hw1]; exact rangeY_new _ _ _ _ rfl 0 _ rfl); have HBl : Hid (W0.heap.size < w1.heap.size) := (by show _ < _; rw [hw1]; simp); clear hw1))
  obtain ⟨hBs1, hBs2, hBs3, hsrc, hal, hb2⟩ := HR2.out
  have hs1 : w.heap.size + 1 ≤ w1.heap.size := by have := HB1.out.size; rw [HS0.out] at this; exact this
  have hs2 : w1.heap.size ≤ w2.heap.size := hb2.size
  have HB02 : Hid (Below W0.heap.size W0 w2) := HB1.out.trans (hb2.mono HB1.out.size)
  have HBw2 : Hid (Below w.heap.size w w2) := HB0.out.trans (HB02.out.mono (by rw [HS0.out]; omega))
  have cN1' := (HB02.out.cell (p := ⟨w.heap.size, 0, none⟩) (by show w.heap.size < W0.heap.size; rw [HS0.out]; omega)).trans HN1.out
  have fN1' := (HB02.out.frozen (p := ⟨w.heap.size, 0, none⟩) (by show w.heap.size < W0.heap.size; rw [HS0.out]; omega)).trans HF1.out
  have hxs := hsrc
  rw [keys_it] at hxs
  have hln : (intentsC (cs.map PC.c) txn).length = n2 := by rw [← hxs.1, List.length_map]
  have hlz : (intentsC (cs.map PC.c) txn).length ≤ z := by
    unfold intentsC
    rw [List.length_map]
    have h1 := List.length_filter_le (isItC txn) (cs.map PC.c)
    rw [List.length_map] at h1
    have := H.out.few
    omega
  have HX := hide hxs
  have HAl := hide hal
  have HBs := hide (And.intro hBs1 (And.intro hBs2 hBs3))
  clear HR2 hsrc hxs hal hBs1 hBs2 hBs3 hb2 HIt
  refine' loopV (a₁ := _) (by omega) Bs n2 c2 a2 ((intentsC (cs.map PC.c) txn).map kb) HX.out.1 (by omega) rfl rfl (fun j W => ∃ v ms, InI layT (fun m w => m.at w) w2 w.heap.size v ms W ∧ ms.map MB.t = (intentsC (cs.map PC.c) txn).take j) _ _ _ _ _ _
  case refine'_1 =>
    intro o o'
    exact ⟨_, [], InI.start (by omega) cN1' fN1' o o', rfl⟩
  case refine'_2 =>
    rintro j W o ⟨v, ms, h, e⟩
    exact ⟨v, ms, h.put (by omega) _ (by omega) (by omega) o, e⟩
  case refine'_3 =>
    rintro j W ⟨v, ms, h, -⟩
    have hk := h.kp
    obtain ⟨b1, b2, b3⟩ := HBs.out
    refine ⟨(World.cell?_of_block (a := ⟨Bs, 0, none⟩) (hk.block Bs b2 (by omega))).trans b3, HX.out.1, ?_⟩
    rcases HX.out.2 with h0 | ⟨g, off, ha, hg, hC⟩
    · exact .inl h0
    · have := HAl.out _ ha
      dsimp only at this
      exact .inr ⟨g, off, ha, Nat.lt_of_lt_of_le hg hk.size, hC.same (hk.block g hg (by omega))⟩
  case refine'_5 =>
    intro x W K hK
    gi_wp2
    exact hK
  case refine'_6 =>
    rintro j x W hx ⟨v, ms, hI, he⟩ hlt
    obtain ⟨k, hk, rfl⟩ := map_get hx
    obtain ⟨c, hc, hck, -⟩ := intents_get hk
    obtain ⟨m0, hm0, hmc⟩ := List.mem_map.1 hc
    have hg := H.out.go m0 hm0
    have hmk : m0.key = k := by rw [← hck, ← hmc]; rfl
    have hkr := hg.key
    have hkl := hg.kl
    rw [hmk] at hkr hkl
    obtain ⟨cc, W1, hcv, hcB, hcb, hcs⟩ := conv_key k hkr (by omega) W
    have hes : encStr (kb k) = .string (strB k) := strB_kb k
    have c1 := hI.c1
    have hml : ms.length ≤ 100000 := by
      have h5 := congrArg List.length he
      rw [List.length_map, List.length_take] at h5
      omega
    have HI := hide hI
    have HE := hide he
    have HCB := hide hcB
    have HCb := hide hcb
    have HCs := hide hcs
    have HKj := hide hk
    clear hI he hcB hcb hcs hk hx hc hck hm0 hmc hg hmk hkr
    rw [hes]
    gi_wp2_with (first
      | (gi_at_builtin; refine wpIn_joinY layT _ rfl _ _ rfl (w2.heap.size + 2) v ms rfl (HI.out.own.keep (HCb.out.trans ((new_below W1 _).mono HCb.out.size))) (some ⟨W1.heap.size, 0, none⟩) 1 1 [⟨k, some ⟨W.heap.size, 0, none⟩, k.length, cc⟩] rfl (srcY_one _ _ _ (by simp) (rangeY_new _ _ _ _ rfl)) (by simp; omega) (by have := HCs.out; simp; omega) ?_; intro v' w3 hO3 hg3 ha3; obtain ⟨va3, vn3, vc3, rfl, -, -, -⟩ := hO3.any4; obtain ⟨hI3, hp3, c3, f3⟩ := HI.out.grow (by omega) (HCb.out.trans ((new_below W1 _).mono HCb.out.size)) (by omega) ((foot_newB HCB.out (Nat.le_refl _)).keep (new_below W1 _)) hO3 hg3 ha3; have HI3 := hide hI3; have HP3 := hide hp3; clear hI3 hp3 hO3 hg3 ha3))
    refine ⟨HP3.out _ (by omega) (by omega), HP3.out _ (by omega) (by omega), _, _, HI3.out, ?_⟩
    rw [List.map_append, HE.out, List.take_add_one, HKj.out]
    rfl
  case refine'_7 =>
    rintro W ⟨v, ms, hI, he⟩ hD
    have HD := hide hD
    have c1 := hI.c1
    have HI := hide hI
    have HE := hide he
    clear hI he hD
    gi_wp2
    refine ⟨by simp, .inl ⟨_, _, rfl, run_takeDeferred HD.out, ?_⟩⟩
    have hp : Keeps (fun k => k = w2.heap.size) W (W.putObj w2.heap.size (.deferred none)) := ⟨rfl, rfl, rfl, by simp [World.putObj], fun k _ hn => World.putObj_heap_other hn⟩
    have hI2 := HI.out.put (by omega) w2.heap.size (Nat.le_refl _) (by omega) (.deferred none)
    refine ⟨_, results_tmp rfl _ _ _, ?_⟩
    refine ⟨v, ms, rfl, hI2.own.mono (by omega), ?_, fun m hm => (hI2.ft m hm).more (fun k hk => .inl (hk.imp (fun h => by omega) id)), ?_⟩
    · rw [HE.out, List.take_of_length_le (by omega)]
    · exact HBw2.out.trans ((hI2.kp.below (B := w.heap.size) HBw2.out.size (fun k (e : k = w.heap.size) => by omega)))

end Go.Proofs.Ytfldiapdfpkdaaa
