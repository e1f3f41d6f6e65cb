/- The program's store: a key laid, a key struck. The program's store: made, New, cellOf, tidy. The program's store: Put. The program's store: At. The program's store: Intend. -/
import Derived.Test.YtfldiapdfpkdaaaPsD
import Derived.Test.YtfldiapdfpkdaaaTwA
namespace Go.Proofs.Ytfldiapdfpkdaaa
open Go.RowKit NumMath Go.ChangeShapes Go.WideShapes Go.Deep
set_option linter.unusedVariables false
set_option maxRecDepth 100000

theorem atS_isAt {cs : List PC} (hs : SortC (cs.map PC.c)) {key : List Int} {i : Nat} {m : PC} (hi : cs[i]? = some m) (hk : m.key = key) : isAt (cs.map PC.c) key = true ∧ plc (cs.map PC.c) key = i := by
  have hc : (cs.map PC.c)[i]? = some m.c := by rw [List.getElem?_map, hi]; rfl
  subst hk
  exact ⟨isAt_mem hs hc, plc_mem _ hs i m.c hc⟩

theorem atS_notAt {cs : List PC} {key : List Int} (h : atS cs key = none) : isAt (cs.map PC.c) key = false := by
  cases e : isAt (cs.map PC.c) key with
  | false => rfl
  | true =>
    obtain ⟨c, hc, hk⟩ := isAt_some e
    have := List.mem_of_getElem? hc
    obtain ⟨m, hm, rfl⟩ := List.mem_map.1 this
    exact absurd hk (atS_none h m hm)

theorem atS_mid (l1 l2 : List PC) (m : PC) (hm : ∀ x ∈ l1, x.key ≠ m.key) (k : List Int) : atS (l1 ++ m :: l2) k = if k = m.key then some m else atS (l1 ++ l2) k := by
  unfold atS
  by_cases e : k = m.key
  · subst e
    rw [if_pos rfl, List.find?_append, List.find?_eq_none.2 (fun x hx => by simpa using hm x hx)]
    simp
  · rw [if_neg e, List.find?_append, List.find?_append, List.find?_cons, decide_eq_false (fun h => e h.symm)]

/-- an empty cell -/
def pc0 (key : List Int) (N : Nat) : PC := ⟨key, N, .slice none 0 0, [], mv0⟩

theorem pc0_good {key : List Int} (hk : ∀ c ∈ key, 0 ≤ c ∧ c < 256) (hl : key.length ≤ 100000) (N z : Nat) : (pc0 key N).good z :=
  ⟨hk, hl, List.Pairwise.nil, by simp [pc0], fitV0, by simp [pc0]⟩

/-- a key's empty cell laid -/
theorem IsS.lay {G : Nat → Prop} {base : Nat} {w w2 : World} {p mb z : Nat} {cs : List PC} (h : IsS G base w p mb z cs) {key : List Int} (hk : ∀ c ∈ key, 0 ≤ c ∧ c < 256) (hl : key.length ≤ 100000) (ha : atS cs key = none)
    (hm : MapF w2 mb (z + 1) (fun k => if k = key then (w.heap.size : Int) else blkOf cs k)) (hg : (w.alloc (.cells #[.slice none 0 0, .int .u64 0, .int .u64 0, .bool false, .slice none 0 0, .slice none 0 0] 78)).grownBy w2 (some mb)) :
    IsS G base w2 p mb (z + 1) (cs.take (plc (cs.map PC.c) key) ++ pc0 key w.heap.size :: cs.drop (plc (cs.map PC.c) key)) ∧ Keeps (Mut mb cs) w w2 ∧
      (cs.take (plc (cs.map PC.c) key) ++ pc0 key w.heap.size :: cs.drop (plc (cs.map PC.c) key))[plc (cs.map PC.c) key]? = some (pc0 key w.heap.size) ∧
      (∀ k, Mut mb (cs.take (plc (cs.map PC.c) key) ++ pc0 key w.heap.size :: cs.drop (plc (cs.map PC.c) key)) k → Mut mb cs k ∨ w.heap.size ≤ k) ∧
      (cs.take (plc (cs.map PC.c) key) ++ pc0 key w.heap.size :: cs.drop (plc (cs.map PC.c) key)).map PC.c = insC (cs.map PC.c) key := by
  have hpl : plc (cs.map PC.c) key ≤ cs.length := by have := plc_le (cs.map PC.c) key; rwa [List.length_map] at this
  have hins : (cs.take (plc (cs.map PC.c) key) ++ pc0 key w.heap.size :: cs.drop (plc (cs.map PC.c) key)).map PC.c = insC (cs.map PC.c) key := by
    unfold insC
    rw [atS_notAt ha, if_neg (by simp), List.map_append, List.map_cons, List.map_take, List.map_drop]
    rfl
  have hsort : SortC ((cs.take (plc (cs.map PC.c) key) ++ pc0 key w.heap.size :: cs.drop (plc (cs.map PC.c) key)).map PC.c) := by rw [hins]; exact insC_sort h.sort key
  generalize plc (cs.map PC.c) key = i at *
  have hb0 := new_below w (.cells #[.slice none 0 0, .int .u64 0, .int .u64 0, .bool false, .slice none 0 0, .slice none 0 0] 78)
  have hs1 : (w.alloc (.cells #[.slice none 0 0, .int .u64 0, .int .u64 0, .bool false, .slice none 0 0, .slice none 0 0] 78)).heap.size = w.heap.size + 1 := by simp
  have hr0 := rangeY_new w w.heap.size #[.slice none 0 0, .int .u64 0, .int .u64 0, .bool false, .slice none 0 0, .slice none 0 0] 78 rfl
  have hf0 := fun j => fzY_new w #[.slice none 0 0, .int .u64 0, .int .u64 0, .bool false, .slice none 0 0, .slice none 0 0] 78 j
  generalize w.alloc (.cells #[.slice none 0 0, .int .u64 0, .int .u64 0, .bool false, .slice none 0 0, .slice none 0 0] 78) = w1 at *
  have hmbl := h.map.lt
  have hk12 : Keeps (fun k => k = mb) w1 w2 := ⟨hg.os, hg.tape, hg.output, hg.size, fun k hk hn => hg.block k hk (fun e => hn (Option.some.inj e))⟩
  have hkp : Keeps (Mut mb cs) w w2 := kpThen (Below.keeps hb0 _) (fun k (e : k = mb) => .inl (.inl e)) hk12
  have hsz : w.heap.size + 1 ≤ w2.heap.size := by rw [← hs1]; exact hg.size
  have hperm : (cs.take i ++ pc0 key w.heap.size :: cs.drop i).Perm (pc0 key w.heap.size :: cs) := by
    have := List.perm_middle (a := pc0 key w.heap.size) (l₁ := cs.take i) (l₂ := cs.drop i)
    rwa [List.take_append_drop] at this
  have hmem : ∀ x, x ∈ cs.take i ++ pc0 key w.heap.size :: cs.drop i → x = pc0 key w.heap.size ∨ x ∈ cs := fun x hx => List.mem_cons.1 (hperm.mem_iff.1 hx)
  have hblk0 : ∀ k, (pc0 key w.heap.size).blk k → k = w.heap.size := fun k hk => by
    rcases hk with hk | hk
    · exact hk
    · cases hk
  have hMn : ∀ k, Mut mb (cs.take i ++ pc0 key w.heap.size :: cs.drop i) k → Mut mb cs k ∨ w.heap.size ≤ k := fun k hk => by
    rcases hk with hk | ⟨x, hx, hk⟩
    · exact .inl (.inl hk)
    · rcases hmem x hx with rfl | hx
      · exact .inr (Nat.le_of_eq (hblk0 k hk).symm)
      · exact .inl (.inr ⟨x, hx, hk⟩)
  have hX : Keeps (MutG G mb cs) w w2 := Keeps.wider hkp (fun k hk => .inl hk)
  have hY : ∀ k, MutG G mb (cs.take i ++ pc0 key w.heap.size :: cs.drop i) k → MutG G mb cs k ∨ w.heap.size ≤ k := fun k hk => by
    rcases hk with hk | hk
    · rcases hMn k hk with h1 | h1
      · exact .inl (.inl h1)
      · exact .inr h1
    · exact .inl (.inr hk)
  have hpk : p < w1.heap.size := by have := h.lt; omega
  have hnN : w2.heap[w.heap.size]? = w1.heap[w.heap.size]? := hk12.block _ (by omega) (by omega)
  refine ⟨⟨?_, h.lo, Nat.lt_of_lt_of_le h.lt hkp.size, h.mlo, ?_, ?_, ?_, ?_, ?_, h.pm, ?_, ?_, hsort, ?_, h.gp, ?_, Nat.le_trans h.bs hkp.size, fun k hk => Nat.lt_of_lt_of_le (h.gl k hk) hkp.size⟩, hkp, ?_, hMn, hins⟩
  · have hp2 := hk12.block p hpk (fun e => h.pm e)
    exact (World.cell?_of_block (a := ⟨p, 0, none⟩) (hp2.trans (hb0.block p h.lt))).trans h.c
  · have e : blkOf (cs.take i ++ pc0 key w.heap.size :: cs.drop i) = fun k => if k = key then (w.heap.size : Int) else blkOf cs k := by
      funext k
      unfold blkOf
      rw [atS_mid _ _ _ (fun x hx => atS_none ha x (List.mem_of_mem_take hx))]
      by_cases e : k = key
      · subst e; simp [pc0]
      · have : ¬ k = (pc0 key w.heap.size).key := e
        rw [if_neg this, if_neg e, List.take_append_drop]
    rw [e]; exact hm
  · intro x hx
    rcases hmem x hx with rfl | hx
    · refine ⟨rangeY_same hr0 hnN, fun j => (World.frozen?_of_block (a := ⟨w.heap.size, j, none⟩) hnN).trans (hf0 j), h.bs, by show w.heap.size < _; omega, ownY_nil _ _, fun e => by cases e⟩
    · exact ((h.is x hx).keep hb0).lies hk12 (fun k hb2 e => h.mm x hx (by rw [← e]; exact hb2))
  · intro x hx
    rcases hmem x hx with rfl | hx
    · exact ⟨(by intro v hv; cases hv), mv0_foot _ _⟩
    · exact ⟨fun v hv => ((h.dat x hx).1 v hv).step hX hY, (h.dat x hx).2.step hX hY⟩
  · refine (hperm.pairwise_iff (fun {a b} hab k hb hka => hab k hka hb)).2 (List.pairwise_cons.2 ⟨fun x hx k hk hxk => ?_, h.ap⟩)
    have := (h.is x hx).blt hxk
    have := hblk0 k hk
    omega
  · intro x hx hb2
    rcases hmem x hx with rfl | hx
    · have := hblk0 _ hb2; omega
    · exact h.mm x hx hb2
  · intro x hx hb2
    rcases hmem x hx with rfl | hx
    · have := hblk0 _ hb2; have := h.lt; omega
    · exact h.pc x hx hb2
  · intro x hx
    rcases hmem x hx with rfl | hx
    · exact pc0_good hk hl _ _
    · exact (h.go x hx).more (by omega)
  · rw [hperm.length_eq, List.length_cons]; have := h.few; omega
  · intro k hk2 hG
    rcases hMn k hk2 with h1 | h1
    · exact h.gm k h1 hG
    · have := h.gl k hG; omega
  · rw [List.getElem?_append_right (by rw [List.length_take]; omega), List.length_take, Nat.min_eq_left hpl, Nat.sub_self]
    rfl

theorem atS_strike (cs : List PC) (key k : List Int) : atS (cs.filter (fun x => decide (x.key ≠ key))) k = if k = key then none else atS cs k := by
  unfold atS
  rw [List.find?_filter]
  by_cases e : k = key
  · subst e
    rw [if_pos rfl, List.find?_eq_none]
    intro x _
    simp
  · rw [if_neg e]
    congr 1
    funext x
    by_cases hx : x.key = k
    · simp [hx, e]
    · simp [hx]

/-- a key struck -/
theorem IsS.strike {G : Nat → Prop} {base : Nat} {w w2 : World} {p mb z : Nat} {cs : List PC} (h : IsS G base w p mb z cs) (key : List Int)
    (hm : MapF w2 mb z (fun k => if k = key then -1 else blkOf cs k)) (hg : w.grownBy w2 (some mb)) :
    IsS G base w2 p mb z (cs.filter (fun x => decide (x.key ≠ key))) ∧ Keeps (Mut mb cs) w w2 ∧ (∀ k, Mut mb (cs.filter (fun x => decide (x.key ≠ key))) k → Mut mb cs k) := by
  have hk12 : Keeps (fun k => k = mb) w w2 := ⟨hg.os, hg.tape, hg.output, hg.size, fun k hk hn => hg.block k hk (fun e => hn (Option.some.inj e))⟩
  have hkp : Keeps (Mut mb cs) w w2 := Keeps.wider hk12 (fun k e => .inl e)
  have hmem : ∀ x, x ∈ cs.filter (fun x => decide (x.key ≠ key)) → x ∈ cs := fun x hx => (List.mem_filter.1 hx).1
  have hMn : ∀ k, Mut mb (cs.filter (fun x => decide (x.key ≠ key))) k → Mut mb cs k := fun k hk => by
    rcases hk with hk | ⟨x, hx, hk⟩
    · exact .inl hk
    · exact .inr ⟨x, hmem x hx, hk⟩
  have hX : Keeps (MutG G mb cs) w w2 := Keeps.wider hkp (fun k hk => .inl hk)
  have hY : ∀ k, MutG G mb (cs.filter (fun x => decide (x.key ≠ key))) k → MutG G mb cs k ∨ w.heap.size ≤ k := fun k hk => by
    rcases hk with hk | hk
    · exact .inl (.inl (hMn k hk))
    · exact .inl (.inr hk)
  refine ⟨⟨?_, h.lo, Nat.lt_of_lt_of_le h.lt hkp.size, h.mlo, ?_, ?_, ?_, ?_, ?_, h.pm, ?_, ?_, ?_, ?_, h.gp, ?_, Nat.le_trans h.bs hkp.size, fun k hk => Nat.lt_of_lt_of_le (h.gl k hk) hkp.size⟩, hkp, hMn⟩
  · exact (World.cell?_of_block (a := ⟨p, 0, none⟩) (hk12.block p h.lt (fun e => h.pm e))).trans h.c
  · have e : blkOf (cs.filter (fun x => decide (x.key ≠ key))) = fun k => if k = key then -1 else blkOf cs k := by
      funext k
      unfold blkOf
      rw [atS_strike]
      by_cases e : k = key
      · rw [if_pos e, if_pos e]
      · rw [if_neg e, if_neg e]
    rw [e]; exact hm
  · intro x hx
    exact (h.is x (hmem x hx)).lies hk12 (fun k hb2 e => h.mm x (hmem x hx) (by rw [← e]; exact hb2))
  · intro x hx
    exact ⟨fun v hv => ((h.dat x (hmem x hx)).1 v hv).step hX hY, (h.dat x (hmem x hx)).2.step hX hY⟩
  · exact h.ap.sublist List.filter_sublist
  · exact fun x hx => h.mm x (hmem x hx)
  · exact fun x hx => h.pc x (hmem x hx)
  · exact fun x hx => h.go x (hmem x hx)
  · exact h.sort.sublist (List.filter_sublist.map _)
  · exact Nat.le_trans (List.length_filter_le _ _) h.few
  · exact fun k hk => h.gm k (hMn k hk)

end Go.Proofs.Ytfldiapdfpkdaaa

namespace Go.Proofs.Ytfldiapdfpkdaaa
open Go.RowKit NumMath Go.ChangeShapes Go.WideShapes Go.Deep
set_option linter.unusedVariables false
set_option maxRecDepth 100000

theorem pmade_any (w : World) (p mb : Nat) (h : w.cell? ⟨p, 0, none⟩ = some (.map (some mb))) :
    Calls Try.prog 41 #[.pointer (some ⟨p, 0, none⟩)] w fun e w' => e = .returned (.bool true) ∧ w' = w := by
  have hmn : ∀ W, (binOp .neq 72 (.map (some mb)) (.map none)).run Try.prog W = .ok (.bool true) W := fun W => (run_neq_map_nil W 72 _ _ (some mb) Try.underlying72).trans rfl
  go_enter Try.func41, Try.ntmps41
  go_wp2
  go_ret
  exact ⟨rfl, rfl⟩

theorem pnew_any (G : Nat → Prop) (base : Nat) (w : World) (hb : base ≤ w.heap.size) (hG : ∀ k, G k → k < w.heap.size) :
    Calls Try.prog 25 #[] w fun e w' => ∃ p mb, e = .returned (.pointer (some ⟨p, 0, none⟩)) ∧ IsS G base w' p mb 0 [] ∧ Below w.heap.size w w' ∧ w.heap.size ≤ p ∧ w.heap.size ≤ mb := by
  have hmm := @run_makeMap Try.prog
  go_enter Try.func25, Try.ntmps25
  go_wp2
  go_ret
  have hb1 := new_below w (.map #[] 0)
  have hb2 := new_below (w.alloc (.map #[] 0)) (.cells #[.map (some w.heap.size)] 74)
  refine ⟨w.heap.size + 1, w.heap.size, rfl, ⟨?_, by omega, by simp, hb, ?_, by simp, by simp, List.Pairwise.nil, by simp, by omega, by simp, by simp, List.Pairwise.nil, by simp, fun e => ?_, fun k hk e => ?_, by simp; omega, fun k hk => by have := hG k hk; simp; omega⟩, hb1.trans (hb2.mono hb1.size), by omega, by omega⟩
  · exact rangeY_new _ _ _ _ (by simp) 0 _ rfl
  · have : blkOf [] = fun _ => -1 := by funext k; rfl
    rw [this]
    exact (mapF_new w).same (hb2.block w.heap.size (by simp))
  · have := hG _ e; omega
  · rcases hk with rfl | ⟨m, hm, _⟩
    · have := hG _ e; omega
    · cases hm

/-- what cellOf leaves: the key's cell is there -/
def CofPost (G : Nat → Prop) (base : Nat) (w : World) (p mb z : Nat) (cs : List PC) (key : List Int) (e : Ending) (w' : World) : Prop :=
  ∃ cs' m, e = .returned (.pointer (some ⟨m.b, 0, none⟩)) ∧ IsS G base w' p mb (z + 1) cs' ∧ cs'[plc (cs.map PC.c) key]? = some m ∧ m.key = key ∧ cs'.map PC.c = insC (cs.map PC.c) key ∧ Keeps (Mut mb cs) w w' ∧ ∀ k, Mut mb cs' k → Mut mb cs k ∨ w.heap.size ≤ k

set_option maxHeartbeats 4000000 in
theorem pcellOf_any (G : Nat → Prop) (base : Nat) (w : World) (p mb z : Nat) (cs : List PC) (h : IsS G base w p mb z cs) (hz : z ≤ 100000) (a : Option Addr) (n c : Nat) (key : List Int) (hk : IsBytes w a n c key) (hn : n ≤ 100000) :
    Calls Try.prog 49 #[.pointer (some ⟨p, 0, none⟩), .slice a n c] w fun e w' => CofPost G base w p mb z cs key e w' := by
  have H := hide h
  have HK := hide hk
  have hkr := hk.2.2.2.1
  have hkl : key.length ≤ 100000 := by rw [hk.1]; exact hn
  have HKr := hide hkr
  have HLk := hide (h.map.look hkr (by omega))
  have c0 := h.c
  have hpl := h.lt
  cases hat : atS cs key with
  | some m =>
    obtain ⟨i, hi, hmk⟩ := atS_get hat
    have hf : blkOf cs key = (m.b : Int) := by unfold blkOf; rw [hat]
    rw [hf, ptrV_of] at HLk
    have q1 := fun nd => (hk.keep (below_drewN (Below.refl _ w) nd)).conv
    have q2 := fun nd => HLk.out (w.drewN nd) rfl
    have HI := hide hi
    have HMk := hide hmk
    clear h hk hi hmk hat hf hkr
    go_enter Try.func49, Try.ntmps49
    go_wp2
    go_quiet (fail)
    go_wp2
    go_ret
    obtain ⟨e1, e2⟩ := atS_isAt H.out.sort HI.out HMk.out
    have hbd := below_drewN (Below.refl w.heap.size w) nq
    refine ⟨cs, m, rfl, (H.out.keep hbd).more (by omega), by rw [e2]; exact HI.out, HMk.out, ?_, Below.keeps hbd _, fun k hk => .inl hk⟩
    unfold insC
    rw [if_pos e1]
  | none =>
    have hf : blkOf cs key = -1 := by unfold blkOf; rw [hat]
    rw [hf] at HLk
    have q1 := fun nd => (hk.keep (below_drewN (Below.refl _ w) nd)).conv
    have q2 := fun nd => HLk.out (w.drewN nd) rfl
    have hpv : ptrV (-1) = .pointer none := rfl
    rw [hpv] at q2
    have HAt := hide hat
    clear h hk hat hf hkr
    go_enter Try.func49, Try.ntmps49
    go_wp2
    go_quiet (fail)
    obtain ⟨w1, hw1⟩ : ∃ W, W = w.drewN nq := ⟨_, rfl⟩
    rw [← hw1]
    have hb1 : Below w.heap.size w w1 := by rw [hw1]; exact below_drewN (Below.refl _ w) nq
    have hs1 : w1.heap.size = w.heap.size := by rw [hw1]; rfl
    have HS1 := hide hs1
    clear hs1
    have H1 := hide (H.out.keep hb1)
    have HB1 := hide hb1
    obtain ⟨w2, hw2⟩ : ∃ W, W = w1.alloc (.cells #[.slice none 0 0, .int .u64 0, .int .u64 0, .bool false, .slice none 0 0, .slice none 0 0] 78) := ⟨_, rfl⟩
    have hb2 : Below w1.heap.size w1 w2 := by rw [hw2]; exact new_below _ _
    have H2 := hide (H1.out.keep hb2)
    obtain ⟨w3, hup, hmp, hgr⟩ := (H2.out.map.same (w' := w2.drew) rfl).put (by omega) HKr.out (by omega) w1.heap.size
    have c2 : w2.cell? ⟨p, 0, none⟩ = some (.map (some mb)) := H2.out.c
    have q3 := (HK.out.keep (hb1.trans (hb2.mono hb1.size))).conv
    have q3d : (convert 23 9 (.slice a n c)).run Try.prog w2.drew = .ok (.string (strB key)) w2.drew := ((HK.out.keep (hb1.trans (hb2.mono hb1.size))).keep (Below.refl _ w2).drew).conv
    have HL := hide (H1.out.lay HKr.out hkl HAt.out hmp (by rw [← hw2]; exact grown_then grown_drew hgr))
    rw [hw2] at c2 q3 q3d hup
    clear q1 q2 HLk H2 hmp hgr hb1 hb2 hw1 hw2
    go_wp2_with fail
    go_region_with fail
    all_goals
      go_wp2
      go_ret
      obtain ⟨r1, r2, r3, r4, r5⟩ := HL.out
      refine ⟨_, _, rfl, r1, r3, rfl, r5, kpThen (Below.keeps HB1.out _) (fun k hk => .inl hk) r2, fun k hk => ?_⟩
      rw [← HS1.out]
      exact r4 k hk

theorem blkOf_at {cs : List PC} {i : Nat} {m : PC} (hs : SortC (cs.map PC.c)) (hi : cs[i]? = some m) : blkOf cs m.key = (m.b : Int) := by
  unfold blkOf
  rw [atS_of hs (List.mem_of_getElem? hi)]

/-- whether anything is left of a key -/
def liveC (c : Cel) : Bool := decide (c.vs.length ≠ 0) || (c.it.tx != 0)

def TidyPost (G : Nat → Prop) (base : Nat) (w : World) (p mb z : Nat) (cs : List PC) (m : PC) (e : Ending) (w' : World) : Prop :=
  e = .returned (.tuple #[]) ∧ ∃ cs', IsS G base w' p mb z cs' ∧ cs' = (if liveC m.c = true then cs else cs.filter (fun x => decide (x.key ≠ m.key))) ∧ Keeps (Mut mb cs) w w' ∧ ∀ k, Mut mb cs' k → Mut mb cs k ∨ w.heap.size ≤ k

set_option maxHeartbeats 4000000 in
theorem ptidy_any (G : Nat → Prop) (base : Nat) (w : World) (p mb z : Nat) (cs : List PC) (h : IsS G base w p mb z cs) (i : Nat) (m : PC) (hi : cs[i]? = some m) :
    Calls Try.prog 47 #[.pointer (some ⟨p, 0, none⟩), .string (strB m.key)] w fun e w' => TidyPost G base w p mb z cs m e w' := by
  have H := hide h
  have hm := List.mem_of_getElem? hi
  have hg := h.go m hm
  have hl := h.map.look hg.key (by have := hg.kl; omega) w rfl
  rw [blkOf_at h.sort hi, ptrV_of] at hl
  have HE := hide (pempty_any base w m (h.is m hm))
  have c0 := h.c
  obtain ⟨w3, hdel, hmp, hgr⟩ := h.map.del hg.key (by have := hg.kl; omega) 0
  have HS := hide (h.strike m.key hmp hgr)
  have hlv : liveC m.c = !(decide (m.vs.length = 0) && !(m.it.v.tx != 0)) := by
    unfold liveC
    have e1 : m.c.vs.length = m.vs.length := by simp [PC.c]
    have e2 : m.c.it.tx = m.it.v.tx := rfl
    rw [e1, e2]
    by_cases h1 : m.vs.length = 0 <;> simp [h1]
  unfold TidyPost
  rw [hlv]
  obtain ⟨b, hb⟩ : ∃ b : Bool, (decide (m.vs.length = 0) && !(m.it.v.tx != 0)) = b := ⟨_, rfl⟩
  rw [hb] at HE ⊢
  clear h hi hg hmp hgr hlv hb hm
  cases b
  · go_enter Try.func47, Try.ntmps47
    go_wp2_with (first
      | (go_at_call 61; go_must (refine HE.out.mono ?_); rintro e w1 ⟨rfl, hw⟩; have hw := hw.symm; subst hw))
    go_end0
    exact ⟨rfl, cs, H.out, rfl, kpSelf _ _, fun k hk => .inl hk⟩
  · go_enter Try.func47, Try.ntmps47
    go_wp2_with (first
      | (go_at_call 61; go_must (refine HE.out.mono ?_); rintro e w1 ⟨rfl, hw⟩; have hw := hw.symm; subst hw))
    go_end0
    obtain ⟨r1, r2, r3⟩ := HS.out
    exact ⟨rfl, _, r1, (by simp), r2, fun k hk => .inl (r3 k hk)⟩

end Go.Proofs.Ytfldiapdfpkdaaa

namespace Go.Proofs.Ytfldiapdfpkdaaa
open Go.RowKit NumMath Go.ChangeShapes Go.WideShapes Go.Deep
set_option linter.unusedVariables false
set_option maxRecDepth 100000

/-- what a call of the store leaves: the store is st; its own blocks alone were changed -/
def StPost (G : Nat → Prop) (base : Nat) (w : World) (p mb z : Nat) (cs : List PC) (st : List Cel) (w' : World) : Prop :=
  ∃ cs', IsS G base w' p mb z cs' ∧ cs'.map PC.c = st ∧ Keeps (Mut mb cs) w w' ∧ ∀ k, Mut mb cs' k → Mut mb cs k ∨ w.heap.size ≤ k

theorem modify_set {α : Type} {l : List α} {i : Nat} {x : α} {f : α → α} (h : l[i]? = some x) : l.modify i f = l.set i (f x) := by
  apply List.ext_getElem?
  intro j
  rw [List.getElem?_modify]
  by_cases e : i = j
  · subst e
    rw [h, List.getElem?_set_self (List.getElem?_eq_some_iff.1 h).1]
    simp
  · rw [List.getElem?_set_ne e]
    simp [e]

theorem set_map_c {cs : List PC} {i : Nat} {m m' : PC} {st : List Cel} {f : Cel → Cel} (hi : cs[i]? = some m) (hs : cs.map PC.c = st) (hf : m'.c = f m.c) : (cs.set i m').map PC.c = st.modify i f := by
  subst hs
  rw [modify_set (x := m.c) (by rw [List.getElem?_map, hi]; rfl), List.map_set, hf]

theorem putP_mem {α : Type} (ts : α → Int) (v : α) (vs : List α) (R : α → Prop) (hv : R v) (h : ∀ x ∈ vs, R x) : ∀ x ∈ putP ts v vs, R x := by
  intro x hx
  unfold putP at hx
  have h1 := stepP_mem ts v R hv vs ([], false) h (by simp)
  dsimp only at hx
  split at hx
  · exact h1 x hx
  · rcases List.mem_append.1 hx with h2 | h2
    · exact h1 x h2
    · simp at h2; subst h2; exact hv

theorem putP_len1 {α : Type} (ts : α → Int) (v : α) (vs : List α) (hd : Desc ts vs) : (putP ts v vs).length ≤ vs.length + 1 := by
  rw [putP_eq]
  have h1 := congrArg List.length (List.takeWhile_append_dropWhile (p := fun x => decide (ts v < ts x)) (l := vs))
  rw [List.length_append] at h1 ⊢
  have := List.length_filter_le (fun x => decide (ts x ≠ ts v)) (vs.dropWhile (fun x => decide (ts v < ts x)))
  simp only [List.length_cons]
  omega

/-- a cell with one version more -/
theorem good_put {z : Nat} {m : PC} (h : m.good z) (vv : Value) (mv : MV) (hf : FitV mv.v) : PC.good (z + 1) { m with vv := vv, vs := putP tsM mv m.vs } :=
  ⟨h.key, h.kl, put_desc tsM mv m.vs h.desc, putP_mem tsM mv m.vs (fun v => FitV v.v) hf h.fit, h.fiti, by have := putP_len1 tsM mv m.vs h.desc; have := h.few; show (putP tsM mv m.vs).length ≤ _; omega⟩

/-- a version put into one of the cells -/
theorem IsS.put {G : Nat → Prop} {base : Nat} {w w' : World} {p mb z : Nat} {cs : List PC} (h : IsS G base w p mb z cs) {i : Nat} {m : PC} (hi : cs[i]? = some m) (mv : MV) (hf : FitV mv.v) (hd : Foot (MutG G mb cs) w (fun w => mv.at w)) {vv : Value} (hc : CPost base w m { m with vv := vv, vs := putP tsM mv m.vs } w') :
    StPost G base w p mb (z + 1) cs ((cs.map PC.c).modify i (setVs (putP Ver.ts mv.v))) w' := by
  have hm := List.mem_of_getElem? hi
  obtain ⟨r1, r2, r3⟩ := h.turn hi (m' := { m with vv := vv, vs := putP tsM mv m.vs }) rfl rfl hc ⟨putP_mem tsM mv m.vs (fun v => Foot (MutG G mb cs) w (fun w => v.at w)) hd (h.dat m hm).1, (h.dat m hm).2⟩ (Nat.le_succ z) (good_put (h.go m hm) vv mv hf)
  exact ⟨_, r1, set_map_c hi rfl (by unfold setVs PC.c; dsimp only; rw [putP_map MV.v tsM Ver.ts (fun _ => rfl)]), r2, r3⟩

set_option maxHeartbeats 4000000 in
theorem pPut_any (G : Nat → Prop) (base : Nat) (w : World) (p mb z : Nat) (cs : List PC) (h : IsS G base w p mb z cs) (hz : z ≤ 10000) (a : Option Addr) (n c : Nat) (key : List Int) (hk : IsBytes w a n c key) (hn : n ≤ 100000) (mv : MV) (hmv : Foot (Mut mb cs) w (fun w => mv.at w)) (hf : FitV mv.v) :
    Calls Try.prog 24 #[.pointer (some ⟨p, 0, none⟩), .slice a n c, .agg #[.int .u64 mv.v.ts, .int .u64 mv.v.tx, .bool mv.v.dd, .slice mv.va mv.vn mv.vc, .slice mv.ka mv.kn mv.kc]] w fun e w' => e = .returned (.tuple #[]) ∧ StPost G base w p mb (z + 2) cs (putC (cs.map PC.c) key mv.v) w' := by
  obtain ⟨W0, hW0⟩ : ∃ W0, W0 = w.alloc (.cells #[.int .u64 mv.v.ts, .int .u64 mv.v.tx, .bool mv.v.dd, .slice mv.va mv.vn mv.vc, .slice mv.ka mv.kn mv.kc] 36) := ⟨_, rfl⟩
  have hb0 : Below w.heap.size w W0 := by rw [hW0]; exact new_below _ _
  have HX0 : Hid (BxV W0 w.heap.size mv) := by show BxV _ _ _; rw [hW0]; exact bxV_new w mv _ rfl
  have HMd := hide (pmade_any W0 p mb (h.keep hb0).c)
  have HCo : Hid (∀ W, Below W0.heap.size W0 W → Calls Try.prog 49 #[.pointer (some ⟨p, 0, none⟩), .slice a n c] W fun e w' => CofPost G base W p mb z cs key e w') := fun W hW => pcellOf_any G base W p mb z cs ((h.keep hb0).keep hW) (by omega) a n c key ((hk.keep hb0).keep hW) hn
  have HF0 := hide (hmv.keep hb0)
  have HB0 := hide hb0
  have HML : Hid (∀ k, Mut mb cs k → k < w.heap.size) := fun k hk => h.mlt hk
  have H := hide h
  have HW0 := hide hW0
  rw [hW0] at HMd
  clear h hk hmv hb0 hW0
  go_enter Try.func24, Try.ntmps24
  go_upto_region 2 with (first
    | (go_at_call 41; go_must (refine HMd.out.mono ?_); rintro e w1 ⟨rfl, hw⟩; rw [← HW0.out] at hw; have hw := hw.symm; subst hw))
  obtain ⟨z0, z1, z2, z3, z4⟩ := HX0.out.x
  have HNm : Hid (¬ Mut mb cs w.heap.size) := fun e => by have := HML.out _ e; omega
  clear HMd
  go_wp2_with fail
  go_region_with (first
    | (go_at_call 48; go_must (refine HPt.out.mono ?_); rintro e w4 ⟨rfl, vv4, hC4⟩; have HC4 := hide hC4; clear hC4)
    | (go_at_call 39; go_must (refine HCp.out.mono ?_); rintro e w3 ⟨m3, rfl, hv3, hF3, hb3⟩; have HPt := hide (pput_any base w3 m2 ((HS2.out.is m2 (List.mem_of_getElem? HI2.out)).keep hb3) (HS2.out.keep hb3).bs (HS2.out.go m2 (List.mem_of_getElem? HI2.out)).desc (by have := (HS2.out.go m2 (List.mem_of_getElem? HI2.out)).few; omega) m3); have HV3 := hide hv3; have HF3 := hide hF3; have HB3 := hide hb3; clear hv3 hF3 hb3)
    | (go_at_call 49; go_must (refine (HCo.out _ (by exact (Below.refl _ _).drew)).mono ?_); rintro e w2 ⟨cs2, m2, rfl, hS2, hi2, hk2, hc2, hkp2, hn2⟩; obtain ⟨y0, y1, y2, y3, y4⟩ := (BxV.lies (w := W0.drew) (HX0.out.keep (Below.refl _ W0).drew) hkp2 HNm.out).x; have HCp := hide (copyOf_any mv w2 (Foot.now ((HF0.out.keep (Below.refl _ W0).drew).step hkp2 (fun k hk => .inl hk))) hf); have HS2 := hide hS2; have HI2 := hide hi2; have HC2 := hide hc2; have HKp2 := hide hkp2; have HN2 := hide hn2; clear hS2 hi2 hk2 hc2 hkp2 hn2))
  all_goals
    go_wp2
    go_end0
    have hS3 := HS2.out.keep HB3.out
    have hd : Foot (MutG G mb cs2) w3 (fun w => m3.at w) := HF3.out.more (fun k hk => .inl (by
      rcases hk with hk | hk
      · exact HS2.out.mlt hk
      · exact HS2.out.gl k hk))
    obtain ⟨cs4, r1, r2, r3, r4⟩ := hS3.put HI2.out m3 (by rw [HV3.out]; exact hf) hd HC4.out
    refine ⟨rfl, cs4, r1, ?_, ?_, ?_⟩
    · rw [r2, HC2.out, HV3.out]
      rfl
    · have k1 : Keeps (Mut mb cs) w w2 := kpThen (Below.keeps HB0.out _) (fun k hk => .inl hk) (kpThen (Below.keeps (Below.refl _ W0).drew _) (fun k hk => .inl hk) HKp2.out)
      have hs2 : w.heap.size ≤ W0.drew.heap.size := HB0.out.size
      exact kpThen (kpBelow k1 HB3.out) (fun k hk => by
        rcases HN2.out k hk with h1 | h1
        · exact .inl h1
        · exact .inr (Nat.le_trans hs2 h1)) r3
    · intro k hk
      have hs2 : w.heap.size ≤ W0.drew.heap.size := HB0.out.size
      have hs3 : W0.drew.heap.size ≤ w2.heap.size := HKp2.out.size
      have hs4 := HB3.out.size
      rcases r4 k hk with h1 | h1
      · rcases HN2.out k h1 with h2 | h2
        · exact .inl h2
        · exact .inr (Nat.le_trans hs2 h2)
      · exact .inr (by omega)

end Go.Proofs.Ytfldiapdfpkdaaa

namespace Go.Proofs.Ytfldiapdfpkdaaa
open Go.RowKit NumMath Go.ChangeShapes Go.WideShapes Go.Deep
set_option linter.unusedVariables false
set_option maxRecDepth 100000

theorem atV_pos {α : Type} (tv : α → Int) (ts : Int) : ∀ (vs : List α), atV tv ts vs = vs[posV tv ts vs]? := by
  intro vs
  unfold atV posV
  induction vs with
  | nil => rfl
  | cons a r ih =>
    rw [List.find?_cons, List.takeWhile_cons]
    by_cases h : tv a ≤ ts
    · rw [decide_eq_true h, decide_eq_false (by omega : ¬ ts < tv a)]
      rfl
    · rw [decide_eq_false h, decide_eq_true (by omega : ts < tv a)]
      simpa using ih

theorem atC_some {cs : List PC} (hs : SortC (cs.map PC.c)) {key : List Int} {m : PC} (h : atS cs key = some m) (ts : Int) : atC (cs.map PC.c) key ts = (m.vs[posV tsM ts m.vs]?).map MV.v := by
  obtain ⟨i, hi, hk⟩ := atS_get h
  have := atC_mem hs (c := m.c) (List.mem_map_of_mem (List.mem_of_getElem? hi)) ts
  have e : m.c.key = key := hk
  rw [e] at this
  rw [this, ← atV_pos]
  exact atV_map MV.v tsM Ver.ts (fun _ => rfl) ts m.vs

theorem atC_none {cs : List PC} {key : List Int} (h : atS cs key = none) (ts : Int) : atC (cs.map PC.c) key ts = none := by
  unfold atC
  rw [atS_notAt h, if_neg (by simp)]

/-- what At answers: a copy -/
def PAtPost (w : World) (r : Option Ver) (e : Ending) (w' : World) : Prop :=
  ∃ m : MV, e = .returned (.tuple #[.agg #[.int .u64 m.v.ts, .int .u64 m.v.tx, .bool m.v.dd, .slice m.va m.vn m.vc, .slice m.ka m.kn m.kc], .bool r.isSome]) ∧ m.v = r.getD ver0 ∧ Foot (fun k => k < w.heap.size) w' (fun w => m.at w) ∧ Below w.heap.size w w'

set_option maxHeartbeats 4000000 in
theorem pAt_any (G : Nat → Prop) (base : Nat) (w : World) (p mb z : Nat) (cs : List PC) (h : IsS G base w p mb z cs) (hz : z ≤ 100000) (a : Option Addr) (n c : Nat) (key : List Int) (hk : IsBytes w a n c key) (hn : n ≤ 100000) (ts : Int) :
    Calls Try.prog 13 #[.pointer (some ⟨p, 0, none⟩), .slice a n c, .int .u64 ts] w fun e w' => PAtPost w (atC (cs.map PC.c) key ts) e w' := by
  obtain ⟨W0, hW0⟩ : ∃ W0, W0 = w.alloc (.cells #[.int .u64 0, .int .u64 0, .bool false, .slice none 0 0, .slice none 0 0] 36) := ⟨_, rfl⟩
  have hb0 : Below w.heap.size w W0 := by rw [hW0]; exact new_below _ _
  have HX0 : Hid (BxV W0 w.heap.size mv0) := by show BxV _ _ _; rw [hW0]; exact bxV_new w mv0 _ rfl
  have h0 := h.keep hb0
  have HMd := hide (pmade_any W0 p mb h0.c)
  have hkr := hk.2.2.2.1
  have HLk := hide (h0.map.look hkr (by rw [hk.1]; omega))
  have HB0 := hide hb0
  have H0 := hide h0
  have HW0 := hide hW0
  have c0 := h0.c
  have c0d : W0.drew.cell? ⟨p, 0, none⟩ = some (.map (some mb)) := c0
  have q1 : (convert 23 9 (.slice a n c)).run Try.prog W0.drew = .ok (.string (strB key)) W0.drew := ((hk.keep hb0).keep (Below.refl _ W0).drew).conv
  have HC : Hid (∀ W, Below W0.drew.heap.size W0.drew W → W.cell? ⟨p, 0, none⟩ = some (.map (some mb)) ∧ (convert 23 9 (.slice a n c)).run Try.prog W = .ok (.string (strB key)) W ∧ (Instr.lookup 72 (.map (some mb)) (.string (strB key)) false).run Try.prog W = .ok (ptrV (blkOf cs key)) W) := fun W hW =>
    ⟨((h0.keep (Below.refl _ W0).drew).keep hW).c, (((hk.keep hb0).keep (Below.refl _ W0).drew).keep hW).conv, HLk.out W (hW.block mb h0.map.lt)⟩
  rw [hW0] at HMd
  have hs0 : W0.heap.size = w.heap.size + 1 := by rw [hW0]; simp
  have HS0 := hide hs0
  clear hb0 hW0 hs0
  cases hat : atS cs key with
  | none =>
    have hf : blkOf cs key = -1 := by unfold blkOf; rw [hat]
    have hpv : ptrV (-1) = .pointer none := rfl
    have HR : Hid (atC (cs.map PC.c) key ts = none) := atC_none hat ts
    have l1 := (HC.out W0.drew (Below.refl _ _)).2.2
    rw [hf, hpv] at HC l1
    clear h h0 hk hat hf hkr
    go_enter Try.func13, Try.ntmps13
    go_upto_region 3 with (first
      | (go_at_call 41; go_must (refine HMd.out.mono ?_); rintro e w1 ⟨rfl, hw⟩; rw [← HW0.out] at hw; have hw := hw.symm; subst hw))
    go_region_with (first
      | (go_at_call 36; go_must (refine (upTo_nil _ ts).mono ?_); rintro e w2 ⟨rfl, hw⟩; have hw := hw.symm; subst hw))
    all_goals
      obtain ⟨z0, z1, z2, z3, z4⟩ := HX0.out.x
      have hzf := HX0.out.fz
      go_wp2
      have r9 := resV (w := W0) HX0.out.r HX0.out.fz mv0
      obtain ⟨r0, r1, r2, r3, r4⟩ := rangeV r9
      have hk4 := keepsYs W0 w.heap.size 0 (layV.cells mv0)
      change bodyPost _ _ _ _ _ (W0.setCells w.heap.size 0 (layV.cells mv0)).drew
      generalize W0.setCells w.heap.size 0 (layV.cells mv0) = W9 at *
      refine bodyPost_ret (v := .tuple #[.agg (cellsV mv0), .bool false]) (by simp [results, Try.results13, go_sem, r0, r1, r2, r3, r4]) rfl ?_
      refine ⟨mv0, by rw [HR.out]; rfl, by rw [HR.out]; rfl, mv0_foot _ _, ?_⟩
      exact (HB0.out.trans (hk4.below HB0.out.size (fun k e => by rw [e]; exact Nat.le_refl _))).drew
  | some m =>
    have hm := (atS_mem hat).1
    have hf : blkOf cs key = (m.b : Int) := by unfold blkOf; rw [hat]
    have HR := hide (atC_some h.sort hat ts)
    have HU : Hid (∀ W, Below W0.heap.size W0 W → Calls Try.prog 36 #[.pointer (some ⟨m.b, 0, none⟩), .int .u64 ts] W fun e w' => UpPost W m ts e w') := fun W hW => pupTo_any base W m ((h0.is m hm).keep hW) (h.go m hm).desc (by have := (h.go m hm).few; omega) ts
    have HDt := hide (h0.dat m hm)
    have HFt := hide (h.go m hm).fit
    have l1 := (HC.out W0.drew (Below.refl _ _)).2.2
    rw [hf, ptrV_of] at HC l1
    clear h h0 hk hat hf hkr hm
    go_enter Try.func13, Try.ntmps13
    go_upto_region 3 with (first
      | (go_at_call 41; go_must (refine HMd.out.mono ?_); rintro e w1 ⟨rfl, hw⟩; rw [← HW0.out] at hw; have hw := hw.symm; subst hw))
    go_region_with (first
      | (go_at_call 36; go_must (refine (HU.out _ (by exact (Below.refl _ W0).drew)).mono ?_); rintro e w2 ⟨a2, n2, c2, rfl, hl2, hI2, hb2⟩; have HL2 := hide hl2; have HI2 := hide hI2; have HB2d := hide hb2; have HB2 := hide (below_undrew hb2); clear hl2 hI2 hb2))
    all_goals
      have HX2 := hide (HX0.out.keep HB2.out)
      obtain ⟨z0, z1, z2, z3, z4⟩ := HX2.out.x
      have hzf := HX2.out.fz
      have hsz2 : w.heap.size + 1 ≤ w2.heap.size := by have := HB2.out.size; rw [HS0.out] at this; exact this
      have HBw : Hid (Below w.heap.size w w2) := HB0.out.trans (HB2.out.mono (by rw [HS0.out]; omega))
      by_cases hn0 : n2 = 0
      · subst hn0
        have HR2 : Hid (atC (cs.map PC.c) key ts = none) := by
          show _ = _
          rw [HR.out, List.getElem?_eq_none (by have := HL2.out; rw [List.length_drop] at this; omega)]; rfl
        go_wp2
        have r9 := resV (w := w2) HX2.out.r HX2.out.fz mv0
        obtain ⟨r0, r1, r2, r3, r4⟩ := rangeV r9
        have hk4 := keepsYs w2 w.heap.size 0 (layV.cells mv0)
        change bodyPost _ _ _ _ _ (w2.setCells w.heap.size 0 (layV.cells mv0))
        generalize w2.setCells w.heap.size 0 (layV.cells mv0) = W9 at *
        refine bodyPost_ret (v := .tuple #[.agg (cellsV mv0), .bool false]) (by simp [results, Try.results13, go_sem, r0, r1, r2, r3, r4]) rfl ?_
        refine ⟨mv0, by rw [HR2.out]; rfl, by rw [HR2.out]; rfl, mv0_foot _ _, ?_⟩
        exact HBw.out.trans (hk4.below HBw.out.size (fun k e => by rw [e]; exact Nat.le_refl _))
      · have hP : posV tsM ts m.vs < m.vs.length := by have := HL2.out; rw [List.length_drop] at this; omega
        obtain ⟨x, hx⟩ : ∃ x, m.vs[posV tsM ts m.vs]? = some x := ⟨_, List.getElem?_eq_getElem hP⟩
        have HR2 : Hid (atC (cs.map PC.c) key ts = some x.v) := by
          show _ = _
          rw [HR.out, hx]; rfl
        have hmx : x ∈ m.vs := List.mem_of_getElem? hx
        have hI := HI2.out w2 HB2d.out
        obtain ⟨g, off, ha2, hg, hCv⟩ := hI.at (j := 0) (by omega)
        have hx0 : (m.vs.drop (posV tsM ts m.vs))[0]? = some x := by rw [List.getElem?_drop]; exact hx
        have hcell : w2.rangeAt g off (layV.cells x) := by have := hCv 0 x hx0; rw [Nat.zero_mul, Nat.add_zero] at this; exact this
        obtain ⟨y0, y1, y2, y3, y4⟩ := rangeV hcell
        have HCp := hide (copyOf_any x w2 (((HDt.out.1 x hmx).keep HB2.out).now) (HFt.out x hmx))
        have hnI : ¬ ((n2 : Int) = 0) := by omega
        have hnI' : ((n2 : Int) == 0) = false := by simp; omega
        have hnp : 0 < (n2 : Int) := by omega
        rw [ha2]
        clear hP hx hmx hI hCv hx0 hcell
        go_wp2_with (first
          | (go_at_call 39; go_must (refine HCp.out.mono ?_); rintro e w3 ⟨m3, rfl, hv3, hF3, hb3⟩; have HX3 := hide (HX2.out.keep hb3); obtain ⟨z0, z1, z2, z3, z4⟩ := HX3.out.x; have hzf := HX3.out.fz; have HV3 := hide hv3; have HF3 := hide hF3; have HB3 := hide hb3; clear hv3 hF3 hb3))
        have r9 := resV (w := w3) HX3.out.r HX3.out.fz m3
        obtain ⟨r0, r1, r2, r3, r4⟩ := rangeV r9
        have hk4 := keepsYs w3 w.heap.size 0 (layV.cells m3)
        change bodyPost _ _ _ _ _ (w3.setCells w.heap.size 0 (layV.cells m3))
        generalize w3.setCells w.heap.size 0 (layV.cells m3) = W9 at *
        refine bodyPost_ret (v := .tuple #[.agg (cellsV m3), .bool true]) (by simp [results, Try.results13, go_sem, r0, r1, r2, r3, r4]) rfl ?_
        have hsz3 := HB3.out.size
        refine ⟨m3, by rw [HR2.out]; rfl, by rw [HR2.out, HV3.out]; rfl, ?_, ?_⟩
        · exact (HF3.out.more (Y := fun k => k < w.heap.size + 1) (fun k hk => .inl (by omega))).step (Keeps.wider hk4 (fun k e => by rw [e]; omega)) (fun k hk => .inl (by omega))
        · have hbw3 := HBw.out.trans (HB3.out.mono HBw.out.size)
          exact hbw3.trans (hk4.below hbw3.size (fun k e => by rw [e]; exact Nat.le_refl _))

end Go.Proofs.Ytfldiapdfpkdaaa

namespace Go.Proofs.Ytfldiapdfpkdaaa
open Go.RowKit NumMath Go.ChangeShapes Go.WideShapes Go.Deep
set_option linter.unusedVariables false
set_option maxRecDepth 100000

/-- another intent -/
theorem PC.is.setIt {base : Nat} {w : World} {m : PC} (h : m.is base w) (mi : MV) : PC.is base (w.setCells m.b 1 (layV.cells mi)) { m with it := mi } ∧ Keeps m.blk w (w.setCells m.b 1 (layV.cells mi)) := by
  have hk := keepsYs w m.b 1 (layV.cells mi)
  have r1 := range_set (i := 1) (v := .int .u64 mi.v.ts) h.r (by simp [layV])
  have r2 := range_set (i := 2) (v := .int .u64 mi.v.tx) r1 (by simp [layV])
  have r3 := range_set (i := 3) (v := .bool mi.v.dd) r2 (by simp [layV])
  have r4 := range_set (i := 4) (v := .slice mi.va mi.vn mi.vc) r3 (by simp [layV])
  have r5 := range_set (i := 5) (v := .slice mi.ka mi.kn mi.kc) r4 (by simp [layV])
  refine ⟨⟨r5, fun j => ?_, h.lo, Nat.lt_of_lt_of_le h.lt hk.size, h.own.lies (fun g hg => hk.block g (h.own.lt g hg).2 (fun e => h.ne (by rw [hg, e]))), h.ne⟩, Keeps.wider hk (fun k e => .inl e)⟩
  show (World.setCell _ _ _).frozen? _ = _
  simp only [World.frozen?_setCell]
  exact h.fz j

/-- an intent laid into one of the cells -/
theorem IsS.setIt {G : Nat → Prop} {base : Nat} {w : World} {p mb z : Nat} {cs : List PC} (h : IsS G base w p mb z cs) {i : Nat} {m : PC} (hi : cs[i]? = some m) (mi : MV) (hf : FitV mi.v) (hd : Foot (MutG G mb cs) w (fun w => mi.at w)) :
    ∃ cs', IsS G base (w.setCells m.b 1 (layV.cells mi)) p mb z cs' ∧ cs' = cs.set i { m with it := mi } ∧ cs'.map PC.c = (cs.map PC.c).modify i (Go.Proofs.Ytfldiapdfpkdaaa.setIt mi.v) ∧ Keeps (Mut mb cs) w (w.setCells m.b 1 (layV.cells mi)) ∧ ∀ k, Mut mb cs' k → Mut mb cs k ∨ w.heap.size ≤ k := by
  have hm := List.mem_of_getElem? hi
  obtain ⟨s1, s2⟩ := (h.is m hm).setIt mi
  have hg := h.go m hm
  obtain ⟨r1, r2, r3⟩ := h.turn hi (m' := { m with it := mi }) rfl rfl ⟨s1, s2, fun k hk => .inl hk⟩ ⟨(h.dat m hm).1, hd⟩ (Nat.le_refl z) ⟨hg.key, hg.kl, hg.desc, hg.fit, hf, hg.few⟩
  exact ⟨_, r1, rfl, set_map_c hi rfl rfl, r2, r3⟩

theorem busy_none {cs : List PC} {key : List Int} (h : atS cs key = none) (tx : Int) : busyC (cs.map PC.c) key tx = false := by
  unfold busyC
  rw [atS_notAt h]
  rfl

theorem busy_some {cs : List PC} (hs : SortC (cs.map PC.c)) {key : List Int} {m : PC} (h : atS cs key = some m) (tx : Int) : busyC (cs.map PC.c) key tx = (m.it.v.tx != 0 && m.it.v.tx != tx) := by
  obtain ⟨i, hi, hk⟩ := atS_get h
  obtain ⟨e1, e2⟩ := atS_isAt hs hi hk
  rw [busyC_of (c := m.c) e1 (by rw [e2, List.getElem?_map, hi]; rfl)]
  have e3 : m.c.it.tx = m.it.v.tx := rfl
  rw [e3]
  by_cases h1 : m.it.v.tx = 0 <;> by_cases h2 : m.it.v.tx = tx <;> simp [h1, h2]

set_option maxHeartbeats 4000000 in
theorem pIntend_any (G : Nat → Prop) (base : Nat) (w : World) (p mb z : Nat) (cs : List PC) (h : IsS G base w p mb z cs) (hz : z ≤ 10000) (a : Option Addr) (n c : Nat) (key : List Int) (hk : IsBytes w a n c key) (hn : n ≤ 100000) (mv : MV) (hmv : Foot (Mut mb cs) w (fun w => mv.at w)) (hf : FitV mv.v) :
    Calls Try.prog 27 #[.pointer (some ⟨p, 0, none⟩), .slice a n c, .agg #[.int .u64 mv.v.ts, .int .u64 mv.v.tx, .bool mv.v.dd, .slice mv.va mv.vn mv.vc, .slice mv.ka mv.kn mv.kc]] w fun e w' => e = .returned (.int .i64 (intendC (cs.map PC.c) key mv.v).2) ∧ StPost G base w p mb (z + 2) cs (intendC (cs.map PC.c) key mv.v).1 w' := by
  obtain ⟨W0, hW0⟩ : ∃ W0, W0 = w.alloc (.cells #[.int .u64 mv.v.ts, .int .u64 mv.v.tx, .bool mv.v.dd, .slice mv.va mv.vn mv.vc, .slice mv.ka mv.kn mv.kc] 36) := ⟨_, rfl⟩
  have hb0 : Below w.heap.size w W0 := by rw [hW0]; exact new_below _ _
  have HX0 : Hid (BxV W0 w.heap.size mv) := by show BxV _ _ _; rw [hW0]; exact bxV_new w mv _ rfl
  have h0 := h.keep hb0
  have HMd : Hid (∀ W, W.cell? ⟨p, 0, none⟩ = some (.map (some mb)) → Calls Try.prog 41 #[.pointer (some ⟨p, 0, none⟩)] W fun e w' => e = .returned (.bool true) ∧ w' = W) := fun W hW => pmade_any W p mb hW
  have HCo : Hid (∀ W, Below W0.heap.size W0 W → Calls Try.prog 49 #[.pointer (some ⟨p, 0, none⟩), .slice a n c] W fun e w' => CofPost G base W p mb z cs key e w') := fun W hW => pcellOf_any G base W p mb z cs (h0.keep hW) (by omega) a n c key ((hk.keep hb0).keep hW) hn
  have hkr := hk.2.2.2.1
  have HLk := hide (h0.map.look hkr (by rw [hk.1]; omega))
  have HF0 := hide (hmv.keep hb0)
  have HB0 := hide hb0
  have HML : Hid (∀ k, Mut mb cs k → k < w.heap.size) := fun k hk => h.mlt hk
  have HS0 : Hid (∀ W, Below W0.heap.size W0 W → StPost G base w p mb (z + 2) cs (cs.map PC.c) W) := fun W hW => ⟨cs, (h0.keep hW).more (by omega), rfl, Below.keeps (hb0.trans (hW.mono hb0.size)) _, fun k hk => .inl hk⟩
  have H := hide h
  have HW0 := hide hW0
  have c0 := h0.c
  obtain ⟨z0, z1, z2, z3, z4⟩ := HX0.out.x
  have HNm : Hid (¬ Mut mb cs w.heap.size) := fun e => by have := HML.out _ e; omega
  have q1 := fun nd => ((hk.keep hb0).keep (below_drewN (Below.refl _ W0) nd)).conv
  have q2 := fun nd => HLk.out (W0.drewN nd) rfl
  unfold intendC
  by_cases htx : mv.v.tx = 0
  · have HE : Hid (mv.v.tx = 0) := htx
    have htb : (mv.v.tx == 0) = true := by simp [htx]
    rw [if_pos htx]
    clear h h0 hk hmv hb0 htx q2
    go_enter Try.func27, Try.ntmps27
    rw [hW0] at c0 z1 HS0
    go_wp2
    go_quiet (first
      | (go_at_call 41; refine Calls.quiet_of_same (HMd.out _ (by exact c0))))
    go_wp2
    go_ret
    exact ⟨rfl, HS0.out _ (below_drewN (Below.refl _ _) _)⟩
  · have HE : Hid (¬ mv.v.tx = 0) := htx
    have htb : (mv.v.tx == 0) = false := by simp [htx]
    rw [if_neg htx]
    cases hat : atS cs key with
    | none =>
      have hf0 : blkOf cs key = -1 := by unfold blkOf; rw [hat]
      have hpv : ptrV (-1) = .pointer none := rfl
      rw [hf0, hpv] at q2
      rw [busy_none hat, if_neg (by simp)]
      clear h h0 hk hmv hb0 htx hat hf0
      go_enter Try.func27, Try.ntmps27
      rw [hW0] at c0 z1 q1 q2
      go_wp2
      go_quiet (first
        | (go_at_call 41; refine Calls.quiet_of_same (HMd.out _ (by exact c0)))
        | (go_at_call 51; refine Calls.quiet_of_same (ptaken_nil _ mv.v.tx)))
      obtain ⟨W1, hW1⟩ : ∃ W, W = W0.drewN nq := ⟨_, rfl⟩
      rw [← hW0, ← hW1]
      have hb1 : Below W0.heap.size W0 W1 := by rw [hW1]; exact below_drewN (Below.refl _ W0) nq
      have HB1 := hide hb1
      have HX1 := hide (HX0.out.keep hb1)
      obtain ⟨y0, y1, y2, y3, y4⟩ := HX1.out.x
      clear q1 q2 hb1 hW1 z0 z1 z2 z3 z4 c0
      go_wp2_with fail
      go_region_with (first
        | (go_at_call 39; go_must (refine HCp.out.mono ?_); rintro e w3 ⟨m3, rfl, hv3, hF3, hb3⟩; have HM3 := hide (PC.is.keep HM2.out hb3); have hmf := HM3.out.fz; obtain ⟨v0, v1, v2, v3, v4, v5⟩ := HM3.out.x; have HV3 := hide hv3; have HF3 := hide hF3; have HB3 := hide hb3; clear hv3 hF3 hb3)
        | (go_at_call 49; go_must (refine (HCo.out _ (by exact HB1.out.trans (Below.refl _ W1).drew)).mono ?_); rintro e w2 ⟨cs2, m2, rfl, hS2, hi2, hk2, hc2, hkp2, hn2⟩; obtain ⟨x0, x1, x2, x3, x4⟩ := (BxV.lies (w := W1.drew) (HX1.out.keep (Below.refl _ W1).drew) hkp2 HNm.out).x; have HCp := hide (copyOf_any mv w2 (Foot.now (((HF0.out.keep HB1.out).keep (Below.refl _ W1).drew).step hkp2 (fun k hk => .inl hk))) hf); have HM2 := hide (hS2.is m2 (List.mem_of_getElem? hi2)); have HS2 := hide hS2; have HI2 := hide hi2; have HC2 := hide hc2; have HKp2 := hide hkp2; have HN2 := hide hn2; clear hS2 hi2 hk2 hc2 hkp2 hn2))
      all_goals
        go_wp2
        change bodyPost _ _ _ _ _ (w3.setCells m2.b 1 (layV.cells m3))
        go_ret
        have hS3 := HS2.out.keep HB3.out
        have hd : Foot (MutG G mb cs2) w3 (fun w => m3.at w) := HF3.out.more (fun k hk => .inl (by
          rcases hk with hk | hk
          · exact HS2.out.mlt hk
          · exact HS2.out.gl k hk))
        obtain ⟨cs4, r1, -, r2, r3, r4⟩ := hS3.setIt HI2.out m3 (by rw [HV3.out]; exact hf) hd
        have hs2 : w.heap.size ≤ W1.drew.heap.size := Nat.le_trans HB0.out.size HB1.out.size
        have hs3 : W1.drew.heap.size ≤ w2.heap.size := HKp2.out.size
        have hs4 := HB3.out.size
        refine ⟨rfl, cs4, r1.more (by omega), ?_, ?_, ?_⟩
        · rw [r2, HC2.out, HV3.out]
        · have k1 : Keeps (Mut mb cs) w w2 := kpThen (Below.keeps (HB0.out.trans (HB1.out.mono HB0.out.size)) _) (fun k hk => .inl hk) (kpThen (Below.keeps (Below.refl _ W1).drew _) (fun k hk => .inl hk) HKp2.out)
          exact kpThen (kpBelow k1 HB3.out) (fun k hk => by
            rcases HN2.out k hk with h1 | h1
            · exact .inl h1
            · exact .inr (Nat.le_trans hs2 h1)) r3
        · intro k hk
          rcases r4 k hk with h1 | h1
          · rcases HN2.out k h1 with h2 | h2
            · exact .inl h2
            · exact .inr (Nat.le_trans hs2 h2)
          · exact .inr (by omega)
    | some m =>
      have hm := (atS_mem hat).1
      have hf0 : blkOf cs key = (m.b : Int) := by unfold blkOf; rw [hat]
      rw [hf0, ptrV_of] at q2
      rw [busy_some h.sort hat]
      have HTk : Hid (∀ W, Below W0.heap.size W0 W → Calls Try.prog 51 #[.pointer (some ⟨m.b, 0, none⟩), .int .u64 mv.v.tx] W fun e w' => e = .returned (.bool (m.it.v.tx != 0 && m.it.v.tx != mv.v.tx)) ∧ w' = W) := fun W hW => ptaken_any base W m ((h0.is m hm).keep hW) mv.v.tx
      clear h h0 hk hmv hb0 htx hat hf0 hm
      obtain ⟨b, hb⟩ : ∃ b : Bool, (m.it.v.tx != 0 && m.it.v.tx != mv.v.tx) = b := ⟨_, rfl⟩
      rw [hb] at HTk ⊢
      clear hb
      cases b
      · rw [if_neg (by simp)]
        go_enter Try.func27, Try.ntmps27
        rw [hW0] at c0 z1 q1 q2 HTk
        go_wp2
        go_quiet (first
          | (go_at_call 41; refine Calls.quiet_of_same (HMd.out _ (by exact c0)))
          | (go_at_call 51; refine Calls.quiet_of_same (HTk.out _ (by exact below_drewN (Below.refl _ _) _))))
        obtain ⟨W1, hW1⟩ : ∃ W, W = W0.drewN nq := ⟨_, rfl⟩
        rw [← hW0, ← hW1]
        have hb1 : Below W0.heap.size W0 W1 := by rw [hW1]; exact below_drewN (Below.refl _ W0) nq
        have HB1 := hide hb1
        have HX1 := hide (HX0.out.keep hb1)
        obtain ⟨y0, y1, y2, y3, y4⟩ := HX1.out.x
        clear q1 q2 hb1 hW1 z0 z1 z2 z3 z4 c0
        go_wp2_with fail
        go_region_with (first
          | (go_at_call 39; go_must (refine HCp.out.mono ?_); rintro e w3 ⟨m3, rfl, hv3, hF3, hb3⟩; have HM3 := hide (PC.is.keep HM2.out hb3); have hmf := HM3.out.fz; obtain ⟨v0, v1, v2, v3, v4, v5⟩ := HM3.out.x; have HV3 := hide hv3; have HF3 := hide hF3; have HB3 := hide hb3; clear hv3 hF3 hb3)
          | (go_at_call 49; go_must (refine (HCo.out _ (by exact HB1.out.trans (Below.refl _ W1).drew)).mono ?_); rintro e w2 ⟨cs2, m2, rfl, hS2, hi2, hk2, hc2, hkp2, hn2⟩; obtain ⟨x0, x1, x2, x3, x4⟩ := (BxV.lies (w := W1.drew) (HX1.out.keep (Below.refl _ W1).drew) hkp2 HNm.out).x; have HCp := hide (copyOf_any mv w2 (Foot.now (((HF0.out.keep HB1.out).keep (Below.refl _ W1).drew).step hkp2 (fun k hk => .inl hk))) hf); have HM2 := hide (hS2.is m2 (List.mem_of_getElem? hi2)); have HS2 := hide hS2; have HI2 := hide hi2; have HC2 := hide hc2; have HKp2 := hide hkp2; have HN2 := hide hn2; clear hS2 hi2 hk2 hc2 hkp2 hn2))
        all_goals
          go_wp2
          change bodyPost _ _ _ _ _ (w3.setCells m2.b 1 (layV.cells m3))
          go_ret
          have hS3 := HS2.out.keep HB3.out
          have hd : Foot (MutG G mb cs2) w3 (fun w => m3.at w) := HF3.out.more (fun k hk => .inl (by
            rcases hk with hk | hk
            · exact HS2.out.mlt hk
            · exact HS2.out.gl k hk))
          obtain ⟨cs4, r1, -, r2, r3, r4⟩ := hS3.setIt HI2.out m3 (by rw [HV3.out]; exact hf) hd
          have hs2 : w.heap.size ≤ W1.drew.heap.size := Nat.le_trans HB0.out.size HB1.out.size
          have hs3 : W1.drew.heap.size ≤ w2.heap.size := HKp2.out.size
          have hs4 := HB3.out.size
          refine ⟨rfl, cs4, r1.more (by omega), ?_, ?_, ?_⟩
          · rw [r2, HC2.out, HV3.out]
          · have k1 : Keeps (Mut mb cs) w w2 := kpThen (Below.keeps (HB0.out.trans (HB1.out.mono HB0.out.size)) _) (fun k hk => .inl hk) (kpThen (Below.keeps (Below.refl _ W1).drew _) (fun k hk => .inl hk) HKp2.out)
            exact kpThen (kpBelow k1 HB3.out) (fun k hk => by
              rcases HN2.out k hk with h1 | h1
              · exact .inl h1
              · exact .inr (Nat.le_trans hs2 h1)) r3
          · intro k hk
            rcases r4 k hk with h1 | h1
            · rcases HN2.out k h1 with h2 | h2
              · exact .inl h2
              · exact .inr (Nat.le_trans hs2 h2)
            · exact .inr (by omega)
      · rw [if_pos rfl]
        go_enter Try.func27, Try.ntmps27
        rw [hW0] at c0 z1 q1 q2 HTk HS0
        go_wp2
        go_quiet (first
          | (go_at_call 41; refine Calls.quiet_of_same (HMd.out _ (by exact c0)))
          | (go_at_call 51; refine Calls.quiet_of_same (HTk.out _ (by exact below_drewN (Below.refl _ _) _))))
        go_wp2
        go_ret
        exact ⟨rfl, HS0.out _ (below_drewN (Below.refl _ _) _)⟩

end Go.Proofs.Ytfldiapdfpkdaaa
