/- A Writer in memory: what its N, I, Text, Bytes do to it, and that they touch nothing else. -/
import Derived.Test.YtfojpengdpnigaaGreatRwNum
import Derived.Test.YtfojpengdpnigaaGreatNumWalks
import Derived.Lib.ConvBytes
namespace Go.Proofs.YtfojpengdpnigaaGreat
open Go.RowKit NumMath
set_option linter.unusedVariables false

/-- the blocks of the Writer at p -/
def WB (w : World) (p k : Nat) : Prop := k = p ∨ ∃ v, w.cell? ⟨p, 0, none⟩ = some v ∧ v.ownBlock = some k

/-- the Writer at p holds the bytes bs -/
def IsW (w : World) (base p : Nat) (bs : List Int) : Prop :=
  ∃ a n c, w.cell? ⟨p, 0, none⟩ = some (.slice a n c) ∧ w.frozen? ⟨p, 0, none⟩ = false ∧ OwnB w base (.slice a n c) bs ∧ base ≤ p ∧ some p ≠ (Value.slice a n c).ownBlock

theorem IsW.lt {w : World} {base p : Nat} {bs : List Int} (h : IsW w base p bs) {k : Nat} (hk : WB w p k) : k < w.heap.size ∧ base ≤ k := by
  obtain ⟨a, n, c, hc, hf, ho, hp, hn⟩ := h
  rcases hk with rfl | ⟨v, hv, hb⟩
  · exact ⟨World.block_lt_of_cell? _ ⟨k, 0, none⟩ hc, hp⟩
  · rw [hc] at hv
    cases hv
    have := World.ownsRow.lt ho k hb
    exact ⟨this.2, this.1⟩

theorem IsW.at {w : World} {base p : Nat} {bs : List Int} (h : IsW w base p bs) : p < w.heap.size := (h.lt (k := p) (.inl rfl)).1

theorem IsW.keep {w w' : World} {base p : Nat} {bs : List Int} (h : IsW w base p bs) (hb : Below w.heap.size w w') : IsW w' base p bs := by
  have hp := h.at
  obtain ⟨a, n, c, hc, hf, ho, hp', hn⟩ := h
  exact ⟨a, n, c, (hb.cell (p := ⟨p, 0, none⟩) hp).trans hc, (hb.frozen (p := ⟨p, 0, none⟩) hp).trans hf, ho.keep hb, hp', hn⟩

theorem IsW.same {w w' : World} {base p : Nat} {bs : List Int} (h : IsW w base p bs) (hb : Below w.heap.size w w') {k : Nat} (hk : WB w' p k) : WB w p k := by
  have hp := h.at
  rcases hk with rfl | ⟨v, hv, hb'⟩
  · exact .inl rfl
  · rw [hb.cell (p := ⟨p, 0, none⟩) hp] at hv
    exact .inr ⟨v, hv, hb'⟩

theorem IsW.same' {w w' : World} {base p : Nat} {bs : List Int} (h : IsW w base p bs) (hb : Below w.heap.size w w') {k : Nat} (hk : WB w p k) : WB w' p k := by
  have hp := h.at
  rcases hk with rfl | ⟨v, hv, hb'⟩
  · exact .inl rfl
  · exact .inr ⟨v, (hb.cell (p := ⟨p, 0, none⟩) hp).trans hv, hb'⟩

/-- what a Writer's call leaves -/
def WPost (w : World) (base p : Nat) (bs : List Int) (w' : World) : Prop := IsW w' base p bs ∧ Keeps (WB w p) w w' ∧ ∀ k, WB w' p k → WB w p k ∨ w.heap.size ≤ k

theorem WPost.refl {w : World} {base p : Nat} {bs : List Int} (h : IsW w base p bs) : WPost w base p bs w := ⟨h, ⟨rfl, rfl, rfl, Nat.le_refl _, fun _ _ _ => rfl⟩, fun k hk => .inl hk⟩

theorem WPost.trans {w w1 w2 : World} {base p : Nat} {bs bs' : List Int} (h : WPost w base p bs w1) (k : WPost w1 base p bs' w2) : WPost w base p bs' w2 := by
  obtain ⟨h1, h2, h3⟩ := h
  obtain ⟨k1, k2, k3⟩ := k
  refine ⟨k1, ⟨k2.os.trans h2.os, k2.tape.trans h2.tape, k2.output.trans h2.output, Nat.le_trans h2.size k2.size, fun i hi hn => (k2.block i (Nat.lt_of_lt_of_le hi h2.size) ?_).trans (h2.block i hi hn)⟩, ?_⟩
  · intro hx
    rcases h3 i hx with h | h
    · exact hn h
    · omega
  · intro i hi
    rcases k3 i hi with h | h
    · exact h3 i h
    · exact .inr (Nat.le_trans h2.size h)

theorem WPost.ahead {w w1 w2 : World} {base p : Nat} {bs bs' : List Int} (h : IsW w base p bs) (hb : Below w.heap.size w w1) (k : WPost w1 base p bs' w2) : WPost w base p bs' w2 :=
  WPost.trans (bs := bs) ⟨h.keep hb, Below.keeps hb _, fun i hi => .inl (h.same hb hi)⟩ k

theorem WPost.behind {w w1 w2 : World} {base p : Nat} {bs : List Int} (h : WPost w base p bs w1) (hb : Below w1.heap.size w1 w2) : WPost w base p bs w2 :=
  WPost.trans h ⟨h.1.keep hb, Below.keeps hb _, fun i hi => .inl (h.1.same hb hi)⟩

theorem WPost.below {w w' : World} {base p : Nat} {bs bs' : List Int} (h : WPost w base p bs w') (h0 : IsW w base p bs') (hB : base ≤ w.heap.size) : Below base w w' :=
  h.2.1.below hB (fun k hk => (h0.lt hk).2)

/-- a block that was not the Writer's is as it was, and is not the Writer's -/
theorem WPost.cell {w w' : World} {base p : Nat} {bs : List Int} (h : WPost w base p bs w') {g i : Nat} (hg : g < w.heap.size) (hn : ¬ WB w p g) : w'.cell? ⟨g, i, none⟩ = w.cell? ⟨g, i, none⟩ := h.2.1.cell hg hn

theorem WPost.apart {w w' : World} {base p : Nat} {bs : List Int} (h : WPost w base p bs w') {g : Nat} (hg : g < w.heap.size) (hn : ¬ WB w p g) : ¬ WB w' p g := by
  intro hx
  rcases h.2.2 g hx with h | h
  · exact hn h
  · omega

/-- a Writer that was just made -/
theorem isW_new (w : World) (base g : Nat) (hg : w.heap.size = g) (hb : base ≤ g) : IsW (w.alloc (.cells #[.slice none 0 0] 134)) base g [] := by
  subst hg
  exact ⟨none, 0, 0, by simp, by simp, (ownB_nil _ _), hb, by intro h; cases h⟩

/-- the new slice, stored into the Writer's field -/
theorem wpost_store {w w1 : World} {base p : Nat} {a a' : Option Addr} {n c n' c' : Nat} {bs bs' : List Int} (hc : w.cell? ⟨p, 0, none⟩ = some (.slice a n c)) (hf : w.frozen? ⟨p, 0, none⟩ = false) (ho : OwnB w base (.slice a n c) bs) (hp : base ≤ p) (hn : some p ≠ (Value.slice a n c).ownBlock)
    (h1 : OwnB w1 base (.slice a' n' c') bs') (hg : w.grownBy w1 (Value.slice a n c).ownBlock) (hat : AtB w (.slice a n c) (.slice a' n' c')) : WPost w base p bs' (w1.setCell ⟨p, 0, none⟩ (.slice a' n' c')) := by
  have hlt : p < w.heap.size := World.block_lt_of_cell? _ ⟨p, 0, none⟩ hc
  have hne : some p ≠ (Value.slice a' n' c').ownBlock := by
    intro e
    rcases hat with h | ⟨g, h, hle⟩
    · rw [h] at e; exact hn e
    · rw [h] at e; cases e; omega
  have hc1 : w1.cell? ⟨p, 0, none⟩ = some (.slice a n c) := hg.cell hc hn
  have hf1 : w1.frozen? ⟨p, 0, none⟩ = false := (World.frozen?_of_block (a := ⟨p, 0, none⟩) (hg.block p hlt hn)).trans hf
  have hcell : (w1.setCell ⟨p, 0, none⟩ (.slice a' n' c')).cell? ⟨p, 0, none⟩ = some (.slice a' n' c') := World.cell?_setCell_same _ _ _ hc1
  refine ⟨⟨a', n', c', hcell, ?_, ?_, hp, hne⟩, ?_, ?_⟩
  · simp [hf1]
  · refine h1.lies ?_
    intro g hg'
    exact Below.heap_setCell _ _ _ _ (by intro e; subst e; exact hne hg'.symm)
  · refine ⟨hg.os, hg.tape, hg.output, Nat.le_trans hg.size (by simp [World.setCell]), ?_⟩
    intro k hk hM
    have hkp : k ≠ p := fun e => hM (.inl e)
    rw [Below.heap_setCell _ _ _ _ hkp]
    exact hg.block k hk (fun e => hM (.inr ⟨_, hc, e.symm⟩))
  · rintro k (rfl | ⟨v, hv, hb⟩)
    · exact .inl (.inl rfl)
    · rw [hcell] at hv
      cases hv
      rcases hat with h | ⟨g, h, hle⟩
      · rw [h] at hb; exact .inl (.inr ⟨_, hc, hb⟩)
      · rw [h] at hb; cases hb; exact .inr hle

set_option maxHeartbeats 1000000 in
theorem wN_any (base p : Nat) (bs : List Int) (n : Int) (g : Nat) (w : World) (h : IsW w base p bs) (hg : w.cell? ⟨g, 0, none⟩ = some (.int .u64 n)) (h1 : 0 ≤ n) (h2 : n ≤ 18446744073709551615) (hn : bs.length ≤ 1000000000) (hbase : base ≤ w.heap.size) :
    Calls Tryz.prog 122 #[.pointer (some ⟨p, 0, none⟩), .slice (some ⟨g, 0, none⟩) 1 1] w fun e w' => e = .returned (.tuple #[]) ∧ WPost w base p (bs ++ numL n) w' := by
  have H := hide h
  obtain ⟨a, m, c, hc, hf, ho, hp, hne⟩ := h
  have HO := hide ho
  have HN := hide hne
  clear ho hne
  go_enter Tryz.func122, Tryz.ntmps122
  go_wp2
  go_loopw [10] (fun i wr => (i = .int .i64 0 ∧ wr = w) ∨ (i = .int .i64 1 ∧ WPost w base p (bs ++ numL n) wr)) (fun i _ => 1 - (intOf i).toNat)
  case atStart => exact .inl ⟨rfl, rfl⟩
  case round =>
    rcases hrel with ⟨rfl, rfl⟩ | ⟨rfl, hpost⟩
    · go_wp2_with (first | (go_at_call 147; go_must (refine (addnum_any base _ bs n _ HO.out h1 h2 hn hbase).mono ?_); rintro e w2 ⟨v2, rfl, hown2, hg2, hat2⟩; obtain ⟨a2, n2, c2, rfl⟩ : ∃ a2 n2 c2, v2 = .slice a2 n2 c2 := (by obtain ⟨x, y, z, _⟩ := hown2.src; exact ⟨x, _, y, z⟩); have HP := hide (wpost_store hc hf HO.out hp HN.out hown2 hg2 hat2); have hc2 := hg2.cell hc HN.out; have hf2 := (World.frozen?_of_block (a := ⟨p, 0, none⟩) (hg2.block p (World.block_lt_of_cell? _ ⟨p, 0, none⟩ hc) HN.out)).trans hf; clear hown2 hg2 hat2))
      go_roundw
      case rel => exact .inr ⟨by go_num, HP.out⟩
      case measure => simp [intOf]
    · go_wp2
      go_end0
      exact ⟨rfl, hpost⟩

/-- the new world with a list of one number -/
theorem one_num (w : World) (n : Int) (g : Nat) (hg : w.heap.size = g) : (w.alloc (.cells #[.int .u64 n] 22)).cell? ⟨g, 0, none⟩ = some (.int .u64 n) := by
  subst hg
  simp

set_option maxHeartbeats 400000 in
theorem wI_any (base p : Nat) (bs : List Int) (n : Int) (w : World) (h : IsW w base p bs) (h1 : -9223372036854775808 ≤ n) (h2 : n ≤ 9223372036854775807) (hn : bs.length ≤ 1000000000) (hbase : base ≤ w.heap.size) :
    Calls Tryz.prog 150 #[.pointer (some ⟨p, 0, none⟩), .int .i64 n] w fun e w' => e = .returned (.tuple #[]) ∧ WPost w base p (bs ++ numL (zigV n)) w' := by
  have H := hide h
  clear h
  obtain ⟨z1, z2⟩ := zigV_range n h1 h2
  go_enter Tryz.func150, Tryz.ntmps150
  go_wp2_with (first
    | (go_at_call 162; refine (zig_any n _ h1 h2).mono ?_; rintro e w' ⟨rfl, hw⟩; have hw := hw.symm; subst hw)
    | (go_at_call 122; go_must (refine (wN_any base p bs (zigV n) w.heap.size _ (H.out.keep (new_below _ _)) (one_num _ _ _ rfl) z1 z2 hn (by simp; omega)).mono ?_); rintro e w2 ⟨rfl, hpost⟩; have HP := hide (WPost.ahead H.out (new_below _ _) hpost); clear hpost))
  go_end0
  exact ⟨rfl, HP.out⟩

set_option maxHeartbeats 400000 in
theorem wText_any (base p : Nat) (bs : List Int) (a : Option Addr) (len cap : Nat) (xs : List Int) (w : World) (h : IsW w base p bs) (hs : SrcB w a len xs) (ho : OffB a (WB w p) ∨ len = 0) (hl : len ≤ 1000000000) (hn : bs.length ≤ 100000000) (hbase : base ≤ w.heap.size) :
    Calls Tryz.prog 125 #[.pointer (some ⟨p, 0, none⟩), .slice a len cap] w fun e w' => e = .returned (.tuple #[]) ∧ WPost w base p (bs ++ (numL len ++ xs)) w' := by
  have H := hide h
  have HS := hide hs
  have HQ := hide ho
  clear h hs ho
  have HNL := hide (numL_length (len : Int) (by omega) (by omega))
  go_enter Tryz.func125, Tryz.ntmps125
  go_wp2_with (first
    | (go_at_call 122; go_must (refine (wN_any base p bs (len : Int) w.heap.size _ (H.out.keep (new_below _ _)) (one_num _ _ _ rfl) (by omega) (by omega) (by omega) (by simp; omega)).mono ?_); rintro e w2 ⟨rfl, hpost⟩; have hpost1 := WPost.ahead H.out (new_below _ _) hpost; have HP := hide hpost1; have HS2 := hide (HS.out.liesO hpost1.2.1 HQ.out); have hsz2 := hpost1.2.1.size; obtain ⟨a2, n2, c2, hc2, hf2, ho2, hp2, hne2⟩ := hpost1.1; have HO2 := hide ho2; have HN2 := hide hne2; clear hpost hpost1 ho2 hne2)
    | (at_builtin; go_must (refine wp_joinB _ rfl (.tmp 16) (.tmp 17) rfl base _ _ rfl HO2.out a len cap xs rfl HS2.out (by have := HNL.out; rw [HS2.out.1, List.length_append]; omega) (by omega) ?_); intro v3 w3 hown3 hg3 hat3; obtain ⟨a3, n3, c3, rfl⟩ : ∃ a3 n3 c3, v3 = .slice a3 n3 c3 := (by obtain ⟨x, y, z, _⟩ := hown3.src; exact ⟨x, _, y, z⟩); have HP3 := hide (HP.out.trans (wpost_store hc2 hf2 HO2.out hp2 HN2.out hown3 hg3 hat3)); have hc3 := hg3.cell hc2 HN2.out; have hf3 := (World.frozen?_of_block (a := ⟨p, 0, none⟩) (hg3.block p (World.block_lt_of_cell? _ ⟨p, 0, none⟩ hc2) HN2.out)).trans hf2; clear hown3 hg3 hat3))
  go_end0
  refine ⟨rfl, ?_⟩
  rw [← List.append_assoc]
  exact HP3.out

set_option maxHeartbeats 400000 in
theorem wBytes_any (base p : Nat) (bs : List Int) (w : World) (h : IsW w base p bs) (hn : bs.length ≤ 1000000000) :
    Calls Tryz.prog 123 #[.pointer (some ⟨p, 0, none⟩)] w fun e w' => ∃ v, e = .returned v ∧ OwnB w' w.heap.size v bs ∧ Below w.heap.size w w' := by
  obtain ⟨a, n, c, hc, hf, ho, hp, hne⟩ := h
  obtain ⟨a', c', e, hs, hb⟩ := ho.src
  cases e
  have HS := hide hs
  clear hs hb ho hne
  go_enter Tryz.func123, Tryz.ntmps123
  go_wp2_with (first
    | (go_at_call 80; go_must (refine (clone_src a bs.length c bs _ HS.out hn).mono ?_); rintro e w2 ⟨v2, rfl, hown2, hb2⟩))
  go_ret
  exact ⟨v2, rfl, hown2, hb2⟩

end Go.Proofs.YtfojpengdpnigaaGreat
