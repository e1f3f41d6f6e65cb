/- A Writer in memory: what its N, I, Text, Bytes do to it, and that they touch nothing else. -/
import Derived.Test.YtpaidekocooliaaRowNum
import Derived.Test.YtpaidekocooliaaOkeyJoin
import Derived.Lib.ConvBytes
namespace Go.Proofs.Ytpaidekocooliaa
open Go.RowKit NumMath
set_option linter.unusedVariables false

/-- the world w' is as w was but for the blocks M, and new ones -/
structure Keeps (M : Nat → Prop) (w w' : World) : Prop where
  os : w'.os = w.os
  tape : w'.tape = w.tape
  output : w'.output = w.output
  size : w.heap.size ≤ w'.heap.size
  block : ∀ k, k < w.heap.size → ¬ M k → w'.heap[k]? = w.heap[k]?

theorem Keeps.cell {M : Nat → Prop} {w w' : World} (h : Keeps M w w') {g i : Nat} (hg : g < w.heap.size) (hm : ¬ M g) : w'.cell? ⟨g, i, none⟩ = w.cell? ⟨g, i, none⟩ :=
  World.cell?_of_block (a := ⟨g, i, none⟩) (h.block g hg hm)

theorem Keeps.below {M : Nat → Prop} {w w' : World} {B : Nat} (h : Keeps M w w') (hB : B ≤ w.heap.size) (hm : ∀ k, M k → B ≤ k) : Below B w w' :=
  ⟨h.os, h.tape, h.output, h.size, fun k hk => h.block k (by omega) (fun x => by have := hm k x; omega)⟩

theorem Below.keeps {w w' : World} (h : Below w.heap.size w w') (M : Nat → Prop) : Keeps M w w' := ⟨h.os, h.tape, h.output, h.size, fun k hk _ => h.block k hk⟩

theorem OwnB.lies {w w' : World} {base : Nat} {v : Value} {bs : List Int} (h : OwnB w base v bs) (hb : ∀ g, v.ownBlock = some g → w'.heap[g]? = w.heap[g]?) : OwnB w' base v bs := by
  refine ⟨h.1, ?_⟩
  rcases h.2 with h0 | ⟨g, cap, cur, hv, hg, hh, hr⟩
  · exact .inl h0
  · refine .inr ⟨g, cap, cur, hv, hg, ?_, hr⟩
    rw [hb g (by rw [hv]; rfl)]
    exact hh

/-- the blocks of the Writer at p -/
def WB (w : World) (p k : Nat) : Prop := k = p ∨ ∃ v, w.cell? ⟨p, 0, none⟩ = some v ∧ v.ownBlock = some k

/-- the Writer at p holds the bytes bs -/
def IsW (w : World) (base p : Nat) (bs : List Int) : Prop :=
  ∃ a n c, w.cell? ⟨p, 0, none⟩ = some (.slice a n c) ∧ w.frozen? ⟨p, 0, none⟩ = false ∧ OwnB w base (.slice a n c) bs ∧ base ≤ p ∧ some p ≠ (Value.slice a n c).ownBlock

theorem IsW.lt {w : World} {base p : Nat} {bs : List Int} (h : IsW w base p bs) {k : Nat} (hk : WB w p k) : k < w.heap.size ∧ base ≤ k := by
  obtain ⟨a, n, c, hc, hf, ho, hp, hn⟩ := h
  rcases hk with rfl | ⟨v, hv, hb⟩
  · exact ⟨World.block_lt_of_cell? _ ⟨k, 0, none⟩ hc, hp⟩
  · rw [hc] at hv
    cases hv
    have := World.ownsRow.lt ho k hb
    exact ⟨this.2, this.1⟩

theorem IsW.at {w : World} {base p : Nat} {bs : List Int} (h : IsW w base p bs) : p < w.heap.size := (h.lt (k := p) (.inl rfl)).1

theorem IsW.keep {w w' : World} {base p : Nat} {bs : List Int} (h : IsW w base p bs) (hb : Below w.heap.size w w') : IsW w' base p bs := by
  have hp := h.at
  obtain ⟨a, n, c, hc, hf, ho, hp', hn⟩ := h
  exact ⟨a, n, c, (hb.cell (p := ⟨p, 0, none⟩) hp).trans hc, (hb.frozen (p := ⟨p, 0, none⟩) hp).trans hf, ho.keep hb, hp', hn⟩

theorem IsW.same {w w' : World} {base p : Nat} {bs : List Int} (h : IsW w base p bs) (hb : Below w.heap.size w w') {k : Nat} (hk : WB w' p k) : WB w p k := by
  have hp := h.at
  rcases hk with rfl | ⟨v, hv, hb'⟩
  · exact .inl rfl
  · rw [hb.cell (p := ⟨p, 0, none⟩) hp] at hv
    exact .inr ⟨v, hv, hb'⟩

theorem IsW.same' {w w' : World} {base p : Nat} {bs : List Int} (h : IsW w base p bs) (hb : Below w.heap.size w w') {k : Nat} (hk : WB w p k) : WB w' p k := by
  have hp := h.at
  rcases hk with rfl | ⟨v, hv, hb'⟩
  · exact .inl rfl
  · exact .inr ⟨v, (hb.cell (p := ⟨p, 0, none⟩) hp).trans hv, hb'⟩

/-- what a Writer's call leaves -/
def WPost (w : World) (base p : Nat) (bs : List Int) (w' : World) : Prop := IsW w' base p bs ∧ Keeps (WB w p) w w' ∧ ∀ k, WB w' p k → WB w p k ∨ w.heap.size ≤ k

theorem WPost.refl {w : World} {base p : Nat} {bs : List Int} (h : IsW w base p bs) : WPost w base p bs w := ⟨h, ⟨rfl, rfl, rfl, Nat.le_refl _, fun _ _ _ => rfl⟩, fun k hk => .inl hk⟩

theorem WPost.trans {w w1 w2 : World} {base p : Nat} {bs bs' : List Int} (h : WPost w base p bs w1) (k : WPost w1 base p bs' w2) : WPost w base p bs' w2 := by
  obtain ⟨h1, h2, h3⟩ := h
  obtain ⟨k1, k2, k3⟩ := k
  refine ⟨k1, ⟨k2.os.trans h2.os, k2.tape.trans h2.tape, k2.output.trans h2.output, Nat.le_trans h2.size k2.size, fun i hi hn => (k2.block i (Nat.lt_of_lt_of_le hi h2.size) ?_).trans (h2.block i hi hn)⟩, ?_⟩
  · intro hx
    rcases h3 i hx with h | h
    · exact hn h
    · omega
  · intro i hi
    rcases k3 i hi with h | h
    · exact h3 i h
    · exact .inr (Nat.le_trans h2.size h)

theorem WPost.ahead {w w1 w2 : World} {base p : Nat} {bs bs' : List Int} (h : IsW w base p bs) (hb : Below w.heap.size w w1) (k : WPost w1 base p bs' w2) : WPost w base p bs' w2 :=
  WPost.trans (bs := bs) ⟨h.keep hb, Below.keeps hb _, fun i hi => .inl (h.same hb hi)⟩ k

theorem WPost.behind {w w1 w2 : World} {base p : Nat} {bs : List Int} (h : WPost w base p bs w1) (hb : Below w1.heap.size w1 w2) : WPost w base p bs w2 :=
  WPost.trans h ⟨h.1.keep hb, Below.keeps hb _, fun i hi => .inl (h.1.same hb hi)⟩

theorem WPost.below {w w' : World} {base p : Nat} {bs bs' : List Int} (h : WPost w base p bs w') (h0 : IsW w base p bs') (hB : base ≤ w.heap.size) : Below base w w' :=
  h.2.1.below hB (fun k hk => (h0.lt hk).2)

/-- a block that was not the Writer's is as it was, and is not the Writer's -/
theorem WPost.cell {w w' : World} {base p : Nat} {bs : List Int} (h : WPost w base p bs w') {g i : Nat} (hg : g < w.heap.size) (hn : ¬ WB w p g) : w'.cell? ⟨g, i, none⟩ = w.cell? ⟨g, i, none⟩ := h.2.1.cell hg hn

theorem WPost.apart {w w' : World} {base p : Nat} {bs : List Int} (h : WPost w base p bs w') {g : Nat} (hg : g < w.heap.size) (hn : ¬ WB w p g) : ¬ WB w' p g := by
  intro hx
  rcases h.2.2 g hx with h | h
  · exact hn h
  · omega

/-- a Writer that was just made -/
theorem isW_new (w : World) (base g : Nat) (hg : w.heap.size = g) (hb : base ≤ g) : IsW (w.alloc (.cells #[.slice none 0 0] 70)) base g [] := by
  subst hg
  exact ⟨none, 0, 0, by simp, by simp, (ownB_nil _ _), hb, by intro h; cases h⟩

/-- a slice's elements are the bytes xs, wherever they lie -/
def SrcB (w : World) (a : Option Addr) (len : Nat) (xs : List Int) : Prop := xs.length = len ∧ (len = 0 ∨ ∃ g off, a = some ⟨g, off, none⟩ ∧ g < w.heap.size ∧ BytesAt w g off xs)

theorem IsBytes.src {w : World} {a : Option Addr} {len cap : Nat} {xs : List Int} (h : IsBytes w a len cap xs) : SrcB w a len xs := ⟨h.1, h.2.2.2.2⟩

/-- none of the slice's elements lies in a block of M -/
def OffB (a : Option Addr) (M : Nat → Prop) : Prop := ∀ x, a = some x → ¬ M x.block

theorem SrcB.lies {w w' : World} {a : Option Addr} {len : Nat} {xs : List Int} {M : Nat → Prop} (h : SrcB w a len xs) (hk : Keeps M w w') (ho : OffB a M) : SrcB w' a len xs := by
  refine ⟨h.1, ?_⟩
  rcases h.2 with h0 | ⟨g, off, rfl, hg, hB⟩
  · exact .inl h0
  · exact .inr ⟨g, off, rfl, Nat.lt_of_lt_of_le hg hk.size, fun i hi => (hk.cell hg (ho _ rfl)).trans (hB i hi)⟩

theorem SrcB.liesO {w w' : World} {a : Option Addr} {len : Nat} {xs : List Int} {M : Nat → Prop} (h : SrcB w a len xs) (hk : Keeps M w w') (ho : OffB a M ∨ len = 0) : SrcB w' a len xs := by
  rcases ho with ho | h0
  · exact h.lies hk ho
  · exact ⟨h.1, .inl h0⟩

theorem SrcB.keep {w w' : World} {a : Option Addr} {len : Nat} {xs : List Int} (h : SrcB w a len xs) (hb : Below w.heap.size w w') : SrcB w' a len xs :=
  h.lies (Below.keeps hb (fun _ => False)) (fun _ _ h => h)

theorem OwnB.src {w : World} {base : Nat} {v : Value} {bs : List Int} (h : OwnB w base v bs) : ∃ a cap, v = .slice a bs.length cap ∧ SrcB w a bs.length bs ∧ ∀ x, a = some x → v.ownBlock = some x.block := by
  rcases h.form with ⟨rfl, rfl⟩ | ⟨g, cap, rfl, hg1, hg2, hc, hm, hB⟩
  · exact ⟨none, 0, rfl, ⟨rfl, .inl rfl⟩, by intro x hx; cases hx⟩
  · exact ⟨_, cap, rfl, ⟨rfl, .inr ⟨g, 0, rfl, hg2, fun i hi => by rw [Nat.zero_add]; exact hB i hi⟩⟩, by intro x hx; cases hx; rfl⟩

theorem OwnB.any {w : World} {base : Nat} {v : Value} {bs : List Int} (h : OwnB w base v bs) : ∃ a n cap, v = .slice a n cap ∧ SrcB w a n bs := by
  obtain ⟨a, cap, e, hs, _⟩ := h.src
  exact ⟨a, _, cap, e, hs⟩

/-- append of bytes, wherever they lie -/
theorem wp_joinB {ops : Array Oper} {rest : List Oper} {o : Oper} {a : Act} {Q : Exit → Act → World → Prop} (w : World) (hgd : o.guard = none) (s x : Operand)
    (ho : o.op = .call { callee := .builtin .append, args := #[s, x], argTypes := #[25, 25] }) (base : Nat) (v : Value) (bs : List Int) (hs : a.eval s = v) (hown : OwnB w base v bs)
    (sa : Option Addr) (m c : Nat) (ys : List Int) (hx : a.eval x = .slice sa m c) (hB : SrcB w sa m ys) (hbig : bs.length + ys.length ≤ 1099511627776) (hbase : base ≤ w.heap.size)
    (h : ∀ v' w', OwnB w' base v' (bs ++ ys) → w.grownBy w' v.ownBlock → AtB w v v' → wpList Try.prog ops Q rest (a.put o.dst v') w') : wpList Try.prog ops Q (o :: rest) a w := by
  by_cases h0 : m = 0
  · subst h0
    have hy : ys = [] := List.length_eq_zero_iff.1 hB.1
    subst hy
    obtain ⟨i0, hi, hz0, hz1, hz2⟩ := info_parts infoU8
    refine wpList_plain hgd fun K hK => ?_
    have hrun := run_append_empty w base 25 o.type 5 i0 1 Try.underlying25 hi v bs.length _ hown sa c
    unfold Oper.wp
    simp [execOp, ho, resolve, invoke, builtin, hs, hx, hrun, Result.andThen]
    refine hK _ _ (h v w ?_ ⟨rfl, rfl, rfl, Nat.le_refl _, fun _ _ _ => rfl⟩ (.inl rfl))
    rw [List.append_nil]
    exact hown
  · rcases hB.2 with h1 | ⟨g, off, rfl, hg, hb⟩
    · exact absurd h1 h0
    · obtain ⟨i0, hi, hz0, hz1, hz2⟩ := info_parts infoU8
      have hl := hB.1
      refine wpList_append_own_at w hgd s x 25 ho base 5 i0 (.int .u8 0) 1 1 Try.underlying25 hi hz0 hz1 hz2 rfl (by decide) v bs.length _ hs hown ⟨g, off, none⟩ m c (ys.map (Value.int .u8)) hx (by simp [hl]) (bytesAt_add hb) (u8_one ys) (by unfold maxLen; omega) (by omega) hbase ?_
      intro v' w' h1 h2 h3 h4
      refine h v' w' ?_ h2 ?_
      · unfold OwnB
        rw [List.length_append, List.map_append, hl]
        exact h1
      · rcases h4 with h4 | h4
        · exact .inl h4
        · exact .inr ⟨_, h4, Nat.le_refl _⟩

/-- the new slice, stored into the Writer's field -/
theorem wpost_store {w w1 : World} {base p : Nat} {a a' : Option Addr} {n c n' c' : Nat} {bs bs' : List Int} (hc : w.cell? ⟨p, 0, none⟩ = some (.slice a n c)) (hf : w.frozen? ⟨p, 0, none⟩ = false) (ho : OwnB w base (.slice a n c) bs) (hp : base ≤ p) (hn : some p ≠ (Value.slice a n c).ownBlock)
    (h1 : OwnB w1 base (.slice a' n' c') bs') (hg : w.grownBy w1 (Value.slice a n c).ownBlock) (hat : AtB w (.slice a n c) (.slice a' n' c')) : WPost w base p bs' (w1.setCell ⟨p, 0, none⟩ (.slice a' n' c')) := by
  have hlt : p < w.heap.size := World.block_lt_of_cell? _ ⟨p, 0, none⟩ hc
  have hne : some p ≠ (Value.slice a' n' c').ownBlock := by
    intro e
    rcases hat with h | ⟨g, h, hle⟩
    · rw [h] at e; exact hn e
    · rw [h] at e; cases e; omega
  have hc1 : w1.cell? ⟨p, 0, none⟩ = some (.slice a n c) := hg.cell hc hn
  have hf1 : w1.frozen? ⟨p, 0, none⟩ = false := (World.frozen?_of_block (a := ⟨p, 0, none⟩) (hg.block p hlt hn)).trans hf
  have hcell : (w1.setCell ⟨p, 0, none⟩ (.slice a' n' c')).cell? ⟨p, 0, none⟩ = some (.slice a' n' c') := World.cell?_setCell_same _ _ _ hc1
  refine ⟨⟨a', n', c', hcell, ?_, ?_, hp, hne⟩, ?_, ?_⟩
  · simp [hf1]
  · refine h1.lies ?_
    intro g hg'
    exact Below.heap_setCell _ _ _ _ (by intro e; subst e; exact hne hg'.symm)
  · refine ⟨hg.os, hg.tape, hg.output, Nat.le_trans hg.size (by simp [World.setCell]), ?_⟩
    intro k hk hM
    have hkp : k ≠ p := fun e => hM (.inl e)
    rw [Below.heap_setCell _ _ _ _ hkp]
    exact hg.block k hk (fun e => hM (.inr ⟨_, hc, e.symm⟩))
  · rintro k (rfl | ⟨v, hv, hb⟩)
    · exact .inl (.inl rfl)
    · rw [hcell] at hv
      cases hv
      rcases hat with h | ⟨g, h, hle⟩
      · rw [h] at hb; exact .inl (.inr ⟨_, hc, hb⟩)
      · rw [h] at hb; cases hb; exact .inr hle

set_option maxHeartbeats 1000000 in
theorem wN_any (base p : Nat) (bs : List Int) (n : Int) (g : Nat) (w : World) (h : IsW w base p bs) (hg : w.cell? ⟨g, 0, none⟩ = some (.int .u64 n)) (h1 : 0 ≤ n) (h2 : n ≤ 18446744073709551615) (hn : bs.length ≤ 1000000000) (hbase : base ≤ w.heap.size) :
    Calls Try.prog 32 #[.pointer (some ⟨p, 0, none⟩), .slice (some ⟨g, 0, none⟩) 1 1] w fun e w' => e = .returned (.tuple #[]) ∧ WPost w base p (bs ++ numL n) w' := by
  have H := hide h
  obtain ⟨a, m, c, hc, hf, ho, hp, hne⟩ := h
  have HO := hide ho
  have HN := hide hne
  clear ho hne
  go_enter Try.func32, Try.ntmps32
  go_wp2
  go_loopw [10] (fun i wr => (i = .int .i64 0 ∧ wr = w) ∨ (i = .int .i64 1 ∧ WPost w base p (bs ++ numL n) wr)) (fun i _ => 1 - (intOf i).toNat)
  case atStart => exact .inl ⟨rfl, rfl⟩
  case round =>
    rcases hrel with ⟨rfl, rfl⟩ | ⟨rfl, hpost⟩
    · go_wp2_with (first | (go_at_call 49; go_must (refine (addnum_any base _ bs n _ HO.out h1 h2 hn hbase).mono ?_); rintro e w2 ⟨v2, rfl, hown2, hg2, hat2⟩; obtain ⟨a2, n2, c2, rfl⟩ : ∃ a2 n2 c2, v2 = .slice a2 n2 c2 := (by obtain ⟨x, y, z, _⟩ := hown2.src; exact ⟨x, _, y, z⟩); have HP := hide (wpost_store hc hf HO.out hp HN.out hown2 hg2 hat2); have hc2 := hg2.cell hc HN.out; have hf2 := (World.frozen?_of_block (a := ⟨p, 0, none⟩) (hg2.block p (World.block_lt_of_cell? _ ⟨p, 0, none⟩ hc) HN.out)).trans hf; clear hown2 hg2 hat2))
      go_roundw
      case rel => exact .inr ⟨by go_num, HP.out⟩
      case measure => simp [intOf]
    · go_wp2
      go_end0
      exact ⟨rfl, hpost⟩

/-- the new world with a list of one number -/
theorem one_num (w : World) (n : Int) (g : Nat) (hg : w.heap.size = g) : (w.alloc (.cells #[.int .u64 n] 33)).cell? ⟨g, 0, none⟩ = some (.int .u64 n) := by
  subst hg
  simp

theorem new_below (w : World) (o : Obj) : Below w.heap.size w (w.alloc o) := (Below.refl _ _).alloc (Nat.le_refl _) _

set_option maxHeartbeats 400000 in
theorem wI_any (base p : Nat) (bs : List Int) (n : Int) (w : World) (h : IsW w base p bs) (h1 : -9223372036854775808 ≤ n) (h2 : n ≤ 9223372036854775807) (hn : bs.length ≤ 1000000000) (hbase : base ≤ w.heap.size) :
    Calls Try.prog 33 #[.pointer (some ⟨p, 0, none⟩), .int .i64 n] w fun e w' => e = .returned (.tuple #[]) ∧ WPost w base p (bs ++ numL (zigV n)) w' := by
  have H := hide h
  clear h
  obtain ⟨z1, z2⟩ := zigV_range n h1 h2
  go_enter Try.func33, Try.ntmps33
  go_wp2_with (first
    | (go_at_call 50; refine (zig_any n _ h1 h2).mono ?_; rintro e w' ⟨rfl, hw⟩; have hw := hw.symm; subst hw)
    | (go_at_call 32; go_must (refine (wN_any base p bs (zigV n) w.heap.size _ (H.out.keep (new_below _ _)) (one_num _ _ _ rfl) z1 z2 hn (by simp; omega)).mono ?_); rintro e w2 ⟨rfl, hpost⟩; have HP := hide (WPost.ahead H.out (new_below _ _) hpost); clear hpost))
  go_end0
  exact ⟨rfl, HP.out⟩

set_option maxHeartbeats 400000 in
theorem wText_any (base p : Nat) (bs : List Int) (a : Option Addr) (len cap : Nat) (xs : List Int) (w : World) (h : IsW w base p bs) (hs : SrcB w a len xs) (ho : OffB a (WB w p) ∨ len = 0) (hl : len ≤ 1000000000) (hn : bs.length ≤ 100000000) (hbase : base ≤ w.heap.size) :
    Calls Try.prog 34 #[.pointer (some ⟨p, 0, none⟩), .slice a len cap] w fun e w' => e = .returned (.tuple #[]) ∧ WPost w base p (bs ++ (numL len ++ xs)) w' := by
  have H := hide h
  have HS := hide hs
  have HQ := hide ho
  clear h hs ho
  have HNL := hide (numL_length (len : Int) (by omega) (by omega))
  go_enter Try.func34, Try.ntmps34
  go_wp2_with (first
    | (go_at_call 32; go_must (refine (wN_any base p bs (len : Int) w.heap.size _ (H.out.keep (new_below _ _)) (one_num _ _ _ rfl) (by omega) (by omega) (by omega) (by simp; omega)).mono ?_); rintro e w2 ⟨rfl, hpost⟩; have hpost1 := WPost.ahead H.out (new_below _ _) hpost; have HP := hide hpost1; have HS2 := hide (HS.out.liesO hpost1.2.1 HQ.out); have hsz2 := hpost1.2.1.size; obtain ⟨a2, n2, c2, hc2, hf2, ho2, hp2, hne2⟩ := hpost1.1; have HO2 := hide ho2; have HN2 := hide hne2; clear hpost hpost1 ho2 hne2)
    | (at_builtin; go_must (refine wp_joinB _ rfl (.tmp 16) (.tmp 17) rfl base _ _ rfl HO2.out a len cap xs rfl HS2.out (by have := HNL.out; rw [HS2.out.1, List.length_append]; omega) (by omega) ?_); intro v3 w3 hown3 hg3 hat3; obtain ⟨a3, n3, c3, rfl⟩ : ∃ a3 n3 c3, v3 = .slice a3 n3 c3 := (by obtain ⟨x, y, z, _⟩ := hown3.src; exact ⟨x, _, y, z⟩); have HP3 := hide (HP.out.trans (wpost_store hc2 hf2 HO2.out hp2 HN2.out hown3 hg3 hat3)); have hc3 := hg3.cell hc2 HN2.out; have hf3 := (World.frozen?_of_block (a := ⟨p, 0, none⟩) (hg3.block p (World.block_lt_of_cell? _ ⟨p, 0, none⟩ hc2) HN2.out)).trans hf2; clear hown3 hg3 hat3))
  go_end0
  refine ⟨rfl, ?_⟩
  rw [← List.append_assoc]
  exact HP3.out

set_option maxHeartbeats 400000 in
theorem clone_src (a : Option Addr) (len cap : Nat) (xs : List Int) (w : World) (hs : SrcB w a len xs) (hbig : len ≤ 1000000000) :
    Calls Try.prog 41 #[.slice a len cap] w fun e w' => ∃ v, e = .returned v ∧ OwnB w' w.heap.size v xs ∧ Below w.heap.size w w' := by
  have HS := hide hs
  cases a with
  | none =>
    have h0 : len = 0 := by
      rcases hs.2 with h | ⟨g, off, h, _⟩
      · exact h
      · cases h
    have hx : xs = [] := List.length_eq_zero_iff.1 (hs.1.trans h0)
    subst h0 hx
    clear hs
    have hnil : ∀ w, (binOp .eql 25 (.slice none 0 cap) (.slice none 0 0)).run Try.prog w = .ok (.bool true) w := fun w => Lib.run_eql_slice_nil w 25 5 none 0 cap 0 0 Try.underlying25
    go_enter Try.func41, Try.ntmps41
    go_wp2
    go_ret
    exact ⟨_, rfl, ownB_nil _ _, Below.refl _ _⟩
  | some x =>
    clear hs
    have hnil : ∀ w, (binOp .eql 25 (.slice (some x) len cap) (.slice none 0 0)).run Try.prog w = .ok (.bool false) w := fun w => Lib.run_eql_slice_nil w 25 5 (some x) len cap 0 0 Try.underlying25
    go_enter Try.func41, Try.ntmps41
    go_wp2_with (first
      | (at_builtin; go_must (refine wp_joinB _ rfl (.tmp 5) (.tmp 6) rfl w.heap.size _ [] rfl (ownB_empty w _ (Nat.le_refl _)) (some x) len cap xs rfl (HS.out.keep (new_below _ _)) (by rw [HS.out.1]; simp; omega) (by simp) ?_); intro v1 w1 hown1 hg1 hat1))
    go_ret
    refine ⟨v1, rfl, hown1, ?_⟩
    exact (new_below _ _).trans ((ownB_empty w _ (Nat.le_refl _)).grown hg1 (by simp))

set_option maxHeartbeats 400000 in
theorem wBytes_any (base p : Nat) (bs : List Int) (w : World) (h : IsW w base p bs) (hn : bs.length ≤ 1000000000) :
    Calls Try.prog 36 #[.pointer (some ⟨p, 0, none⟩)] w fun e w' => ∃ v, e = .returned v ∧ OwnB w' w.heap.size v bs ∧ Below w.heap.size w w' := by
  obtain ⟨a, n, c, hc, hf, ho, hp, hne⟩ := h
  obtain ⟨a', c', e, hs, hb⟩ := ho.src
  cases e
  have HS := hide hs
  clear hs hb ho hne
  go_enter Try.func36, Try.ntmps36
  go_wp2_with (first
    | (go_at_call 41; go_must (refine (clone_src a bs.length c bs _ HS.out hn).mono ?_); rintro e w2 ⟨v2, rfl, hown2, hb2⟩))
  go_ret
  exact ⟨v2, rfl, hown2, hb2⟩

end Go.Proofs.Ytpaidekocooliaa
