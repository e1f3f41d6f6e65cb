/- A disk in memory: where it lies, what a store into its fields leaves; New, Append, Sync, Synced, Bytes, Swap, Cut of one that somebody made, and every call of the nil one but Crash. -/
import Derived.Test.YtajpamkdcpbabaaSb
import Derived.Test.YtajpamkdcpbabaaBytCut
import Derived.Deep.RegionWith
namespace Go.Proofs.Ytajpamkdcpbabaa
open Go.RowKit NumMath
set_option linter.unusedVariables false

/-- the disk at p: its size, its bytes, how many are synced -/
def IsD (w : World) (base p size : Nat) (bs : List Int) (syn : Nat) : Prop :=
  ∃ a n c, w.cell? ⟨p, 0, none⟩ = some (.bool true) ∧ w.cell? ⟨p, 1, none⟩ = some (.int .i64 (size : Int)) ∧ w.cell? ⟨p, 2, none⟩ = some (.slice a n c) ∧ w.cell? ⟨p, 3, none⟩ = some (.int .i64 (syn : Int)) ∧ (∀ i, w.frozen? ⟨p, i, none⟩ = false) ∧ OwnB w base (.slice a n c) bs ∧ base ≤ p ∧ some p ≠ (Value.slice a n c).ownBlock

theorem IsD.lt {w : World} {base p size : Nat} {bs : List Int} {syn : Nat} (h : IsD w base p size bs syn) {k : Nat} (hk : SB 2 w p k) : k < w.heap.size ∧ base ≤ k := by
  obtain ⟨a, n, c, h0, h1, hc, h3, hf, ho, hp, hn⟩ := h
  rcases hk with rfl | ⟨v, hv, hb⟩
  · exact ⟨World.block_lt_of_cell? _ ⟨k, 0, none⟩ h0, hp⟩
  · rw [hc] at hv
    cases hv
    have := World.ownsRow.lt ho k hb
    exact ⟨this.2, this.1⟩

theorem IsD.at {w : World} {base p size : Nat} {bs : List Int} {syn : Nat} (h : IsD w base p size bs syn) : p < w.heap.size := (h.lt (k := p) SB.at).1

/-- a disk of which no block was changed -/
theorem IsD.lies {w w' : World} {base p size : Nat} {bs : List Int} {syn : Nat} (h : IsD w base p size bs syn) (hb : ∀ k, SB 2 w p k → w'.heap[k]? = w.heap[k]?) : IsD w' base p size bs syn := by
  obtain ⟨a, n, c, h0, h1, hc, h3, hf, ho, hp, hn⟩ := h
  have e := hb p SB.at
  refine ⟨a, n, c, (World.cell?_of_block (a := ⟨p, 0, none⟩) e).trans h0, (World.cell?_of_block (a := ⟨p, 1, none⟩) e).trans h1, (World.cell?_of_block (a := ⟨p, 2, none⟩) e).trans hc, (World.cell?_of_block (a := ⟨p, 3, none⟩) e).trans h3, fun i => (World.frozen?_of_block (a := ⟨p, i, none⟩) e).trans (hf i), ho.lies ?_, hp, hn⟩
  intro g hg
  exact hb g (.inr ⟨_, hc, hg⟩)

theorem IsD.keep {w w' : World} {base p size : Nat} {bs : List Int} {syn : Nat} (h : IsD w base p size bs syn) (hb : Below w.heap.size w w') : IsD w' base p size bs syn :=
  h.lies (fun k hk => hb.block k (h.lt hk).1)

/-- a disk beside a struct that was changed -/
theorem IsD.off {w w' : World} {base p size : Nat} {bs : List Int} {syn j q : Nat} (h : IsD w base p size bs syn) (ho : Off2 j 2 w q p) (hp : SPost j w q w') : IsD w' base p size bs syn :=
  h.lies (fun k hk => hp.1.block k (h.lt hk).1 (fun hx => ho k hx hk))

theorem IsD.below {w w' : World} {base p size : Nat} {bs : List Int} {syn : Nat} (h : IsD w base p size bs syn) (hp : SPost 2 w p w') (hB : base ≤ w.heap.size) : Below base w w' := hp.below hB (fun k hk => (h.lt hk).2)

/-- where a slice's array lies now: where it lay, or in a new block, or nowhere -/
def AtW (w : World) (v v' : Value) : Prop := ∀ k, v'.ownBlock = some k → v.ownBlock = some k ∨ w.heap.size ≤ k

theorem AtB.atW {w : World} {v v' : Value} (h : AtB w v v') : AtW w v v' := by
  intro k hk
  rcases h with h | ⟨g, h, hle⟩
  · rw [h] at hk; exact .inl hk
  · rw [h] at hk; cases hk; exact .inr hle

theorem OwnB.atW {w w' : World} {v v' : Value} {bs : List Int} (h : OwnB w' w.heap.size v' bs) : AtW w v v' := fun k hk => .inr (World.ownsRow.lt h k hk).1

theorem Below.grown {w w' : World} (h : Below w.heap.size w w') (row : Option Nat) : w.grownBy w' row := ⟨h.os, h.tape, h.output, h.size, fun k hk _ => h.block k hk⟩

/-- a new slice, stored into the disk's field -/
theorem isD_set2 {w w1 : World} {base p size : Nat} {a a' : Option Addr} {n c n' c' : Nat} {bs' : List Int} {syn : Nat} (h0 : w.cell? ⟨p, 0, none⟩ = some (.bool true)) (h1 : w.cell? ⟨p, 1, none⟩ = some (.int .i64 (size : Int))) (hc : w.cell? ⟨p, 2, none⟩ = some (.slice a n c)) (h3 : w.cell? ⟨p, 3, none⟩ = some (.int .i64 (syn : Int))) (hf : ∀ i, w.frozen? ⟨p, i, none⟩ = false) (hp : base ≤ p) (hn : some p ≠ (Value.slice a n c).ownBlock)
    (k1 : OwnB w1 base (.slice a' n' c') bs') (hg : w.grownBy w1 (Value.slice a n c).ownBlock) (hat : AtW w (.slice a n c) (.slice a' n' c')) : IsD (w1.setCell ⟨p, 2, none⟩ (.slice a' n' c')) base p size bs' syn ∧ SPost 2 w p (w1.setCell ⟨p, 2, none⟩ (.slice a' n' c')) := by
  have hlt : p < w.heap.size := World.block_lt_of_cell? _ ⟨p, 0, none⟩ h0
  have hne : some p ≠ (Value.slice a' n' c').ownBlock := by
    intro e
    rcases hat p e.symm with h | h
    · exact hn h.symm
    · omega
  have e := hg.block p hlt hn
  have hc1 : w1.cell? ⟨p, 2, none⟩ = some (.slice a n c) := hg.cell hc hn
  have hf1 : ∀ i, w1.frozen? ⟨p, i, none⟩ = false := fun i => (World.frozen?_of_block (a := ⟨p, i, none⟩) e).trans (hf i)
  have hcell : (w1.setCell ⟨p, 2, none⟩ (.slice a' n' c')).cell? ⟨p, 2, none⟩ = some (.slice a' n' c') := World.cell?_setCell_same _ _ _ hc1
  refine ⟨⟨a', n', c', ?_, ?_, hcell, ?_, ?_, ?_, hp, hne⟩, ⟨hg.os, hg.tape, hg.output, Nat.le_trans hg.size (by simp [World.setCell]), ?_⟩, ?_⟩
  · rw [cell_set_off _ _ _ _ _ (by decide)]; exact hg.cell h0 hn
  · rw [cell_set_off _ _ _ _ _ (by decide)]; exact hg.cell h1 hn
  · rw [cell_set_off _ _ _ _ _ (by decide)]; exact hg.cell h3 hn
  · intro i; simp [hf1]
  · refine k1.lies ?_
    intro g hg'
    exact Below.heap_setCell _ _ _ _ (by intro e; subst e; exact hne hg'.symm)
  · intro k hk hM
    have hkp : k ≠ p := fun e => hM (.inl e)
    rw [Below.heap_setCell _ _ _ _ hkp]
    exact hg.block k hk (fun e => hM (.inr ⟨_, hc, e.symm⟩))
  · rintro k (rfl | ⟨v, hv, hb⟩)
    · exact .inl (.inl rfl)
    · rw [hcell] at hv
      cases hv
      rcases hat k hb with h | h
      · exact .inl (.inr ⟨_, hc, h⟩)
      · exact .inr h

/-- how many are synced, stored -/
theorem isD_set3 {w : World} {base p size : Nat} {bs : List Int} {syn : Nat} (h : IsD w base p size bs syn) (m : Nat) : IsD (w.setCell ⟨p, 3, none⟩ (.int .i64 (m : Int))) base p size bs m ∧ SPost 2 w p (w.setCell ⟨p, 3, none⟩ (.int .i64 (m : Int))) := by
  obtain ⟨a, n, c, h0, h1, hc, h3, hf, ho, hp, hn⟩ := h
  have hcell : (w.setCell ⟨p, 3, none⟩ (.int .i64 (m : Int))).cell? ⟨p, 2, none⟩ = some (.slice a n c) := by rw [cell_set_off _ _ _ _ _ (by decide)]; exact hc
  refine ⟨⟨a, n, c, ?_, ?_, hcell, World.cell?_setCell_same _ _ _ h3, ?_, ?_, hp, hn⟩, ⟨rfl, rfl, rfl, by simp [World.setCell], ?_⟩, ?_⟩
  · rw [cell_set_off _ _ _ _ _ (by decide)]; exact h0
  · rw [cell_set_off _ _ _ _ _ (by decide)]; exact h1
  · intro i; simp [hf]
  · refine ho.lies ?_
    intro g hg'
    exact Below.heap_setCell _ _ _ _ (by intro e; subst e; exact hn hg'.symm)
  · intro k hk hM
    exact Below.heap_setCell _ _ _ _ (fun e => hM (.inl e))
  · rintro k (rfl | ⟨v, hv, hb⟩)
    · exact .inl (.inl rfl)
    · rw [hcell] at hv
      cases hv
      exact .inl (.inr ⟨_, hc, hb⟩)

theorem isD_new (w : World) (base g size : Nat) (hg : w.heap.size = g) (hb : base ≤ g) : IsD (w.alloc (.cells #[.bool true, .int .i64 (size : Int), .slice none 0 0, .int .i64 0] 56)) base g size [] 0 := by
  subst hg
  exact ⟨none, 0, 0, by simp, by simp, by simp, by simp, by simp, (ownB_nil _ _), hb, by intro h; cases h⟩

theorem kwrap_i64 (n : Int) (h1 : -9223372036854775808 ≤ n) (h2 : n ≤ 9223372036854775807) : IntKind.i64.wrap n = n := by
  simp [IntKind.wrap, IntKind.bits, IntKind.signed]
  split <;> omega

theorem OwnB.len {w : World} {base : Nat} {a : Option Addr} {n c : Nat} {bs : List Int} (h : OwnB w base (.slice a n c) bs) : bs.length = n := by
  obtain ⟨a', c', e, _⟩ := h.src
  cases e
  rfl

theorem OwnB.cap {w : World} {base : Nat} {a : Option Addr} {n c : Nat} {bs : List Int} (h : OwnB w base (.slice a n c) bs) : n ≤ c ∧ c ≤ maxLen := by
  rcases h.form with ⟨e, rfl⟩ | ⟨g, cap, e, hg1, hg2, hc, hm, hB⟩
  · cases e; exact ⟨Nat.le_refl _, Nat.zero_le _⟩
  · cases e; exact ⟨hc, hm⟩

theorem usable_any (p : Nat) (w : World) (h0 : w.cell? ⟨p, 0, none⟩ = some (.bool true)) :
    Calls Try.prog 34 #[.pointer (some ⟨p, 0, none⟩)] w fun e w' => e = .returned (.bool true) ∧ w' = w := by
  go_enter Try.func34, Try.ntmps34
  go_wp2
  go_ret
  exact ⟨rfl, rfl⟩

theorem usable_nil (w : World) :
    Calls Try.prog 34 #[.pointer none] w fun e w' => e = .returned (.bool false) ∧ w' = w := by
  go_enter Try.func34, Try.ntmps34
  go_wp2
  go_ret
  exact ⟨rfl, rfl⟩

theorem room_nil (w : World) :
    Calls Try.prog 28 #[.pointer none] w fun e w' => e = .returned (.int .i64 0) ∧ w' = w := by
  go_enter Try.func28, Try.ntmps28
  go_wp2_with (first
    | (go_at_call 34; refine (usable_nil _).mono ?_; rintro e w' ⟨rfl, hw⟩; have hw := hw.symm; subst hw))
  go_ret
  exact ⟨rfl, rfl⟩

theorem room_any (p : Nat) (size : Nat) (a : Option Addr) (n c : Nat) (w : World) (h0 : w.cell? ⟨p, 0, none⟩ = some (.bool true)) (h1 : w.cell? ⟨p, 1, none⟩ = some (.int .i64 (size : Int))) (h2 : w.cell? ⟨p, 2, none⟩ = some (.slice a n c)) (hsz : size ≤ 1000000000) (hn : n ≤ size) :
    Calls Try.prog 28 #[.pointer (some ⟨p, 0, none⟩)] w fun e w' => e = .returned (.int .i64 ((size : Int) - n)) ∧ w' = w.drew := by
  have hw1 : wrap64 ((size : Int) - n) = (size : Int) - n := by unfold wrap64; omega
  have hw2 := kwrap_i64 ((size : Int) - n) (by omega) (by omega)
  go_enter Try.func28, Try.ntmps28
  go_wp2_with (first
    | (go_at_call 34; refine (usable_any p _ h0).mono ?_; rintro e w' ⟨rfl, hw⟩; have hw := hw.symm; subst hw))
  go_region
  all_goals
    go_wp2
    go_ret
    exact ⟨rfl, rfl⟩

set_option maxHeartbeats 400000 in
theorem dnew_any (n : Int) (w : World) :
    Calls Try.prog 9 #[.int .i64 n] w fun e w' => e = .returned (.pointer (some ⟨w.heap.size, 0, none⟩)) ∧ IsD w' w.heap.size w.heap.size n.toNat [] 0 ∧ Below w.heap.size w w' := by
  by_cases h : n < 0
  · have h' : (0 : Int) > n := h
    have HD := hide (isD_new w w.heap.size _ n.toNat rfl (Nat.le_refl _))
    have h0 : ((n.toNat : Nat) : Int) = 0 := by omega
    rw [h0] at HD
    go_enter Try.func9, Try.ntmps9
    go_wp2
    go_ret
    exact ⟨rfl, HD.out, new_below _ _⟩
  · have h' : ¬ (0 : Int) > n := h
    have HD := hide (isD_new w w.heap.size _ n.toNat rfl (Nat.le_refl _))
    have h0 : ((n.toNat : Nat) : Int) = n := by omega
    rw [h0] at HD
    go_enter Try.func9, Try.ntmps9
    go_wp2
    go_ret
    exact ⟨rfl, HD.out, new_below _ _⟩

/-- what Append answers, and what is there then -/
def dapp (size : Nat) (bs xs : List Int) : Int × List Int := if size < bs.length + xs.length then (60, bs) else (0, bs ++ xs)

theorem OwnB.any3 {w : World} {base : Nat} {v : Value} {bs : List Int} (h : OwnB w base v bs) : ∃ a n c, v = .slice a n c := by
  obtain ⟨a, c, e, _⟩ := h.src
  exact ⟨a, _, c, e⟩

theorem IsD.drew {w : World} {base p size : Nat} {bs : List Int} {syn : Nat} (h : IsD w base p size bs syn) : IsD w.drew base p size bs syn := h

set_option maxHeartbeats 1000000 in
theorem dapp_any (base p size : Nat) (bs : List Int) (syn : Nat) (a : Option Addr) (len cap : Nat) (xs : List Int) (w : World) (h : IsD w base p size bs syn) (hs : SrcB w a len xs) (hsz : size ≤ 1000000000) (hbs : bs.length ≤ size) (hl : len ≤ 1000000000) (hbase : base ≤ w.heap.size) :
    Calls Try.prog 11 #[.pointer (some ⟨p, 0, none⟩), .slice a len cap] w fun e w' => e = .returned (.int .i64 (dapp size bs xs).1) ∧ IsD w' base p size (dapp size bs xs).2 syn ∧ SPost 2 w p w' := by
  have H := hide h
  have HS := hide hs
  have hxl := hs.1
  obtain ⟨fa, n, c, h0, h1, h2, h3, hf, ho, hp, hne⟩ := h
  have hn := ho.len
  have HO := hide ho
  have HN := hide hne
  have HF := hide hf
  have hf2 := hf 2
  clear ho hne hs hf
  by_cases hgt : size < bs.length + xs.length
  · have hd : dapp size bs xs = (60, bs) := by unfold dapp; rw [if_pos hgt]
    rw [hd]
    have hgt' : (size : Int) - (n : Int) < (len : Int) := by omega
    clear hd hgt
    have hns : n ≤ size := by omega
    clear hn hxl hbs
    go_enter Try.func11, Try.ntmps11
    go_wp2_with (first
      | (go_at_call 28; refine (room_any p size fa n c _ h0 h1 h2 hsz hns).mono ?_; rintro e w' ⟨rfl, hw⟩; have hw := hw.symm; subst hw))
    go_ret
    exact ⟨rfl, H.out.drew, SPost.of_below H.out.at (Below.refl _ _).drew⟩
  · have hd : dapp size bs xs = (0, bs ++ xs) := by unfold dapp; rw [if_neg hgt]
    rw [hd]
    have hgt' : ¬ (size : Int) - (n : Int) < (len : Int) := by omega
    have hns : n ≤ size := by omega
    have HB : Hid (bs.length + xs.length ≤ 1099511627776) := by show _ ≤ _; omega
    have HXL := hide hxl
    clear hd hgt hn hxl hbs
    by_cases hl0 : len = 0
    · subst hl0
      have hx : xs = [] := List.length_eq_zero_iff.1 HXL.out
      go_enter Try.func11, Try.ntmps11
      go_wp2_with (first
        | (go_at_call 28; refine (room_any p size fa n c _ h0 h1 h2 hsz hns).mono ?_; rintro e w' ⟨rfl, hw⟩; have hw := hw.symm; subst hw))
      go_ret
      subst hx
      rw [List.append_nil]
      exact ⟨rfl, H.out.drew, SPost.of_below H.out.at (Below.refl _ _).drew⟩
    · have hl1 : (0 : Int) < (len : Int) := by omega
      have hl2 : 0 < len := by omega
      go_enter Try.func11, Try.ntmps11
      go_wp2_with (first
        | (go_at_call 28; refine (room_any p size fa n c _ h0 h1 h2 hsz hns).mono ?_; rintro e w' ⟨rfl, hw⟩; have hw := hw.symm; subst hw)
        | (at_builtin; go_must (refine wp_joinB _ rfl (.tmp 17) (.tmp 18) rfl base _ bs rfl HO.out a len cap xs rfl HS.out HB.out hbase ?_); intro v3 w3 hown3 hg3 hat3; obtain ⟨a3, n3, c3, rfl⟩ := hown3.any3; have HP := hide (isD_set2 (w := w.drew) h0 h1 h2 h3 HF.out hp HN.out hown3 hg3 hat3.atW); have hc3 := hg3.cell (w := w.drew) h2 HN.out; have hf3 := (World.frozen?_of_block (a := ⟨p, 2, none⟩) (hg3.block p H.out.at HN.out)).trans hf2; clear hown3 hg3 hat3))
      go_ret
      exact ⟨rfl, HP.out.1, HP.out.2.drew⟩

set_option maxHeartbeats 400000 in
theorem dsync_any (base p size : Nat) (bs : List Int) (syn : Nat) (w : World) (h : IsD w base p size bs syn) (hbs : bs.length ≤ 1000000000) :
    Calls Try.prog 37 #[.pointer (some ⟨p, 0, none⟩)] w fun e w' => e = .returned (.int .i64 0) ∧ IsD w' base p size bs bs.length ∧ SPost 2 w p w' := by
  have HP := hide (isD_set3 h bs.length)
  obtain ⟨fa, n, c, h0, h1, h2, h3, hf, ho, hp, hne⟩ := h
  have hn := ho.len
  subst hn
  have hf3 := hf 3
  clear ho hne hf
  go_enter Try.func37, Try.ntmps37
  go_wp2_with (first
    | (go_at_call 34; refine (usable_any p _ h0).mono ?_; rintro e w' ⟨rfl, hw⟩; have hw := hw.symm; subst hw))
  go_ret
  exact ⟨rfl, HP.out.1, HP.out.2⟩

set_option maxHeartbeats 400000 in
theorem dsynced_any (base p size : Nat) (bs : List Int) (syn : Nat) (w : World) (h : IsD w base p size bs syn) :
    Calls Try.prog 25 #[.pointer (some ⟨p, 0, none⟩)] w fun e w' => e = .returned (.int .i64 (syn : Int)) ∧ w' = w := by
  obtain ⟨fa, n, c, h0, h1, h2, h3, hf, ho, hp, hne⟩ := h
  clear ho hne hf
  go_enter Try.func25, Try.ntmps25
  go_wp2_with (first
    | (go_at_call 34; refine (usable_any p _ h0).mono ?_; rintro e w' ⟨rfl, hw⟩; have hw := hw.symm; subst hw))
  go_ret
  exact ⟨rfl, rfl⟩

set_option maxHeartbeats 400000 in
theorem dbytes_any (base p size : Nat) (bs : List Int) (syn : Nat) (w : World) (h : IsD w base p size bs syn) (hbs : bs.length ≤ 1000000000) :
    Calls Try.prog 19 #[.pointer (some ⟨p, 0, none⟩)] w fun e w' => ∃ v, e = .returned v ∧ OwnB w' w.heap.size v bs ∧ Below w.heap.size w w' := by
  obtain ⟨fa, n, c, h0, h1, h2, h3, hf, ho, hp, hne⟩ := h
  obtain ⟨a', c', e, hs, hb⟩ := ho.src
  cases e
  have HS := hide hs
  clear ho hne hf hs hb
  go_enter Try.func19, Try.ntmps19
  go_wp2_with (first
    | (go_at_call 34; refine (usable_any p _ h0).mono ?_; rintro e w' ⟨rfl, hw⟩; have hw := hw.symm; subst hw)
    | (go_at_call 35; go_must (refine (clone_src fa bs.length c bs _ HS.out hbs).mono ?_); rintro e w2 ⟨v2, rfl, hown2, hb2⟩))
  go_ret
  exact ⟨v2, rfl, hown2, hb2⟩

/-- what Swap answers, and what is there then -/
def dswap (size : Nat) (bs : List Int) (syn : Nat) (xs : List Int) : Int × List Int × Nat := if size < xs.length then (60, bs, syn) else (0, xs, xs.length)

set_option maxHeartbeats 1000000 in
theorem dswap_any (base p size : Nat) (bs : List Int) (syn : Nat) (a : Option Addr) (len cap : Nat) (xs : List Int) (w : World) (h : IsD w base p size bs syn) (hs : SrcB w a len xs) (hl : len ≤ 1000000000) (hbase : base ≤ w.heap.size) :
    Calls Try.prog 39 #[.pointer (some ⟨p, 0, none⟩), .slice a len cap] w fun e w' => e = .returned (.int .i64 (dswap size bs syn xs).1) ∧ IsD w' base p size (dswap size bs syn xs).2.1 (dswap size bs syn xs).2.2 ∧ SPost 2 w p w' := by
  have H := hide h
  have HS := hide hs
  have hxl := hs.1
  obtain ⟨fa, n, c, h0, h1, h2, h3, hf, ho, hp, hne⟩ := h
  have HO := hide ho
  have HN := hide hne
  have HF := hide hf
  have hf2 := hf 2
  have hf3 := hf 3
  clear ho hne hs hf
  by_cases hgt : size < xs.length
  · have hd : dswap size bs syn xs = (60, bs, syn) := by unfold dswap; rw [if_pos hgt]
    rw [hd]
    have hgt' : (size : Int) < (len : Int) := by omega
    clear hd hgt hxl
    go_enter Try.func39, Try.ntmps39
    go_wp2_with (first
      | (go_at_call 34; refine (usable_any p _ h0).mono ?_; rintro e w' ⟨rfl, hw⟩; have hw := hw.symm; subst hw))
    go_ret
    exact ⟨rfl, H.out, SPost.refl _ _ _⟩
  · have hd : dswap size bs syn xs = (0, xs, xs.length) := by unfold dswap; rw [if_neg hgt]
    rw [hd]
    have hgt' : ¬ (size : Int) < (len : Int) := by omega
    have HXL := hide hxl
    clear hd hgt hxl
    go_enter Try.func39, Try.ntmps39
    go_wp2_with (first
      | (go_at_call 34; refine (usable_any p _ h0).mono ?_; rintro e w' ⟨rfl, hw⟩; have hw := hw.symm; subst hw)
      | (go_at_call 35; go_must (refine (clone_src a len cap xs _ HS.out hl).mono ?_); rintro e w3 ⟨v3, rfl, hown3, hb3⟩; obtain ⟨a3, n3, c3, rfl⟩ := hown3.any3; have hn3 := hown3.len.symm.trans HXL.out; subst hn3; have HP := hide (isD_set2 h0 h1 h2 h3 HF.out hp HN.out (hown3.mono hbase) (Below.grown hb3 _) hown3.atW); have HQ := hide (isD_set3 HP.out.1 n3); have hc2 := (hb3.cell (p := ⟨p, 2, none⟩) H.out.at).trans h2; have hc3 := (hb3.cell (p := ⟨p, 3, none⟩) H.out.at).trans h3; have hg2 := (hb3.frozen (p := ⟨p, 2, none⟩) H.out.at).trans hf2; have hg3 := (hb3.frozen (p := ⟨p, 3, none⟩) H.out.at).trans hf3; clear hown3 hb3))
    go_ret
    refine ⟨rfl, ?_, HP.out.2.trans HQ.out.2⟩
    rw [HXL.out]
    exact HQ.out.1

end Go.Proofs.Ytajpamkdcpbabaa
