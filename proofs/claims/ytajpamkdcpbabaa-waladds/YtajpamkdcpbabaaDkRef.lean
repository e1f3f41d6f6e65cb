/- The reference's disk: where it lies; NewDisk, Append, Sync, Swap, Cut, Crash. -/
import Derived.Test.YtajpamkdcpbabaaDk2
import Derived.BigRegion
namespace Go.Proofs.Ytajpamkdcpbabaa
open Go.RowKit NumMath
set_option linter.unusedVariables false

/-- the reference's disk at q: its size, its bytes (nobody writes into them), how many are synced -/
def IsX (w : World) (base q size : Nat) (bs : List Int) (syn : Nat) : Prop :=
  ∃ a n c, w.cell? ⟨q, 0, none⟩ = some (.slice a n c) ∧ w.cell? ⟨q, 1, none⟩ = some (.int .i64 (syn : Int)) ∧ w.cell? ⟨q, 2, none⟩ = some (.int .i64 (size : Int)) ∧ (∀ i, w.frozen? ⟨q, i, none⟩ = false) ∧ IsBytes w a n c bs ∧ base ≤ q ∧ ∀ x, a = some x → base ≤ x.block ∧ x.block < w.heap.size ∧ x.block ≠ q

theorem ownB_own (a : Option Addr) (n c k : Nat) : (Value.slice a n c).ownBlock = some k ↔ ∃ x, a = some x ∧ x.block = k := by
  cases a with
  | none => simp [Value.ownBlock]
  | some x => simp [Value.ownBlock]

theorem IsX.lt {w : World} {base q size : Nat} {bs : List Int} {syn : Nat} (h : IsX w base q size bs syn) {k : Nat} (hk : SB 0 w q k) : k < w.heap.size ∧ base ≤ k := by
  obtain ⟨a, n, c, hc, h1, h2, hf, hB, hq, ho⟩ := h
  rcases hk with rfl | ⟨v, hv, hb⟩
  · exact ⟨World.block_lt_of_cell? _ ⟨k, 0, none⟩ hc, hq⟩
  · rw [hc] at hv
    cases hv
    obtain ⟨x, rfl, rfl⟩ := (ownB_own _ _ _ _).1 hb
    exact ⟨(ho x rfl).2.1, (ho x rfl).1⟩

theorem IsX.at {w : World} {base q size : Nat} {bs : List Int} {syn : Nat} (h : IsX w base q size bs syn) : q < w.heap.size := (h.lt (k := q) SB.at).1

theorem IsX.lies {w w' : World} {base q size : Nat} {bs : List Int} {syn : Nat} (h : IsX w base q size bs syn) (hs : w.heap.size ≤ w'.heap.size) (hb : ∀ k, SB 0 w q k → w'.heap[k]? = w.heap[k]?) : IsX w' base q size bs syn := by
  obtain ⟨a, n, c, hc, h1, h2, hf, hB, hq, ho⟩ := h
  have e := hb q SB.at
  refine ⟨a, n, c, (World.cell?_of_block (a := ⟨q, 0, none⟩) e).trans hc, (World.cell?_of_block (a := ⟨q, 1, none⟩) e).trans h1, (World.cell?_of_block (a := ⟨q, 2, none⟩) e).trans h2, fun i => (World.frozen?_of_block (a := ⟨q, i, none⟩) e).trans (hf i), ⟨hB.1, hB.2.1, hB.2.2.1, hB.2.2.2.1, ?_⟩, hq, fun x hx => ⟨(ho x hx).1, Nat.lt_of_lt_of_le (ho x hx).2.1 hs, (ho x hx).2.2⟩⟩
  rcases hB.2.2.2.2 with h0 | ⟨g, off, rfl, hg, hB'⟩
  · exact .inl h0
  · have e' := hb g (.inr ⟨_, hc, rfl⟩)
    exact .inr ⟨g, off, rfl, Nat.lt_of_lt_of_le hg hs, fun i hi => (World.cell?_of_block (a := ⟨g, off + i, none⟩) e').trans (hB' i hi)⟩

theorem IsX.keep {w w' : World} {base q size : Nat} {bs : List Int} {syn : Nat} (h : IsX w base q size bs syn) (hb : Below w.heap.size w w') : IsX w' base q size bs syn :=
  h.lies hb.size (fun k hk => hb.block k (h.lt hk).1)

theorem IsX.off {w w' : World} {base q size : Nat} {bs : List Int} {syn i p : Nat} (h : IsX w base q size bs syn) (ho : Off2 i 0 w p q) (hp : SPost i w p w') : IsX w' base q size bs syn :=
  h.lies hp.size (fun k hk => hp.1.block k (h.lt hk).1 (fun hx => ho k hx hk))

theorem IsX.drew {w : World} {base q size : Nat} {bs : List Int} {syn : Nat} (h : IsX w base q size bs syn) : IsX w.drew base q size bs syn := h

theorem IsX.below {w w' : World} {base q size : Nat} {bs : List Int} {syn : Nat} (h : IsX w base q size bs syn) (hp : SPost 0 w q w') (hB : base ≤ w.heap.size) : Below base w w' := hp.below hB (fun k hk => (h.lt hk).2)

/-- bytes that lie elsewhere than in q, behind a store into q -/
theorem isB_set {w : World} {a : Option Addr} {n c : Nat} {bs : List Int} (h : IsBytes w a n c bs) (q i : Nat) (v : Value) (ho : ∀ x, a = some x → x.block ≠ q) : IsBytes (w.setCell ⟨q, i, none⟩ v) a n c bs := by
  refine ⟨h.1, h.2.1, h.2.2.1, h.2.2.2.1, ?_⟩
  rcases h.2.2.2.2 with h0 | ⟨g, off, rfl, hg, hB⟩
  · exact .inl h0
  · refine .inr ⟨g, off, rfl, by simpa [World.setCell] using hg, fun j hj => ?_⟩
    exact (World.cell?_of_block (a := ⟨g, off + j, none⟩) (Below.heap_setCell _ _ _ _ (ho _ rfl))).trans (hB j hj)

/-- new bytes, stored into the field: in a new block, or where the old ones lay -/
theorem isX_set0 {w w1 : World} {base q size : Nat} {a a' : Option Addr} {n c n' c' : Nat} {bs' : List Int} {syn : Nat} (hc : w.cell? ⟨q, 0, none⟩ = some (.slice a n c)) (h1 : w.cell? ⟨q, 1, none⟩ = some (.int .i64 (syn : Int))) (h2 : w.cell? ⟨q, 2, none⟩ = some (.int .i64 (size : Int))) (hf : ∀ i, w.frozen? ⟨q, i, none⟩ = false) (hq : base ≤ q) (hbase : base ≤ w.heap.size)
    (ho : ∀ x, a = some x → base ≤ x.block ∧ x.block < w.heap.size ∧ x.block ≠ q) (hb : Below w.heap.size w w1) (k1 : IsBytes w1 a' n' c' bs') (hat : ∀ x, a' = some x → (∃ y, a = some y ∧ x.block = y.block) ∨ (w.heap.size ≤ x.block ∧ x.block < w1.heap.size)) : IsX (w1.setCell ⟨q, 0, none⟩ (.slice a' n' c')) base q size bs' syn ∧ SPost 0 w q (w1.setCell ⟨q, 0, none⟩ (.slice a' n' c')) := by
  have hlt : q < w.heap.size := World.block_lt_of_cell? _ ⟨q, 0, none⟩ hc
  have e := hb.block q hlt
  have hc1 : w1.cell? ⟨q, 0, none⟩ = some (.slice a n c) := (World.cell?_of_block (a := ⟨q, 0, none⟩) e).trans hc
  have hcell : (w1.setCell ⟨q, 0, none⟩ (.slice a' n' c')).cell? ⟨q, 0, none⟩ = some (.slice a' n' c') := World.cell?_setCell_same _ _ _ hc1
  have hfar : ∀ x, a' = some x → base ≤ x.block ∧ x.block < w1.heap.size ∧ x.block ≠ q := by
    intro x hx
    rcases hat x hx with ⟨y, hy, e⟩ | ⟨h, h'⟩
    · have := ho y hy
      have := hb.size
      exact ⟨by omega, by omega, by omega⟩
    · exact ⟨by omega, h', by omega⟩
  refine ⟨⟨a', n', c', hcell, ?_, ?_, ?_, isB_set k1 q 0 _ (fun x hx => (hfar x hx).2.2), hq, fun x hx => ⟨(hfar x hx).1, by simpa [World.setCell] using (hfar x hx).2.1, (hfar x hx).2.2⟩⟩, ⟨hb.os, hb.tape, hb.output, Nat.le_trans hb.size (by simp [World.setCell]), ?_⟩, ?_⟩
  · rw [cell_set_off _ _ _ _ _ (by decide)]; exact (World.cell?_of_block (a := ⟨q, 1, none⟩) e).trans h1
  · rw [cell_set_off _ _ _ _ _ (by decide)]; exact (World.cell?_of_block (a := ⟨q, 2, none⟩) e).trans h2
  · intro i
    have := (World.frozen?_of_block (a := ⟨q, i, none⟩) e).trans (hf i)
    simp [this]
  · intro k hk hM
    rw [Below.heap_setCell _ _ _ _ (fun e => hM (.inl e))]
    exact hb.block k hk
  · rintro k (rfl | ⟨v, hv, hb'⟩)
    · exact .inl (.inl rfl)
    · rw [hcell] at hv
      cases hv
      obtain ⟨x, hx, rfl⟩ := (ownB_own _ _ _ _).1 hb'
      rcases hat x hx with ⟨y, hy, e⟩ | ⟨h, _⟩
      · exact .inl (.inr ⟨_, hc, (ownB_own _ _ _ _).2 ⟨y, hy, e.symm⟩⟩)
      · exact .inr h

theorem isX_set1 {w : World} {base q size : Nat} {bs : List Int} {syn : Nat} (h : IsX w base q size bs syn) (m : Nat) : IsX (w.setCell ⟨q, 1, none⟩ (.int .i64 (m : Int))) base q size bs m ∧ SPost 0 w q (w.setCell ⟨q, 1, none⟩ (.int .i64 (m : Int))) := by
  obtain ⟨a, n, c, hc, h1, h2, hf, hB, hq, ho⟩ := h
  have hcell : (w.setCell ⟨q, 1, none⟩ (.int .i64 (m : Int))).cell? ⟨q, 0, none⟩ = some (.slice a n c) := by rw [cell_set_off _ _ _ _ _ (by decide)]; exact hc
  refine ⟨⟨a, n, c, hcell, World.cell?_setCell_same _ _ _ h1, ?_, ?_, isB_set hB q 1 _ (fun x hx => (ho x hx).2.2), hq, fun x hx => ⟨(ho x hx).1, by simpa [World.setCell] using (ho x hx).2.1, (ho x hx).2.2⟩⟩, ⟨rfl, rfl, rfl, by simp [World.setCell], ?_⟩, ?_⟩
  · rw [cell_set_off _ _ _ _ _ (by decide)]; exact h2
  · intro i; simp [hf]
  · intro k hk hM
    exact Below.heap_setCell _ _ _ _ (fun e => hM (.inl e))
  · rintro k (rfl | ⟨v, hv, hb⟩)
    · exact .inl (.inl rfl)
    · rw [hcell] at hv
      cases hv
      exact .inl (.inr ⟨_, hc, hb⟩)

theorem isX_new (w : World) (base g size : Nat) (hg : w.heap.size = g) (hb : base ≤ g) : IsX (w.alloc (.cells #[.slice none 0 0, .int .i64 0, .int .i64 (size : Int)] 40)) base g size [] 0 := by
  subst hg
  exact ⟨none, 0, 0, by simp, by simp, by simp, by simp, isB_none _ _ _ (Nat.zero_le _), hb, by intro x h; cases h⟩

set_option maxHeartbeats 400000 in
theorem xnew_any (n : Int) (w : World) :
    Calls Try.prog 10 #[.int .i64 n] w fun e w' => e = .returned (.pointer (some ⟨w.heap.size, 0, none⟩)) ∧ IsX w' w.heap.size w.heap.size n.toNat [] 0 ∧ Below w.heap.size w w' := by
  by_cases h : n < 0
  · have HD := hide (isX_new w w.heap.size _ n.toNat rfl (Nat.le_refl _))
    have h0 : ((n.toNat : Nat) : Int) = 0 := by omega
    rw [h0] at HD
    go_enter Try.func10, Try.ntmps10
    go_wp2
    go_ret
    exact ⟨rfl, HD.out, new_below _ _⟩
  · have HD := hide (isX_new w w.heap.size _ n.toNat rfl (Nat.le_refl _))
    have h0 : ((n.toNat : Nat) : Int) = n := by omega
    rw [h0] at HD
    go_enter Try.func10, Try.ntmps10
    go_wp2
    go_ret
    exact ⟨rfl, HD.out, new_below _ _⟩

set_option maxHeartbeats 400000 in
theorem xsync_any (base q size : Nat) (bs : List Int) (syn : Nat) (w : World) (h : IsX w base q size bs syn) (hbs : bs.length ≤ 1000000000) :
    Calls Try.prog 38 #[.pointer (some ⟨q, 0, none⟩)] w fun e w' => e = .returned (.tuple #[]) ∧ IsX w' base q size bs bs.length ∧ SPost 0 w q w' := by
  have HP := hide (isX_set1 h bs.length)
  obtain ⟨a, n, c, hc, h1, h2, hf, hB, hq, ho⟩ := h
  have hn := hB.1
  subst hn
  have hf1 := hf 1
  clear hB ho hf
  go_enter Try.func38, Try.ntmps38
  go_wp2
  go_end0
  exact ⟨rfl, HP.out.1, HP.out.2⟩

theorem OwnB.isB {w : World} {base : Nat} {a : Option Addr} {n c : Nat} {bs : List Int} (h : OwnB w base (.slice a n c) bs) (hr : ∀ c ∈ bs, 0 ≤ c ∧ c < 256) : IsBytes w a n c bs ∧ ∀ x, a = some x → base ≤ x.block ∧ x.block < w.heap.size :=
  ⟨h.isAt hr, fun x hx => World.ownsRow.lt h x.block ((ownB_own _ _ _ _).2 ⟨x, hx, rfl⟩)⟩

set_option maxHeartbeats 1000000 in
theorem xapp_any (base q size : Nat) (bs : List Int) (syn : Nat) (a : Option Addr) (len cap : Nat) (xs : List Int) (w : World) (h : IsX w base q size bs syn) (hs : SrcB w a len xs) (hr : ∀ c ∈ xs, 0 ≤ c ∧ c < 256) (hsz : size ≤ 1000000000) (hbs : bs.length ≤ size) (hl : len ≤ 1000000000) (hbase : base ≤ w.heap.size) :
    Calls Try.prog 12 #[.pointer (some ⟨q, 0, none⟩), .slice a len cap] w fun e w' => e = .returned (.int .i64 (dapp size bs xs).1) ∧ IsX w' base q size (dapp size bs xs).2 syn ∧ SPost 0 w q w' := by
  have H := hide h
  have HS := hide hs
  have hxl := hs.1
  obtain ⟨fa, n, c, hc, h1, h2, hf, hB, hq, ho⟩ := h
  have hn := hB.1
  have HB := hide hB
  have HO := hide ho
  have HF := hide hf
  have hf0 := hf 0
  have HR : Hid (∀ c ∈ bs ++ xs, 0 ≤ c ∧ c < 256) := fun c hc => (List.mem_append.1 hc).elim (hB.2.2.2.1 c) (hr c)
  have hk := kwrap_i64 ((size : Int) - n) (by omega) (by omega)
  clear hB ho hs hf hr
  by_cases hgt : size < bs.length + xs.length
  · have hd : dapp size bs xs = (60, bs) := by unfold dapp; rw [if_pos hgt]
    rw [hd]
    have hgt' : (size : Int) - (n : Int) < (len : Int) := by omega
    clear hd hgt hn hxl hbs
    go_enter Try.func12, Try.ntmps12
    go_wp2
    go_region
    all_goals
      go_wp2
      go_ret
      exact ⟨rfl, H.out.drew, SPost.of_below H.out.at (Below.refl _ _).drew⟩
  · have hd : dapp size bs xs = (0, bs ++ xs) := by unfold dapp; rw [if_neg hgt]
    rw [hd]
    have hgt' : ¬ (size : Int) - (n : Int) < (len : Int) := by omega
    have HL1 : Hid (([] : List Int).length + bs.length ≤ 1099511627776) := by show _ ≤ _; rw [List.length_nil]; omega
    have HL2 : Hid (([] ++ bs).length + xs.length ≤ 1099511627776) := by show _ ≤ _; rw [List.nil_append]; omega
    clear hd hgt hn hxl hbs
    go_enter Try.func12, Try.ntmps12
    go_wp2
    go_region
    all_goals
      go_wp2_with (first
        | (at_builtin; refine wp_joinB _ rfl (.tmp 23) (.tmp 24) rfl w.heap.size _ ([] ++ bs) rfl HO3.out a len cap xs rfl (HS.out.keep hb3) HL2.out hb3.size ?_; intro v4 w4 hown4 hg4 hat4; obtain ⟨a4, n4, c4, rfl⟩ := hown4.any3; have hb4 := hb3.trans (HO3.out.grown hg4 hb3.size); rw [List.nil_append] at hown4; obtain ⟨hi4, hx4⟩ := hown4.isB HR.out; have HP := hide (isX_set0 hc h1 h2 HF.out hq hbase HO.out hb4 hi4 (fun x hx => .inr (hx4 x hx))); have hc4 := (hb4.cell (p := ⟨q, 0, none⟩) H.out.at).trans hc; have hf4 := (hb4.frozen (p := ⟨q, 0, none⟩) H.out.at).trans hf0; clear hown4 hg4 hat4 hi4 hx4)
        | (at_builtin; go_must (refine wp_joinB _ rfl (.const (.slice none 0 0)) (.tmp 22) rfl w.heap.size _ [] rfl (ownB_nil _ _) fa n c bs rfl HB.out.src HL1.out (Nat.le_refl _) ?_); intro v3 w3 hown3 hg3 hat3; have HO3 := hide hown3; have hb3 : Below w.heap.size w w3 := below_undrew (OwnB.grown (ownB_nil w.drew w.heap.size) hg3 (Nat.le_refl _)); clear hown3 hg3 hat3))
      go_ret
      exact ⟨rfl, HP.out.1, HP.out.2⟩

set_option maxHeartbeats 1000000 in
theorem xswap_any (base q size : Nat) (bs : List Int) (syn : Nat) (a : Option Addr) (len cap : Nat) (xs : List Int) (w : World) (h : IsX w base q size bs syn) (hs : SrcB w a len xs) (hr : ∀ c ∈ xs, 0 ≤ c ∧ c < 256) (hl : len ≤ 1000000000) (hbase : base ≤ w.heap.size) :
    Calls Try.prog 40 #[.pointer (some ⟨q, 0, none⟩), .slice a len cap] w fun e w' => e = .returned (.int .i64 (dswap size bs syn xs).1) ∧ IsX w' base q size (dswap size bs syn xs).2.1 (dswap size bs syn xs).2.2 ∧ SPost 0 w q w' := by
  have H := hide h
  have HS := hide hs
  have hxl := hs.1
  obtain ⟨fa, n, c, hc, h1, h2, hf, hB, hq, ho⟩ := h
  have HO := hide ho
  have HF := hide hf
  have HR := hide hr
  have hf0 := hf 0
  clear hB ho hs hf hr
  by_cases hgt : size < xs.length
  · have hd : dswap size bs syn xs = (60, bs, syn) := by unfold dswap; rw [if_pos hgt]
    rw [hd]
    have hgt' : (size : Int) < (len : Int) := by omega
    clear hd hgt hxl
    go_enter Try.func40, Try.ntmps40
    go_wp2
    go_ret
    exact ⟨rfl, H.out, SPost.refl _ _ _⟩
  · have hd : dswap size bs syn xs = (0, xs, xs.length) := by unfold dswap; rw [if_neg hgt]
    rw [hd]
    have hgt' : ¬ (size : Int) < (len : Int) := by omega
    have HL1 : Hid (([] : List Int).length + xs.length ≤ 1099511627776) := by show _ ≤ _; rw [List.length_nil]; omega
    have HXL : Hid (xs.length ≤ 1000000000) := by show _ ≤ _; omega
    clear hd hgt hxl
    go_enter Try.func40, Try.ntmps40
    go_wp2_with (first
      | (go_at_call 38; refine (xsync_any base q size xs syn _ HP.out.1 HXL.out).mono ?_; rintro e w5 ⟨rfl, hd5, hp5⟩; have HQ := hide hd5; have HQ2 := hide (HP.out.2.trans hp5); clear hd5 hp5)
      | (at_builtin; go_must (refine wp_joinB _ rfl (.const (.slice none 0 0)) (.tmp 13) rfl w.heap.size _ [] rfl (ownB_nil _ _) a len cap xs rfl HS.out HL1.out (Nat.le_refl _) ?_); intro v4 w4 hown4 hg4 hat4; obtain ⟨a4, n4, c4, rfl⟩ := hown4.any3; have hb4 : Below w.heap.size w w4 := OwnB.grown (ownB_nil w w.heap.size) hg4 (Nat.le_refl _); rw [List.nil_append] at hown4; obtain ⟨hi4, hx4⟩ := hown4.isB HR.out; have HP := hide (isX_set0 hc h1 h2 HF.out hq hbase HO.out hb4 hi4 (fun x hx => .inr (hx4 x hx))); have hc4 := (hb4.cell (p := ⟨q, 0, none⟩) H.out.at).trans hc; have hf4 := (hb4.frozen (p := ⟨q, 0, none⟩) H.out.at).trans hf0; clear hown4 hg4 hat4 hi4 hx4))
    go_ret
    exact ⟨rfl, HQ.out, HQ2.out⟩

/-- x[:k:k], where it lies -/
theorem run_cutToM (a : Option Addr) (len cap : Nat) (hlc : len ≤ cap) (k : Nat) (h1 : k ≤ len) (kh km : IntKind) (W : World) :
    (Instr.sliceAt 22 (.slice a len cap) none (some (.int kh (k : Int))) (some (.int km (k : Int)))).run Try.prog W = .ok (.slice a k k) W := by
  rw [run_sliceAt_slice W 22 _ _ _ _ Try.underlying22, run_slice_hm W 22 a len cap Try.underlying22 _ _ _ _ (by omega) (by omega) (by omega), size_u8]
  simp only [Result.andThen_ok, sliced, Int.toNat_natCast]
  simp [add_zero_addr]

theorem isB_headO {w : World} {a : Option Addr} {len cap : Nat} {xs : List Int} (h : IsBytes w a len cap xs) (m c : Nat) (h1 : m ≤ len) (h2 : m ≤ c) (h3 : c ≤ maxLen) : IsBytes w a m c (xs.take m) := by
  refine ⟨by rw [List.length_take, h.1]; omega, h2, h3, fun x hx => h.2.2.2.1 x (List.mem_of_mem_take hx), ?_⟩
  rcases h.2.2.2.2 with h0 | ⟨g, off, rfl, hg, hB⟩
  · exact .inl (by omega)
  · exact .inr ⟨g, off, rfl, hg, bytesAt_take hB m⟩

set_option maxHeartbeats 1000000 in
theorem xcut_any (base q size : Nat) (bs : List Int) (syn : Nat) (n : Int) (w : World) (h : IsX w base q size bs syn) (hbs : bs.length ≤ 1000000000) (hbase : base ≤ w.heap.size) :
    Calls Try.prog 30 #[.pointer (some ⟨q, 0, none⟩), .int .i64 n] w fun e w' => e = .returned (.int .i64 (dcut bs syn n).1) ∧ IsX w' base q size (dcut bs syn n).2.1 (dcut bs syn n).2.2 ∧ SPost 0 w q w' := by
  have H := hide h
  obtain ⟨fa, m, c, hc, h1, h2, hf, hB, hq, ho⟩ := h
  have hn := hB.1
  have hB1 := hB.2.1
  have hB2 := hB.2.2.1
  have HB := hide hB
  have HO := hide ho
  have HF := hide hf
  have hf0 := hf 0
  subst hn
  clear hB ho hf
  by_cases hlt : n < 0
  · have hd : dcut bs syn n = (1, bs, syn) := if_pos (.inl hlt)
    rw [hd]
    clear hB1 hB2
    go_enter Try.func30, Try.ntmps30
    go_wp2
    go_ret
    exact ⟨rfl, H.out, SPost.refl _ _ _⟩
  · by_cases hgt : (bs.length : Int) < n
    · have hd : dcut bs syn n = (1, bs, syn) := if_pos (.inr hgt)
      rw [hd]
      clear hB1 hB2
      go_enter Try.func30, Try.ntmps30
      go_wp2
      go_ret
      exact ⟨rfl, H.out, SPost.refl _ _ _⟩
    · have hd : dcut bs syn n = (0, bs.take n.toNat, n.toNat) := if_neg (by omega)
      rw [hd]
      obtain ⟨m, rfl⟩ := Int.eq_ofNat_of_zero_le (show 0 ≤ n by omega)
      rw [Int.toNat_natCast]
      have hm : m ≤ bs.length := by omega
      have hcut := run_cutToM fa bs.length c hB1 m hm .i64 .i64
      have HP := hide (isX_set0 hc h1 h2 HF.out hq hbase HO.out (Below.refl _ _) (isB_headO HB.out m m hm (Nat.le_refl _) (by omega)) (fun x hx => .inl ⟨x, hx, rfl⟩))
      have HTl : Hid ((bs.take m).length = m) := by show _ = _; rw [List.length_take]; omega
      clear hB1 hB2
      go_enter Try.func30, Try.ntmps30
      go_wp2_with (first
        | (go_at_call 38; go_must (refine (xsync_any base q size (bs.take m) syn _ HP.out.1 (by rw [HTl.out]; omega)).mono ?_); rw [HTl.out]; rintro e w5 ⟨rfl, hd5, hp5⟩; have HQ := hide hd5; have HQ2 := hide (HP.out.2.trans hp5); clear hd5 hp5))
      go_ret
      exact ⟨rfl, HQ.out, HQ2.out⟩

end Go.Proofs.Ytajpamkdcpbabaa
