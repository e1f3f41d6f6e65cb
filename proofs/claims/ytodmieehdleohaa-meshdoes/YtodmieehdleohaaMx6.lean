/- The reference's mesh: Next. -/
import Derived.Test.YtodmieehdleohaaMx1
import Derived.Test.YtodmieehdleohaaTk
import Derived.Test.YtodmieehdleohaaMx4
namespace Go.Proofs.Ytodmieehdleohaa
open Go.RowKit NumMath Go.ChangeShapes Go.WideShapes Go.Deep
set_option linter.unusedVariables false
set_option maxRecDepth 100000

theorem info15 : (Try.prog.info? 72).map (·.size) = some 15 := by kernel_rfl

theorem flyV_one (x : MMsg × Int) : ∀ u ∈ flyV x, u.oneCell' = true := by
  intro u hu
  rcases List.mem_append.1 hu with h | h
  · exact vals_one _ _ h
  · simp at h; subst h; rfl

theorem wp_load15 {ops : Array Oper} {rest : List Oper} {o : Oper} {a : Act} {Q : Exit → Act → World → Prop} (w : World) (hgd : o.guard = none) (x : Operand) (ho : o.op = .load 72 x) (g f : Nat) (y : MMsg × Int) (hx : a.eval x = .pointer (some ⟨g, f, none⟩)) (hc : w.rangeAt g f (flyV y)) (vs : Array Value) (hv : vs = (flyV y).toArray)
    (h : wpList Try.prog ops Q rest (a.put o.dst (.agg vs)) w) : wpList Try.prog ops Q (o :: rest) a w := by
  refine wpList_plain hgd fun K hK => ?_
  have hr := run_loadAt_mid (P := Try.prog) w g f 72 (flyV y) _ hc Try.underlying72 rfl (by rw [flyV_len]; exact info15)
  rw [← hv] at hr
  unfold Oper.wp execOp
  simp only [ho, hx, Sem.run_bind, hr, Sem.run_pure, Result.andThen_ok]
  exact hK _ _ h

theorem wp_store15 {ops : Array Oper} {rest : List Oper} {o : Oper} {a : Act} {Q : Exit → Act → World → Prop} (w : World) (hgd : o.guard = none) (x y : Operand) (ho : o.op = .store 72 x y) (g : Nat) (hg : w.heap.size = g) (z : MMsg × Int) (vs : Array Value) (hv : vs = (flyV z).toArray) (hx : a.eval x = .pointer (some ⟨g, 0, none⟩)) (hy : a.eval y = .agg vs)
    (h : wpList Try.prog ops Q rest (a.put o.dst undef) (w.alloc (.cells vs 72))) : wpList Try.prog ops Q (o :: rest) a (w.alloc (.cells #[.int .i64 0, .int .u64 0, .int .u64 0, .int .u64 0, .int .u64 0, .int .u64 0, .int .u64 0, .int .u64 0, .bool false, .slice none 0 0, .int .u64 0, .int .u64 0, .slice none 0 0, .slice none 0 0, .int .i64 0] 72)) := by
  subst hg
  refine wpList_plain hgd fun K hK => ?_
  have hr := run_storeAt_new (P := Try.prog) w 72 #[.int .i64 0, .int .u64 0, .int .u64 0, .int .u64 0, .int .u64 0, .int .u64 0, .int .u64 0, .int .u64 0, .bool false, .slice none 0 0, .int .u64 0, .int .u64 0, .slice none 0 0, .slice none 0 0, .int .i64 0] vs (by rw [hv, List.size_toArray, flyV_len]; exact info15) (by rw [hv]; show 15 = (flyV z).length; rw [flyV_len]) (by rw [hv]; exact all_oneCell_toArray (flyV_one z))
  unfold Oper.wp execOp
  simp only [ho, hx, hy, Sem.run_bind, hr, Sem.run_pure, Result.andThen_ok]
  exact hK _ _ h

def fly0 : MMsg × Int := (msg0, 0)

theorem segW_at {w : World} {g off : Nat} {L : List (MMsg × Int)} (h : ∀ j u, (cellsW L)[j]? = some u → w.cell? ⟨g, off + j, none⟩ = some u) (k : Nat) (hk : k < L.length) : w.rangeAt g (off + k * 15) (flyV (L.getD k fly0)) := by
  intro j v hj
  have hj1 : j < 15 := by have := (List.getElem?_eq_some_iff.1 hj).1; rwa [flyV_len] at this
  have := h (k * 15 + j) v (by have := flat_nth flyV_len fly0 L k j hk hj1; unfold cellsW; rw [this]; exact hj)
  rw [Nat.add_assoc]
  exact this

theorem range_msg {w : World} {g o : Nat} {y : MMsg × Int} (h : w.rangeAt g o (flyV y)) : CellG w g o y.1 ∧ w.cell? ⟨g, o + 14, none⟩ = some (.int .i64 y.2) := by
  refine ⟨fun j u hj => h j u ?_, h 14 _ ?_⟩
  · unfold flyV
    rw [List.getElem?_append_left (List.getElem?_eq_some_iff.1 hj).1]
    exact hj
  · unfold flyV
    rw [List.getElem?_append_right (by rw [vals_len]; exact Nat.le_refl _), vals_len]
    rfl

/-- what was found among the first i -/
def Best (L : List (MMsg × Int)) (now : Int) (i : Nat) (v : Int) : Prop :=
  (v = -1 ∧ ∀ j, j < i → now < (L.getD j fly0).2) ∨ ∃ k : Nat, v = k ∧ k < i ∧ (L.getD k fly0).2 ≤ now ∧ (∀ j, j < i → (L.getD j fly0).2 ≤ now → (L.getD k fly0).2 ≤ (L.getD j fly0).2) ∧ ∀ j, j < k → (L.getD j fly0).2 ≤ now → (L.getD k fly0).2 < (L.getD j fly0).2

theorem best_skip {L : List (MMsg × Int)} {now : Int} {i : Nat} {v : Int} (h : Best L now i v) (hs : now < (L.getD i fly0).2 ∨ ∃ k : Nat, v = k ∧ (L.getD k fly0).2 ≤ (L.getD i fly0).2) : Best L now (i + 1) v := by
  rcases h with ⟨h1, h2⟩ | ⟨k, h1, h2, h3, h4, h5⟩
  · rcases hs with hs | ⟨k, hk, _⟩
    · exact .inl ⟨h1, fun j hj => by rcases Nat.lt_succ_iff_lt_or_eq.1 hj with h | h; exact h2 j h; (rw [h]; exact hs)⟩
    · omega
  · refine .inr ⟨k, h1, by omega, h3, fun j hj hle => ?_, h5⟩
    rcases Nat.lt_succ_iff_lt_or_eq.1 hj with h | h
    · exact h4 j h hle
    · subst h
      rcases hs with hs | ⟨k', hk, hs⟩
      · omega
      · have : k' = k := by omega
        subst this
        exact hs

theorem best_take {L : List (MMsg × Int)} {now : Int} {i : Nat} {v : Int} (h : Best L now i v) (hn : (L.getD i fly0).2 ≤ now) (hs : v < 0 ∨ ∃ k : Nat, v = k ∧ (L.getD i fly0).2 < (L.getD k fly0).2) : Best L now (i + 1) (i : Int) := by
  refine .inr ⟨i, rfl, Nat.lt_succ_self _, hn, fun j hj hle => ?_, fun j hj hle => ?_⟩
  · rcases h with ⟨h1, h2⟩ | ⟨k, h1, h2, h3, h4, h5⟩
    · rcases Nat.lt_succ_iff_lt_or_eq.1 hj with h | h
      · have := h2 j h; omega
      · rw [h]; exact Int.le_refl _
    · rcases hs with hs | ⟨k', hk, hs⟩
      · omega
      · have : k' = k := by omega
        subst this
        rcases Nat.lt_succ_iff_lt_or_eq.1 hj with h | h
        · have := h4 j h hle; omega
        · rw [h]; exact Int.le_refl _
  · rcases h with ⟨h1, h2⟩ | ⟨k, h1, h2, h3, h4, h5⟩
    · have := h2 j hj; omega
    · rcases hs with hs | ⟨k', hk, hs⟩
      · omega
      · have : k' = k := by omega
        subst this
        have := h4 j hj hle; omega

theorem Best.lt {L : List (MMsg × Int)} {now : Int} {i : Nat} {v : Int} (h : Best L now i v) : v = -1 ∨ ∃ k : Nat, v = k ∧ k < i := by
  rcases h with ⟨h1, _⟩ | ⟨k, h1, h2, _⟩
  · exact .inl h1
  · exact .inr ⟨k, h1, h2⟩

/-- what Next answers, and leaves -/
def NextX (w : World) (base q : Nat) (fa : Option Addr) (fl fc s now : Nat) (kv wv : Value) (K : List (Int × Int)) (L : List (MMsg × Int)) (e : Ending) (w' : World) : Prop :=
  (Best L now L.length (-1) ∧ e = .returned (.tuple #[.agg #[.int .i64 msg0.k, .int .u64 msg0.fr, .int .u64 msg0.tt, .int .u64 msg0.tm, .int .u64 msg0.ix, .int .u64 msg0.lt, .int .u64 msg0.cm, .int .u64 msg0.hn, .bool msg0.rj, .slice msg0.ea msg0.en msg0.ec, .int .u64 msg0.si, .int .u64 msg0.st, .slice msg0.ma msg0.mn msg0.mc, .slice msg0.sa msg0.sn msg0.sc], .bool false]) ∧ XPost w base q fa fl fc s now kv wv K L w') ∨ ∃ k : Nat, k < L.length ∧ Best L now L.length (k : Int) ∧ e = .returned (.tuple #[.agg #[.int .i64 (L.getD k fly0).1.k, .int .u64 (L.getD k fly0).1.fr, .int .u64 (L.getD k fly0).1.tt, .int .u64 (L.getD k fly0).1.tm, .int .u64 (L.getD k fly0).1.ix, .int .u64 (L.getD k fly0).1.lt, .int .u64 (L.getD k fly0).1.cm, .int .u64 (L.getD k fly0).1.hn, .bool (L.getD k fly0).1.rj, .slice (L.getD k fly0).1.ea (L.getD k fly0).1.en (L.getD k fly0).1.ec, .int .u64 (L.getD k fly0).1.si, .int .u64 (L.getD k fly0).1.st, .slice (L.getD k fly0).1.ma (L.getD k fly0).1.mn (L.getD k fly0).1.mc, .slice (L.getD k fly0).1.sa (L.getD k fly0).1.sn (L.getD k fly0).1.sc], .bool true]) ∧ XPost w base q fa fl fc s now kv wv K (L.eraseIdx k) w'

theorem erase_take (L : List (MMsg × Int)) (k : Nat) : L.eraseIdx k = L.take k ++ L.drop (k + 1) := List.eraseIdx_eq_take_drop_succ L k

/-- append onto a list that has no room behind it -/
theorem step_segFull {ops : Array Oper} {o : Oper} {a : Act} {K : Act → World → Prop} {Q : Exit → Act → World → Prop} {E : Prop} (w : World) (hgd : Region.wanted o (yielded ops a.tmps) = true) (s x : Operand)
    (ho : o.op = .call { callee := .builtin .append, args := #[s, x], argTypes := #[29, 29] }) (ga off n : Nat) (l : List (MMsg × Int)) (hs : a.eval s = .slice (some ⟨ga, off, none⟩) n n) (h : Seg w 15 (.slice (some ⟨ga, off, none⟩) n n) n (cellsW l)) (hn : l.length = n) (sa : Option Addr) (m c : Nat) (l2 : List (MMsg × Int)) (hx : a.eval x = .slice sa m c) (hl : l2.length = m)
    (hys : m = 0 ∨ ∃ ad, sa = some ad ∧ ∀ j u, (cellsW l2)[j]? = some u → w.cell? (ad.add j) = some u) (hbig : l.length + l2.length ≤ 1000000)
    (hK : ∀ v' w', Seg w' 15 v' (l ++ l2).length (cellsW (l ++ l2)) → Keeps (fun k => k = ga) w w' → AtB w (.slice (some ⟨ga, off, none⟩) n n) v' → K (a.put o.dst v') w') :
    if Region.wanted o (yielded ops a.tmps) = true then Oper.wp Try.prog o a w K Q else E :=
  step_segW w hgd s x ho (.slice (some ⟨ga, off, none⟩) n n) n l hs h hn sa m c l2 hx hl hys hbig (fun v' w' h1 h2 h3 => hK v' w' h1 ⟨h2.os, h2.tape, h2.output, h2.size, fun k hk hne => h2.block k hk (fun e => hne (by cases e; rfl))⟩ h3)

theorem size_fly (W : World) : (sizeOf (Try.prog.elem 29)).run Try.prog W = .ok 15 W := by
  obtain ⟨i0, hi, _, hz1, _⟩ := info_parts infoFly
  have he : Try.prog.elem 29 = 72 := by kernel_rfl
  rw [he]
  simp [sizeOf, typeInfo, hi, hz1]

theorem keepsOwn {W w : World} {g off n c : Nat} (h : Keeps (fun k => k = g) W w) : Keeps (fun j => (Value.slice (some ⟨g, off, none⟩) n c).ownBlock = some j) W w :=
  ⟨h.os, h.tape, h.output, h.size, fun j hj hn => h.block j hj (fun e => hn (by rw [e]; rfl))⟩

/-- x[:k:k] and x[k+1:] -/
theorem cut_two {w : World} {g off n c : Nat} {L : List (MMsg × Int)} (h : Seg w 15 (.slice (some ⟨g, off, none⟩) n c) n (cellsW L)) (hn : L.length = n) (k : Nat) (hk : k < n) :
    (∀ W, (Instr.sliceAt 29 (.slice (some ⟨g, off, none⟩) n c) none (some (.int .i64 (k : Int))) (some (.int .i64 (k : Int)))).run Try.prog W = .ok (.slice (some ⟨g, off, none⟩) k k) W) ∧ Seg w 15 (.slice (some ⟨g, off, none⟩) k k) k (cellsW (L.take k)) ∧
    ∃ b m d, (∀ W, (Instr.sliceAt 29 (.slice (some ⟨g, off, none⟩) n c) (some (.int .i64 ((k : Int) + 1))) none none).run Try.prog W = .ok (.slice b m d) W) ∧ (L.drop (k + 1)).length = m ∧ (m = 0 ∨ ∃ ad, b = some ad ∧ ∀ j u, (cellsW (L.drop (k + 1)))[j]? = some u → w.cell? (ad.add j) = some u) := by
  have hl := h.1
  rcases h.2 with ⟨e, _⟩ | ⟨g', off', cap, e, hg, hnc, hcm, hc, hr⟩
  · cases e
  · cases e
    have hsplit : cellsW L = cellsW (L.take k) ++ cellsW (L.drop k) := by unfold cellsW; rw [← List.flatMap_append, List.take_append_drop]
    have hsplit2 : cellsW L = cellsW (L.take (k + 1)) ++ cellsW (L.drop (k + 1)) := by unfold cellsW; rw [← List.flatMap_append, List.take_append_drop]
    have hl1 : (cellsW (L.take k)).length = k * 15 := by rw [cellsW_len, List.length_take]; congr 1; omega
    have hl2 : (cellsW (L.take (k + 1))).length = (k + 1) * 15 := by rw [cellsW_len, List.length_take]; congr 1; omega
    refine ⟨fun W => ?_, ⟨hl1, .inr ⟨g, off, k, rfl, hg, Nat.le_refl _, by omega, fun j u hj => hc j u ?_, fun j hj => hr j (Nat.lt_of_lt_of_le hj (Nat.mul_le_mul_right _ (by omega)))⟩⟩, ?_⟩
    · rw [run_sliceAt_slice W 29 _ _ _ _ Try.underlying29, run_slice_hm W 29 _ _ _ Try.underlying29 _ _ _ _ (by omega) (by omega) (by omega), size_fly]
      simp only [Result.andThen_ok, sliced, Int.toNat_natCast]
      simp [Addr.add]
    · rw [hsplit, List.getElem?_append_left (List.getElem?_eq_some_iff.1 hj).1]; exact hj
    · refine ⟨if c = k + 1 then some ⟨g, off, none⟩ else some ⟨g, off + (k + 1) * 15, none⟩, n - (k + 1), c - (k + 1), fun W => ?_, by rw [List.length_drop, hn], ?_⟩
      · rw [run_sliceAt_slice W 29 _ _ _ _ Try.underlying29, run_slice_l W 29 _ _ _ Try.underlying29 _ _ (by omega) (by omega), size_fly]
        simp only [Result.andThen_ok, sliced]
        have e1 : ((k : Int) + 1).toNat = k + 1 := by omega
        rw [e1]
        congr 2
      · by_cases h0 : n - (k + 1) = 0
        · exact .inl h0
        · right
          rw [if_neg (by omega)]
          refine ⟨_, rfl, fun j u hj => ?_⟩
          rw [add_plain, Nat.add_assoc]
          refine hc _ u ?_
          rw [hsplit2, List.getElem?_append_right (by omega), hl2]
          have e2 : (k + 1) * 15 + j - (k + 1) * 15 = j := by omega
          rw [e2]
          exact hj

set_option maxHeartbeats 8000000 in
theorem xnext_any (base q : Nat) (fa : Option Addr) (fl fc s now : Nat) (kv wv : Value) (K : List (Int × Int)) (L : List (MMsg × Int)) (w : World) (h : IsX w base q fa fl fc s now kv wv K L) (hbase : base ≤ w.heap.size) (hL : L.length ≤ 100000) :
    Calls Try.prog 12 #[.pointer (some ⟨q, 0, none⟩)] w fun e w' => NextX w base q fa fl fc s now kv wv K L e w' := by
  have H := hide h
  have c4 := h.c4
  have c2 := h.c2
  have hql := h.qb.2
  have hne : ¬ w.heap.size = q := by omega
  have hne2 : ¬ q = w.heap.size := by omega
  have HS := hide h.ws
  obtain ⟨a4, d4, e4, hd, hdm⟩ := h.ws.form
  obtain ⟨n, hn⟩ : ∃ n, L.length = n := ⟨_, rfl⟩
  rw [hn] at e4 hd
  subst e4
  have HN := hide hn
  have hmx : (n : Int) ≤ 9223372036854775807 := by omega
  obtain ⟨W1, hW1⟩ : ∃ W1, W1 = w.alloc (.cells #[.int .i64 0, .int .u64 0, .int .u64 0, .int .u64 0, .int .u64 0, .int .u64 0, .int .u64 0, .int .u64 0, .bool false, .slice none 0 0, .int .u64 0, .int .u64 0, .slice none 0 0, .slice none 0 0] 39) := ⟨_, rfl⟩
  have hbw : Below w.heap.size w W1 := by rw [hW1]; exact new_below _ _
  have HB1 := hide hbw
  have HR1 : Hid (BoxG W1 w.heap.size msg0) := by show BoxG W1 _ _; rw [hW1]; exact boxG_new w msg0 w.heap.size 39 rfl
  have HX1 := hide (H.out.keep hbw)
  have hs1 : W1.heap.size = w.heap.size + 1 := by rw [hW1]; simp
  have c41 := HX1.out.c4
  have c21 := HX1.out.c2
  have hq1 : q < W1.heap.size := by omega
  clear h hd hdm hn hbw
  go_enter Try.func12, Try.ntmps12
  go_wp2
  rw [← hW1]
  go_loopw [4, 13] (fun kk i wr => ∃ (k : Nat) (v : Int), k ≤ n ∧ i = .int .i64 k ∧ kk = .int .i64 v ∧ Best L now k v ∧ Below W1.heap.size W1 wr) (fun _ i _ => n - (intOf i).toNat)
  case atStart => exact ⟨0, -1, Nat.zero_le _, rfl, rfl, .inl ⟨rfl, fun j hj => by omega⟩, Below.refl _ _⟩
  case round =>
    obtain ⟨k, v, hk, rfl, rfl, hB, hb⟩ := hrel
    have HBe := hide hB
    have HB := hide hb
    have hwr := hb.size
    clear hB hb
    by_cases hlt : k < n
    · have hkl : k < L.length := by rw [HN.out]; exact hlt
      obtain ⟨g, off, rfl, hg, hc, -⟩ := (HN.out ▸ HS.out : Seg w 15 (.slice a4 n d4) n (cellsW L)).at (by omega)
      have hgw : g < W1.heap.size := by omega
      have hat := fun j hj => segW_at hc j hj
      have HAt : Hid (∀ j, j < L.length → wr.rangeAt g (off + j * 15) (flyV (L.getD j fly0))) := fun j hj i u hu => ((HB.out.cell (p := ⟨g, off + j * 15 + i, none⟩) hgw).trans (HB1.out.cell (p := ⟨g, off + j * 15 + i, none⟩) hg)).trans (hat j hj i u hu)
      clear hc hat
      have c4r := (HB.out.cell (p := ⟨q, 4, none⟩) hq1).trans c41
      have c2r := (HB.out.cell (p := ⟨q, 2, none⟩) hq1).trans c21
      have hqr : ¬ wr.heap.size = q := by omega
      have hqr2 : ¬ q = wr.heap.size := by omega
      have hgr : ¬ g = wr.heap.size := by omega
      have hgr2 : ¬ wr.heap.size = g := by omega
      obtain ⟨y, hy⟩ : ∃ y, L.getD k fly0 = y := ⟨_, rfl⟩
      have HY := hide hy
      have HCy := hide (HAt.out k hkl)
      rw [hy] at HCy
      obtain ⟨vs, hvs⟩ : ∃ vs, vs = (flyV y).toArray := ⟨_, rfl⟩
      have HVs := hide hvs
      have hdue : (wr.alloc (.cells vs 72)).cell? ⟨wr.heap.size, 14, none⟩ = some (.int .i64 y.2) := by
        have hh : (wr.alloc (.cells vs 72)).heap[wr.heap.size]? = some (.cells vs 72) := (MapKept.heap_alloc wr _).1
        unfold World.cell?
        rw [hh]
        show vs[14]? = _
        rw [hvs, List.getElem?_toArray]
        unfold flyV
        rw [List.getElem?_append_right (by rw [vals_len]; exact Nat.le_refl _), vals_len]
        rfl
      clear hy hvs
      go_wp2_with (first
        | (refine wp_load15 _ rfl (.tmp 16) rfl g (off + k * 15) y rfl HCy.out vs HVs.out ?_)
        | (refine wp_store15 wr rfl (.tmp 6) (.tmp 17) rfl wr.heap.size rfl y vs HVs.out rfl rfl ?_))
      have c4a : (wr.alloc (.cells vs 72)).cell? ⟨q, 4, none⟩ = _ := ((new_below wr (.cells vs 72)).cell (p := ⟨q, 4, none⟩) (by show q < wr.heap.size; omega)).trans c4r
      have c2a : (wr.alloc (.cells vs 72)).cell? ⟨q, 2, none⟩ = _ := ((new_below wr (.cells vs 72)).cell (p := ⟨q, 2, none⟩) (by show q < wr.heap.size; omega)).trans c2r
      obtain ⟨yd, hyd⟩ : ∃ yd, y.2 = yd := ⟨_, rfl⟩
      rw [hyd] at hdue
      have HYd : Hid ((L.getD k fly0).2 = yd) := by show (L.getD k fly0).2 = yd; rw [HY.out]; exact hyd
      have HBa := hide (HB.out.alloc (by omega) (.cells vs 72))
      clear hyd HY HCy HVs c4r c2r
      have HZ14 : Hid (∀ j, j < L.length → (wr.alloc (.cells vs 72)).cell? ⟨g, off + j * 15 + 14, none⟩ = some (.int .i64 (L.getD j fly0).2)) := fun j hj => ((new_below wr (.cells vs 72)).cell (p := ⟨g, off + j * 15 + 14, none⟩) (by show g < wr.heap.size; omega)).trans (range_msg (HAt.out j hj)).2
      obtain ⟨NB, hNB⟩ : ∃ NB, NB = wr.heap.size := ⟨_, rfl⟩
      obtain ⟨W5, hW5⟩ : ∃ W5, W5 = wr.alloc (.cells vs 72) := ⟨_, rfl⟩
      have hNBl : wr.heap.size < (wr.alloc (.cells vs 72)).heap.size := by simp
      have hq5l : q < (wr.alloc (.cells vs 72)).heap.size := by simp; omega
      have hg5l : g < (wr.alloc (.cells vs 72)).heap.size := by simp; omega
      rw [← hW5] at hdue c4a c2a HBa HZ14 hNBl hq5l hg5l ⊢
      rw [← hNB] at hdue hNBl ⊢
      clear hW5 hNB hqr hqr2 hgr hgr2 HAt
      have hnb : NB < W5.heap.size := hNBl
      have hq5 : q < W5.heap.size := hq5l
      have HK := hide (fun W (hW : Below W5.heap.size W5 W) => And.intro ((hW.cell (p := ⟨NB, 14, none⟩) hnb).trans hdue) (And.intro ((hW.cell (p := ⟨q, 2, none⟩) hq5).trans c2a) ((hW.cell (p := ⟨q, 4, none⟩) hq5).trans c4a)))
      go_wp2_with fail
      by_cases hn : yd ≤ (now : Int)
      · have hd : decide (yd ≤ (now : Int)) = true := decide_eq_true hn
        have HYn := hide hn
        rcases HBe.out.lt with hv | ⟨kk, hv, hkk⟩
        · have hvn : v < 0 := by omega
          have hvd : decide (v < 0) = true := decide_eq_true hvn
          have HVn := hide hvn
          clear hv hvn hn
          refine startT (by kernel_rfl) ?_
          refine takeT (i := 0) (v := ?va0) rfl (by kernel_rfl) (by kernel_rfl) (by kernel_rfl) (fun _ _ _ h => h) (by rfl) (Below.refl _ _) ?hya0 ?resta0
          case hya0 => (intro W hSw; obtain ⟨y0, y1, y2⟩ := HK.out W (below_undrew hSw); go_simp; all_goals (with_reducible rfl))
          (try simp only [Act.put, List.setIfInBounds_toArray, List.set_cons_zero, List.set_cons_succ])
          refine takeT (i := 1) (v := ?va1) rfl (by kernel_rfl) (by kernel_rfl) (by kernel_rfl) (fun _ _ _ h => h) (by rfl) (Below.refl _ _) ?hya1 ?resta1
          case hya1 => (intro W hSw; obtain ⟨y0, y1, y2⟩ := HK.out W (below_undrew hSw); go_simp; all_goals (with_reducible rfl))
          (try simp only [Act.put, List.setIfInBounds_toArray, List.set_cons_zero, List.set_cons_succ])
          refine takeT (i := 2) (v := ?va2) rfl (by kernel_rfl) (by kernel_rfl) (by kernel_rfl) (fun _ _ _ h => h) (by rfl) (Below.refl _ _) ?hya2 ?resta2
          case hya2 => (intro W hSw; obtain ⟨y0, y1, y2⟩ := HK.out W (below_undrew hSw); go_simp; all_goals (with_reducible rfl))
          (try simp only [Act.put, List.setIfInBounds_toArray, List.set_cons_zero, List.set_cons_succ])
          refine takeT (i := 3) (v := ?va3) rfl (by kernel_rfl) (by kernel_rfl) (by kernel_rfl) (fun _ _ _ h => h) (by rfl) (Below.refl _ _) ?hya3 ?resta3
          case hya3 => (intro W hSw; obtain ⟨y0, y1, y2⟩ := HK.out W (below_undrew hSw); go_simp; all_goals (with_reducible rfl))
          (try simp only [Act.put, List.setIfInBounds_toArray, List.set_cons_zero, List.set_cons_succ])
          refine takeT (i := 4) (v := ?va4) rfl (by kernel_rfl) (by kernel_rfl) (by kernel_rfl) (fun _ _ _ h => h) (by rfl) (Below.refl _ _) ?hya4 ?resta4
          case hya4 => (intro W hSw; obtain ⟨y0, y1, y2⟩ := HK.out W (below_undrew hSw); go_simp; all_goals (with_reducible rfl))
          (try simp only [Act.put, List.setIfInBounds_toArray, List.set_cons_zero, List.set_cons_succ])
          refine takeT (i := 5) (v := ?va5) rfl (by kernel_rfl) (by kernel_rfl) (by kernel_rfl) (fun _ _ _ h => h) (by rfl) (Below.refl _ _) ?hya5 ?resta5
          case hya5 => (intro W hSw; obtain ⟨y0, y1, y2⟩ := HK.out W (below_undrew hSw); go_simp; all_goals (with_reducible rfl))
          (try simp only [Act.put, List.setIfInBounds_toArray, List.set_cons_zero, List.set_cons_succ])
          refine takeT (i := 6) (v := ?va6) rfl (by kernel_rfl) (by kernel_rfl) (by kernel_rfl) (fun _ _ _ h => h) (by rfl) (Below.refl _ _) ?hya6 ?resta6
          case hya6 => (intro W hSw; obtain ⟨y0, y1, y2⟩ := HK.out W (below_undrew hSw); go_simp; all_goals (with_reducible rfl))
          (try simp only [Act.put, List.setIfInBounds_toArray, List.set_cons_zero, List.set_cons_succ])
          refine takeT (i := 7) (v := ?va7) rfl (by kernel_rfl) (by kernel_rfl) (by kernel_rfl) (fun _ _ _ h => h) (by rfl) (Below.refl _ _) ?hya7 ?resta7
          case hya7 => (intro W hSw; obtain ⟨y0, y1, y2⟩ := HK.out W (below_undrew hSw); go_simp; all_goals (with_reducible rfl))
          (try simp only [Act.put, List.setIfInBounds_toArray, List.set_cons_zero, List.set_cons_succ])
          refine takeT (i := 8) (v := ?va8) rfl (by kernel_rfl) (by kernel_rfl) (by kernel_rfl) (fun _ _ _ h => h) (by rfl) (Below.refl _ _) ?hya8 ?resta8
          case hya8 => (intro W hSw; obtain ⟨y0, y1, y2⟩ := HK.out W (below_undrew hSw); go_simp; all_goals (with_reducible rfl))
          (try simp only [Act.put, List.setIfInBounds_toArray, List.set_cons_zero, List.set_cons_succ])
          refine takeT (i := 9) (v := ?va9) rfl (by kernel_rfl) (by kernel_rfl) (by kernel_rfl) (fun _ _ _ h => h) (by rfl) (Below.refl _ _) ?hya9 ?resta9
          case hya9 => (intro W hSw; obtain ⟨y0, y1, y2⟩ := HK.out W (below_undrew hSw); go_simp; all_goals (with_reducible rfl))
          (try simp only [Act.put, List.setIfInBounds_toArray, List.set_cons_zero, List.set_cons_succ])
          refine takeT (i := 10) (v := ?va10) rfl (by kernel_rfl) (by kernel_rfl) (by kernel_rfl) (fun _ _ _ h => h) (by rfl) (Below.refl _ _) ?hya10 ?resta10
          case hya10 => (intro W hSw; obtain ⟨y0, y1, y2⟩ := HK.out W (below_undrew hSw); go_simp; all_goals (with_reducible rfl))
          (try simp only [Act.put, List.setIfInBounds_toArray, List.set_cons_zero, List.set_cons_succ])
          refine skipT (i := 11) rfl (by kernel_rfl) (by kernel_rfl) (by kernel_rfl) (fun _ _ _ h => h) (by rfl) (Below.refl _ _) ?_
          (try simp only [Act.put, List.setIfInBounds_toArray, List.set_cons_zero, List.set_cons_succ])
          refine skipT (i := 12) rfl (by kernel_rfl) (by kernel_rfl) (by kernel_rfl) (fun _ _ _ h => h) (by rfl) (Below.refl _ _) ?_
          (try simp only [Act.put, List.setIfInBounds_toArray, List.set_cons_zero, List.set_cons_succ])
          refine skipT (i := 13) rfl (by kernel_rfl) (by kernel_rfl) (by kernel_rfl) (fun _ _ _ h => h) (by rfl) (Below.refl _ _) ?_
          (try simp only [Act.put, List.setIfInBounds_toArray, List.set_cons_zero, List.set_cons_succ])
          refine skipT (i := 14) rfl (by kernel_rfl) (by kernel_rfl) (by kernel_rfl) (fun _ _ _ h => h) (by rfl) (Below.refl _ _) ?_
          (try simp only [Act.put, List.setIfInBounds_toArray, List.set_cons_zero, List.set_cons_succ])
          refine skipT (i := 15) rfl (by kernel_rfl) (by kernel_rfl) (by kernel_rfl) (fun _ _ _ h => h) (by rfl) (Below.refl _ _) ?_
          (try simp only [Act.put, List.setIfInBounds_toArray, List.set_cons_zero, List.set_cons_succ])
          refine skipT (i := 16) rfl (by kernel_rfl) (by kernel_rfl) (by kernel_rfl) (fun _ _ _ h => h) (by rfl) (Below.refl _ _) ?_
          (try simp only [Act.put, List.setIfInBounds_toArray, List.set_cons_zero, List.set_cons_succ])
          refine skipT (i := 17) rfl (by kernel_rfl) (by kernel_rfl) (by kernel_rfl) (fun _ _ _ h => h) (by rfl) (Below.refl _ _) ?_
          (try simp only [Act.put, List.setIfInBounds_toArray, List.set_cons_zero, List.set_cons_succ])
          refine skipT (i := 18) rfl (by kernel_rfl) (by kernel_rfl) (by kernel_rfl) (fun _ _ _ h => h) (by rfl) (Below.refl _ _) ?_
          (try simp only [Act.put, List.setIfInBounds_toArray, List.set_cons_zero, List.set_cons_succ])
          refine skipT (i := 19) rfl (by kernel_rfl) (by kernel_rfl) (by kernel_rfl) (fun _ _ _ h => h) (by rfl) (Below.refl _ _) ?_
          (try simp only [Act.put, List.setIfInBounds_toArray, List.set_cons_zero, List.set_cons_succ])
          refine skipT (i := 20) rfl (by kernel_rfl) (by kernel_rfl) (by kernel_rfl) (fun _ _ _ h => h) (by rfl) (Below.refl _ _) ?_
          (try simp only [Act.put, List.setIfInBounds_toArray, List.set_cons_zero, List.set_cons_succ])
          refine skipT (i := 21) rfl (by kernel_rfl) (by kernel_rfl) (by kernel_rfl) (fun _ _ _ h => h) (by rfl) (Below.refl _ _) ?_
          (try simp only [Act.put, List.setIfInBounds_toArray, List.set_cons_zero, List.set_cons_succ])
          refine takeT (i := 22) (v := ?va22) rfl (by kernel_rfl) (by kernel_rfl) (by kernel_rfl) (fun _ _ _ h => h) (by rfl) (Below.refl _ _) ?hya22 ?resta22
          case hya22 => (intro W hSw; obtain ⟨y0, y1, y2⟩ := HK.out W (below_undrew hSw); go_simp; all_goals (with_reducible rfl))
          (try simp only [Act.put, List.setIfInBounds_toArray, List.set_cons_zero, List.set_cons_succ])
          refine takeT (i := 23) (v := ?va23) rfl (by kernel_rfl) (by kernel_rfl) (by kernel_rfl) (fun _ _ _ h => h) (by rfl) (Below.refl _ _) ?hya23 ?resta23
          case hya23 => (intro W hSw; obtain ⟨y0, y1, y2⟩ := HK.out W (below_undrew hSw); go_simp; all_goals (with_reducible rfl))
          (try simp only [Act.put, List.setIfInBounds_toArray, List.set_cons_zero, List.set_cons_succ])
          refine wpAnyH_done (by kernel_rfl) ?_ _
          go_wp2
          go_roundw
          case rel => exact ⟨k + 1, (k : Int), by omega, by go_num, by go_num, best_take HBe.out (by rw [HYd.out]; exact HYn.out) (.inl HVn.out), HBa.out.drew⟩
          case measure => simp [intOf]; omega
        · subst hv
          have hkl2 : kk < L.length := by omega
          have z14 := HZ14.out kk hkl2
          obtain ⟨zd, hzd⟩ : ∃ zd, (L.getD kk fly0).2 = zd := ⟨_, rfl⟩
          rw [hzd] at z14
          have HZd := hide hzd
          have HK2 := hide (fun W (hW : Below W5.heap.size W5 W) => (hW.cell (p := ⟨g, off + kk * 15 + 14, none⟩) hg5l).trans z14)
          have hv0 : decide ((kk : Int) < 0) = false := decide_eq_false (by omega)
          have hkn : (kk : Int) < (n : Int) := by omega
          have hk0 : (0 : Int) ≤ (kk : Int) := by omega
          clear hzd
          by_cases hz : yd < zd
          · have hzd : decide (yd < zd) = true := decide_eq_true hz
            refine startT (by kernel_rfl) ?_
            refine takeT (i := 0) (v := ?vb0) rfl (by kernel_rfl) (by kernel_rfl) (by kernel_rfl) (fun _ _ _ h => h) (by rfl) (Below.refl _ _) ?hyb0 ?restb0
            case hyb0 => (intro W hSw; obtain ⟨y0, y1, y2⟩ := HK.out W (below_undrew hSw); have y3 := HK2.out W (below_undrew hSw); go_simp; all_goals (with_reducible rfl))
            (try simp only [Act.put, List.setIfInBounds_toArray, List.set_cons_zero, List.set_cons_succ])
            refine takeT (i := 1) (v := ?vb1) rfl (by kernel_rfl) (by kernel_rfl) (by kernel_rfl) (fun _ _ _ h => h) (by rfl) (Below.refl _ _) ?hyb1 ?restb1
            case hyb1 => (intro W hSw; obtain ⟨y0, y1, y2⟩ := HK.out W (below_undrew hSw); have y3 := HK2.out W (below_undrew hSw); go_simp; all_goals (with_reducible rfl))
            (try simp only [Act.put, List.setIfInBounds_toArray, List.set_cons_zero, List.set_cons_succ])
            refine takeT (i := 2) (v := ?vb2) rfl (by kernel_rfl) (by kernel_rfl) (by kernel_rfl) (fun _ _ _ h => h) (by rfl) (Below.refl _ _) ?hyb2 ?restb2
            case hyb2 => (intro W hSw; obtain ⟨y0, y1, y2⟩ := HK.out W (below_undrew hSw); have y3 := HK2.out W (below_undrew hSw); go_simp; all_goals (with_reducible rfl))
            (try simp only [Act.put, List.setIfInBounds_toArray, List.set_cons_zero, List.set_cons_succ])
            refine takeT (i := 3) (v := ?vb3) rfl (by kernel_rfl) (by kernel_rfl) (by kernel_rfl) (fun _ _ _ h => h) (by rfl) (Below.refl _ _) ?hyb3 ?restb3
            case hyb3 => (intro W hSw; obtain ⟨y0, y1, y2⟩ := HK.out W (below_undrew hSw); have y3 := HK2.out W (below_undrew hSw); go_simp; all_goals (with_reducible rfl))
            (try simp only [Act.put, List.setIfInBounds_toArray, List.set_cons_zero, List.set_cons_succ])
            refine takeT (i := 4) (v := ?vb4) rfl (by kernel_rfl) (by kernel_rfl) (by kernel_rfl) (fun _ _ _ h => h) (by rfl) (Below.refl _ _) ?hyb4 ?restb4
            case hyb4 => (intro W hSw; obtain ⟨y0, y1, y2⟩ := HK.out W (below_undrew hSw); have y3 := HK2.out W (below_undrew hSw); go_simp; all_goals (with_reducible rfl))
            (try simp only [Act.put, List.setIfInBounds_toArray, List.set_cons_zero, List.set_cons_succ])
            refine takeT (i := 5) (v := ?vb5) rfl (by kernel_rfl) (by kernel_rfl) (by kernel_rfl) (fun _ _ _ h => h) (by rfl) (Below.refl _ _) ?hyb5 ?restb5
            case hyb5 => (intro W hSw; obtain ⟨y0, y1, y2⟩ := HK.out W (below_undrew hSw); have y3 := HK2.out W (below_undrew hSw); go_simp; all_goals (with_reducible rfl))
            (try simp only [Act.put, List.setIfInBounds_toArray, List.set_cons_zero, List.set_cons_succ])
            refine takeT (i := 6) (v := ?vb6) rfl (by kernel_rfl) (by kernel_rfl) (by kernel_rfl) (fun _ _ _ h => h) (by rfl) (Below.refl _ _) ?hyb6 ?restb6
            case hyb6 => (intro W hSw; obtain ⟨y0, y1, y2⟩ := HK.out W (below_undrew hSw); have y3 := HK2.out W (below_undrew hSw); go_simp; all_goals (with_reducible rfl))
            (try simp only [Act.put, List.setIfInBounds_toArray, List.set_cons_zero, List.set_cons_succ])
            refine takeT (i := 7) (v := ?vb7) rfl (by kernel_rfl) (by kernel_rfl) (by kernel_rfl) (fun _ _ _ h => h) (by rfl) (Below.refl _ _) ?hyb7 ?restb7
            case hyb7 => (intro W hSw; obtain ⟨y0, y1, y2⟩ := HK.out W (below_undrew hSw); have y3 := HK2.out W (below_undrew hSw); go_simp; all_goals (with_reducible rfl))
            (try simp only [Act.put, List.setIfInBounds_toArray, List.set_cons_zero, List.set_cons_succ])
            refine takeT (i := 8) (v := ?vb8) rfl (by kernel_rfl) (by kernel_rfl) (by kernel_rfl) (fun _ _ _ h => h) (by rfl) (Below.refl _ _) ?hyb8 ?restb8
            case hyb8 => (intro W hSw; obtain ⟨y0, y1, y2⟩ := HK.out W (below_undrew hSw); have y3 := HK2.out W (below_undrew hSw); go_simp; all_goals (with_reducible rfl))
            (try simp only [Act.put, List.setIfInBounds_toArray, List.set_cons_zero, List.set_cons_succ])
            refine takeT (i := 9) (v := ?vb9) rfl (by kernel_rfl) (by kernel_rfl) (by kernel_rfl) (fun _ _ _ h => h) (by rfl) (Below.refl _ _) ?hyb9 ?restb9
            case hyb9 => (intro W hSw; obtain ⟨y0, y1, y2⟩ := HK.out W (below_undrew hSw); have y3 := HK2.out W (below_undrew hSw); go_simp; all_goals (with_reducible rfl))
            (try simp only [Act.put, List.setIfInBounds_toArray, List.set_cons_zero, List.set_cons_succ])
            refine takeT (i := 10) (v := ?vb10) rfl (by kernel_rfl) (by kernel_rfl) (by kernel_rfl) (fun _ _ _ h => h) (by rfl) (Below.refl _ _) ?hyb10 ?restb10
            case hyb10 => (intro W hSw; obtain ⟨y0, y1, y2⟩ := HK.out W (below_undrew hSw); have y3 := HK2.out W (below_undrew hSw); go_simp; all_goals (with_reducible rfl))
            (try simp only [Act.put, List.setIfInBounds_toArray, List.set_cons_zero, List.set_cons_succ])
            refine takeT (i := 11) (v := ?vb11) rfl (by kernel_rfl) (by kernel_rfl) (by kernel_rfl) (fun _ _ _ h => h) (by rfl) (Below.refl _ _) ?hyb11 ?restb11
            case hyb11 => (intro W hSw; obtain ⟨y0, y1, y2⟩ := HK.out W (below_undrew hSw); have y3 := HK2.out W (below_undrew hSw); go_simp; all_goals (with_reducible rfl))
            (try simp only [Act.put, List.setIfInBounds_toArray, List.set_cons_zero, List.set_cons_succ])
            refine takeT (i := 12) (v := ?vb12) rfl (by kernel_rfl) (by kernel_rfl) (by kernel_rfl) (fun _ _ _ h => h) (by rfl) (Below.refl _ _) ?hyb12 ?restb12
            case hyb12 => (intro W hSw; obtain ⟨y0, y1, y2⟩ := HK.out W (below_undrew hSw); have y3 := HK2.out W (below_undrew hSw); go_simp; all_goals (with_reducible rfl))
            (try simp only [Act.put, List.setIfInBounds_toArray, List.set_cons_zero, List.set_cons_succ])
            refine takeT (i := 13) (v := ?vb13) rfl (by kernel_rfl) (by kernel_rfl) (by kernel_rfl) (fun _ _ _ h => h) (by rfl) (Below.refl _ _) ?hyb13 ?restb13
            case hyb13 => (intro W hSw; obtain ⟨y0, y1, y2⟩ := HK.out W (below_undrew hSw); have y3 := HK2.out W (below_undrew hSw); go_simp; all_goals (with_reducible rfl))
            (try simp only [Act.put, List.setIfInBounds_toArray, List.set_cons_zero, List.set_cons_succ])
            refine takeT (i := 14) (v := ?vb14) rfl (by kernel_rfl) (by kernel_rfl) (by kernel_rfl) (fun _ _ _ h => h) (by rfl) (Below.refl _ _) ?hyb14 ?restb14
            case hyb14 => (intro W hSw; obtain ⟨y0, y1, y2⟩ := HK.out W (below_undrew hSw); have y3 := HK2.out W (below_undrew hSw); go_simp; all_goals (with_reducible rfl))
            (try simp only [Act.put, List.setIfInBounds_toArray, List.set_cons_zero, List.set_cons_succ])
            refine takeT (i := 15) (v := ?vb15) rfl (by kernel_rfl) (by kernel_rfl) (by kernel_rfl) (fun _ _ _ h => h) (by rfl) (Below.refl _ _) ?hyb15 ?restb15
            case hyb15 => (intro W hSw; obtain ⟨y0, y1, y2⟩ := HK.out W (below_undrew hSw); have y3 := HK2.out W (below_undrew hSw); go_simp; all_goals (with_reducible rfl))
            (try simp only [Act.put, List.setIfInBounds_toArray, List.set_cons_zero, List.set_cons_succ])
            refine takeT (i := 16) (v := ?vb16) rfl (by kernel_rfl) (by kernel_rfl) (by kernel_rfl) (fun _ _ _ h => h) (by rfl) (Below.refl _ _) ?hyb16 ?restb16
            case hyb16 => (intro W hSw; obtain ⟨y0, y1, y2⟩ := HK.out W (below_undrew hSw); have y3 := HK2.out W (below_undrew hSw); go_simp; all_goals (with_reducible rfl))
            (try simp only [Act.put, List.setIfInBounds_toArray, List.set_cons_zero, List.set_cons_succ])
            refine takeT (i := 17) (v := ?vb17) rfl (by kernel_rfl) (by kernel_rfl) (by kernel_rfl) (fun _ _ _ h => h) (by rfl) (Below.refl _ _) ?hyb17 ?restb17
            case hyb17 => (intro W hSw; obtain ⟨y0, y1, y2⟩ := HK.out W (below_undrew hSw); have y3 := HK2.out W (below_undrew hSw); go_simp; all_goals (with_reducible rfl))
            (try simp only [Act.put, List.setIfInBounds_toArray, List.set_cons_zero, List.set_cons_succ])
            refine takeT (i := 18) (v := ?vb18) rfl (by kernel_rfl) (by kernel_rfl) (by kernel_rfl) (fun _ _ _ h => h) (by rfl) (Below.refl _ _) ?hyb18 ?restb18
            case hyb18 => (intro W hSw; obtain ⟨y0, y1, y2⟩ := HK.out W (below_undrew hSw); have y3 := HK2.out W (below_undrew hSw); go_simp; all_goals (with_reducible rfl))
            (try simp only [Act.put, List.setIfInBounds_toArray, List.set_cons_zero, List.set_cons_succ])
            refine takeT (i := 19) (v := ?vb19) rfl (by kernel_rfl) (by kernel_rfl) (by kernel_rfl) (fun _ _ _ h => h) (by rfl) (Below.refl _ _) ?hyb19 ?restb19
            case hyb19 => (intro W hSw; obtain ⟨y0, y1, y2⟩ := HK.out W (below_undrew hSw); have y3 := HK2.out W (below_undrew hSw); go_simp; all_goals (with_reducible rfl))
            (try simp only [Act.put, List.setIfInBounds_toArray, List.set_cons_zero, List.set_cons_succ])
            refine takeT (i := 20) (v := ?vb20) rfl (by kernel_rfl) (by kernel_rfl) (by kernel_rfl) (fun _ _ _ h => h) (by rfl) (Below.refl _ _) ?hyb20 ?restb20
            case hyb20 => (intro W hSw; obtain ⟨y0, y1, y2⟩ := HK.out W (below_undrew hSw); have y3 := HK2.out W (below_undrew hSw); go_simp; all_goals (with_reducible rfl))
            (try simp only [Act.put, List.setIfInBounds_toArray, List.set_cons_zero, List.set_cons_succ])
            refine takeT (i := 21) (v := ?vb21) rfl (by kernel_rfl) (by kernel_rfl) (by kernel_rfl) (fun _ _ _ h => h) (by rfl) (Below.refl _ _) ?hyb21 ?restb21
            case hyb21 => (intro W hSw; obtain ⟨y0, y1, y2⟩ := HK.out W (below_undrew hSw); have y3 := HK2.out W (below_undrew hSw); go_simp; all_goals (with_reducible rfl))
            (try simp only [Act.put, List.setIfInBounds_toArray, List.set_cons_zero, List.set_cons_succ])
            refine takeT (i := 22) (v := ?vb22) rfl (by kernel_rfl) (by kernel_rfl) (by kernel_rfl) (fun _ _ _ h => h) (by rfl) (Below.refl _ _) ?hyb22 ?restb22
            case hyb22 => (intro W hSw; obtain ⟨y0, y1, y2⟩ := HK.out W (below_undrew hSw); have y3 := HK2.out W (below_undrew hSw); go_simp; all_goals (with_reducible rfl))
            (try simp only [Act.put, List.setIfInBounds_toArray, List.set_cons_zero, List.set_cons_succ])
            refine takeT (i := 23) (v := ?vb23) rfl (by kernel_rfl) (by kernel_rfl) (by kernel_rfl) (fun _ _ _ h => h) (by rfl) (Below.refl _ _) ?hyb23 ?restb23
            case hyb23 => (intro W hSw; obtain ⟨y0, y1, y2⟩ := HK.out W (below_undrew hSw); have y3 := HK2.out W (below_undrew hSw); go_simp; all_goals (with_reducible rfl))
            (try simp only [Act.put, List.setIfInBounds_toArray, List.set_cons_zero, List.set_cons_succ])
            refine wpAnyH_done (by kernel_rfl) ?_ _
            go_wp2
            go_roundw
            case rel => exact ⟨k + 1, (k : Int), by omega, by go_num, by go_num, best_take HBe.out (by rw [HYd.out]; exact HYn.out) (.inr ⟨kk, rfl, by rw [HYd.out, HZd.out]; exact hz⟩), HBa.out.drew⟩
            case measure => simp [intOf]; omega
          · have hzd : decide (yd < zd) = false := decide_eq_false hz
            refine startT (by kernel_rfl) ?_
            refine takeT (i := 0) (v := ?vc0) rfl (by kernel_rfl) (by kernel_rfl) (by kernel_rfl) (fun _ _ _ h => h) (by rfl) (Below.refl _ _) ?hyc0 ?restc0
            case hyc0 => (intro W hSw; obtain ⟨y0, y1, y2⟩ := HK.out W (below_undrew hSw); have y3 := HK2.out W (below_undrew hSw); go_simp; all_goals (with_reducible rfl))
            (try simp only [Act.put, List.setIfInBounds_toArray, List.set_cons_zero, List.set_cons_succ])
            refine takeT (i := 1) (v := ?vc1) rfl (by kernel_rfl) (by kernel_rfl) (by kernel_rfl) (fun _ _ _ h => h) (by rfl) (Below.refl _ _) ?hyc1 ?restc1
            case hyc1 => (intro W hSw; obtain ⟨y0, y1, y2⟩ := HK.out W (below_undrew hSw); have y3 := HK2.out W (below_undrew hSw); go_simp; all_goals (with_reducible rfl))
            (try simp only [Act.put, List.setIfInBounds_toArray, List.set_cons_zero, List.set_cons_succ])
            refine takeT (i := 2) (v := ?vc2) rfl (by kernel_rfl) (by kernel_rfl) (by kernel_rfl) (fun _ _ _ h => h) (by rfl) (Below.refl _ _) ?hyc2 ?restc2
            case hyc2 => (intro W hSw; obtain ⟨y0, y1, y2⟩ := HK.out W (below_undrew hSw); have y3 := HK2.out W (below_undrew hSw); go_simp; all_goals (with_reducible rfl))
            (try simp only [Act.put, List.setIfInBounds_toArray, List.set_cons_zero, List.set_cons_succ])
            refine takeT (i := 3) (v := ?vc3) rfl (by kernel_rfl) (by kernel_rfl) (by kernel_rfl) (fun _ _ _ h => h) (by rfl) (Below.refl _ _) ?hyc3 ?restc3
            case hyc3 => (intro W hSw; obtain ⟨y0, y1, y2⟩ := HK.out W (below_undrew hSw); have y3 := HK2.out W (below_undrew hSw); go_simp; all_goals (with_reducible rfl))
            (try simp only [Act.put, List.setIfInBounds_toArray, List.set_cons_zero, List.set_cons_succ])
            refine takeT (i := 4) (v := ?vc4) rfl (by kernel_rfl) (by kernel_rfl) (by kernel_rfl) (fun _ _ _ h => h) (by rfl) (Below.refl _ _) ?hyc4 ?restc4
            case hyc4 => (intro W hSw; obtain ⟨y0, y1, y2⟩ := HK.out W (below_undrew hSw); have y3 := HK2.out W (below_undrew hSw); go_simp; all_goals (with_reducible rfl))
            (try simp only [Act.put, List.setIfInBounds_toArray, List.set_cons_zero, List.set_cons_succ])
            refine takeT (i := 5) (v := ?vc5) rfl (by kernel_rfl) (by kernel_rfl) (by kernel_rfl) (fun _ _ _ h => h) (by rfl) (Below.refl _ _) ?hyc5 ?restc5
            case hyc5 => (intro W hSw; obtain ⟨y0, y1, y2⟩ := HK.out W (below_undrew hSw); have y3 := HK2.out W (below_undrew hSw); go_simp; all_goals (with_reducible rfl))
            (try simp only [Act.put, List.setIfInBounds_toArray, List.set_cons_zero, List.set_cons_succ])
            refine takeT (i := 6) (v := ?vc6) rfl (by kernel_rfl) (by kernel_rfl) (by kernel_rfl) (fun _ _ _ h => h) (by rfl) (Below.refl _ _) ?hyc6 ?restc6
            case hyc6 => (intro W hSw; obtain ⟨y0, y1, y2⟩ := HK.out W (below_undrew hSw); have y3 := HK2.out W (below_undrew hSw); go_simp; all_goals (with_reducible rfl))
            (try simp only [Act.put, List.setIfInBounds_toArray, List.set_cons_zero, List.set_cons_succ])
            refine takeT (i := 7) (v := ?vc7) rfl (by kernel_rfl) (by kernel_rfl) (by kernel_rfl) (fun _ _ _ h => h) (by rfl) (Below.refl _ _) ?hyc7 ?restc7
            case hyc7 => (intro W hSw; obtain ⟨y0, y1, y2⟩ := HK.out W (below_undrew hSw); have y3 := HK2.out W (below_undrew hSw); go_simp; all_goals (with_reducible rfl))
            (try simp only [Act.put, List.setIfInBounds_toArray, List.set_cons_zero, List.set_cons_succ])
            refine takeT (i := 8) (v := ?vc8) rfl (by kernel_rfl) (by kernel_rfl) (by kernel_rfl) (fun _ _ _ h => h) (by rfl) (Below.refl _ _) ?hyc8 ?restc8
            case hyc8 => (intro W hSw; obtain ⟨y0, y1, y2⟩ := HK.out W (below_undrew hSw); have y3 := HK2.out W (below_undrew hSw); go_simp; all_goals (with_reducible rfl))
            (try simp only [Act.put, List.setIfInBounds_toArray, List.set_cons_zero, List.set_cons_succ])
            refine takeT (i := 9) (v := ?vc9) rfl (by kernel_rfl) (by kernel_rfl) (by kernel_rfl) (fun _ _ _ h => h) (by rfl) (Below.refl _ _) ?hyc9 ?restc9
            case hyc9 => (intro W hSw; obtain ⟨y0, y1, y2⟩ := HK.out W (below_undrew hSw); have y3 := HK2.out W (below_undrew hSw); go_simp; all_goals (with_reducible rfl))
            (try simp only [Act.put, List.setIfInBounds_toArray, List.set_cons_zero, List.set_cons_succ])
            refine takeT (i := 10) (v := ?vc10) rfl (by kernel_rfl) (by kernel_rfl) (by kernel_rfl) (fun _ _ _ h => h) (by rfl) (Below.refl _ _) ?hyc10 ?restc10
            case hyc10 => (intro W hSw; obtain ⟨y0, y1, y2⟩ := HK.out W (below_undrew hSw); have y3 := HK2.out W (below_undrew hSw); go_simp; all_goals (with_reducible rfl))
            (try simp only [Act.put, List.setIfInBounds_toArray, List.set_cons_zero, List.set_cons_succ])
            refine takeT (i := 11) (v := ?vc11) rfl (by kernel_rfl) (by kernel_rfl) (by kernel_rfl) (fun _ _ _ h => h) (by rfl) (Below.refl _ _) ?hyc11 ?restc11
            case hyc11 => (intro W hSw; obtain ⟨y0, y1, y2⟩ := HK.out W (below_undrew hSw); have y3 := HK2.out W (below_undrew hSw); go_simp; all_goals (with_reducible rfl))
            (try simp only [Act.put, List.setIfInBounds_toArray, List.set_cons_zero, List.set_cons_succ])
            refine takeT (i := 12) (v := ?vc12) rfl (by kernel_rfl) (by kernel_rfl) (by kernel_rfl) (fun _ _ _ h => h) (by rfl) (Below.refl _ _) ?hyc12 ?restc12
            case hyc12 => (intro W hSw; obtain ⟨y0, y1, y2⟩ := HK.out W (below_undrew hSw); have y3 := HK2.out W (below_undrew hSw); go_simp; all_goals (with_reducible rfl))
            (try simp only [Act.put, List.setIfInBounds_toArray, List.set_cons_zero, List.set_cons_succ])
            refine takeT (i := 13) (v := ?vc13) rfl (by kernel_rfl) (by kernel_rfl) (by kernel_rfl) (fun _ _ _ h => h) (by rfl) (Below.refl _ _) ?hyc13 ?restc13
            case hyc13 => (intro W hSw; obtain ⟨y0, y1, y2⟩ := HK.out W (below_undrew hSw); have y3 := HK2.out W (below_undrew hSw); go_simp; all_goals (with_reducible rfl))
            (try simp only [Act.put, List.setIfInBounds_toArray, List.set_cons_zero, List.set_cons_succ])
            refine takeT (i := 14) (v := ?vc14) rfl (by kernel_rfl) (by kernel_rfl) (by kernel_rfl) (fun _ _ _ h => h) (by rfl) (Below.refl _ _) ?hyc14 ?restc14
            case hyc14 => (intro W hSw; obtain ⟨y0, y1, y2⟩ := HK.out W (below_undrew hSw); have y3 := HK2.out W (below_undrew hSw); go_simp; all_goals (with_reducible rfl))
            (try simp only [Act.put, List.setIfInBounds_toArray, List.set_cons_zero, List.set_cons_succ])
            refine takeT (i := 15) (v := ?vc15) rfl (by kernel_rfl) (by kernel_rfl) (by kernel_rfl) (fun _ _ _ h => h) (by rfl) (Below.refl _ _) ?hyc15 ?restc15
            case hyc15 => (intro W hSw; obtain ⟨y0, y1, y2⟩ := HK.out W (below_undrew hSw); have y3 := HK2.out W (below_undrew hSw); go_simp; all_goals (with_reducible rfl))
            (try simp only [Act.put, List.setIfInBounds_toArray, List.set_cons_zero, List.set_cons_succ])
            refine takeT (i := 16) (v := ?vc16) rfl (by kernel_rfl) (by kernel_rfl) (by kernel_rfl) (fun _ _ _ h => h) (by rfl) (Below.refl _ _) ?hyc16 ?restc16
            case hyc16 => (intro W hSw; obtain ⟨y0, y1, y2⟩ := HK.out W (below_undrew hSw); have y3 := HK2.out W (below_undrew hSw); go_simp; all_goals (with_reducible rfl))
            (try simp only [Act.put, List.setIfInBounds_toArray, List.set_cons_zero, List.set_cons_succ])
            refine takeT (i := 17) (v := ?vc17) rfl (by kernel_rfl) (by kernel_rfl) (by kernel_rfl) (fun _ _ _ h => h) (by rfl) (Below.refl _ _) ?hyc17 ?restc17
            case hyc17 => (intro W hSw; obtain ⟨y0, y1, y2⟩ := HK.out W (below_undrew hSw); have y3 := HK2.out W (below_undrew hSw); go_simp; all_goals (with_reducible rfl))
            (try simp only [Act.put, List.setIfInBounds_toArray, List.set_cons_zero, List.set_cons_succ])
            refine takeT (i := 18) (v := ?vc18) rfl (by kernel_rfl) (by kernel_rfl) (by kernel_rfl) (fun _ _ _ h => h) (by rfl) (Below.refl _ _) ?hyc18 ?restc18
            case hyc18 => (intro W hSw; obtain ⟨y0, y1, y2⟩ := HK.out W (below_undrew hSw); have y3 := HK2.out W (below_undrew hSw); go_simp; all_goals (with_reducible rfl))
            (try simp only [Act.put, List.setIfInBounds_toArray, List.set_cons_zero, List.set_cons_succ])
            refine takeT (i := 19) (v := ?vc19) rfl (by kernel_rfl) (by kernel_rfl) (by kernel_rfl) (fun _ _ _ h => h) (by rfl) (Below.refl _ _) ?hyc19 ?restc19
            case hyc19 => (intro W hSw; obtain ⟨y0, y1, y2⟩ := HK.out W (below_undrew hSw); have y3 := HK2.out W (below_undrew hSw); go_simp; all_goals (with_reducible rfl))
            (try simp only [Act.put, List.setIfInBounds_toArray, List.set_cons_zero, List.set_cons_succ])
            refine takeT (i := 20) (v := ?vc20) rfl (by kernel_rfl) (by kernel_rfl) (by kernel_rfl) (fun _ _ _ h => h) (by rfl) (Below.refl _ _) ?hyc20 ?restc20
            case hyc20 => (intro W hSw; obtain ⟨y0, y1, y2⟩ := HK.out W (below_undrew hSw); have y3 := HK2.out W (below_undrew hSw); go_simp; all_goals (with_reducible rfl))
            (try simp only [Act.put, List.setIfInBounds_toArray, List.set_cons_zero, List.set_cons_succ])
            refine takeT (i := 21) (v := ?vc21) rfl (by kernel_rfl) (by kernel_rfl) (by kernel_rfl) (fun _ _ _ h => h) (by rfl) (Below.refl _ _) ?hyc21 ?restc21
            case hyc21 => (intro W hSw; obtain ⟨y0, y1, y2⟩ := HK.out W (below_undrew hSw); have y3 := HK2.out W (below_undrew hSw); go_simp; all_goals (with_reducible rfl))
            (try simp only [Act.put, List.setIfInBounds_toArray, List.set_cons_zero, List.set_cons_succ])
            refine takeT (i := 22) (v := ?vc22) rfl (by kernel_rfl) (by kernel_rfl) (by kernel_rfl) (fun _ _ _ h => h) (by rfl) (Below.refl _ _) ?hyc22 ?restc22
            case hyc22 => (intro W hSw; obtain ⟨y0, y1, y2⟩ := HK.out W (below_undrew hSw); have y3 := HK2.out W (below_undrew hSw); go_simp; all_goals (with_reducible rfl))
            (try simp only [Act.put, List.setIfInBounds_toArray, List.set_cons_zero, List.set_cons_succ])
            refine takeT (i := 23) (v := ?vc23) rfl (by kernel_rfl) (by kernel_rfl) (by kernel_rfl) (fun _ _ _ h => h) (by rfl) (Below.refl _ _) ?hyc23 ?restc23
            case hyc23 => (intro W hSw; obtain ⟨y0, y1, y2⟩ := HK.out W (below_undrew hSw); have y3 := HK2.out W (below_undrew hSw); go_simp; all_goals (with_reducible rfl))
            (try simp only [Act.put, List.setIfInBounds_toArray, List.set_cons_zero, List.set_cons_succ])
            refine wpAnyH_done (by kernel_rfl) ?_ _
            go_wp2
            go_roundw
            case rel => exact ⟨k + 1, (kk : Int), by omega, by go_num, rfl, best_skip HBe.out (.inr ⟨kk, rfl, by rw [HYd.out, HZd.out]; omega⟩), HBa.out.drew⟩
            case measure => simp [intOf]; omega
      · have hd : decide (yd ≤ (now : Int)) = false := decide_eq_false hn
        refine startT (by kernel_rfl) ?_
        refine takeT (i := 0) (v := ?vd0) rfl (by kernel_rfl) (by kernel_rfl) (by kernel_rfl) (fun _ _ _ h => h) (by rfl) (Below.refl _ _) ?hyd0 ?restd0
        case hyd0 => (intro W hSw; obtain ⟨y0, y1, y2⟩ := HK.out W (below_undrew hSw); go_simp; all_goals (with_reducible rfl))
        (try simp only [Act.put, List.setIfInBounds_toArray, List.set_cons_zero, List.set_cons_succ])
        refine takeT (i := 1) (v := ?vd1) rfl (by kernel_rfl) (by kernel_rfl) (by kernel_rfl) (fun _ _ _ h => h) (by rfl) (Below.refl _ _) ?hyd1 ?restd1
        case hyd1 => (intro W hSw; obtain ⟨y0, y1, y2⟩ := HK.out W (below_undrew hSw); go_simp; all_goals (with_reducible rfl))
        (try simp only [Act.put, List.setIfInBounds_toArray, List.set_cons_zero, List.set_cons_succ])
        refine takeT (i := 2) (v := ?vd2) rfl (by kernel_rfl) (by kernel_rfl) (by kernel_rfl) (fun _ _ _ h => h) (by rfl) (Below.refl _ _) ?hyd2 ?restd2
        case hyd2 => (intro W hSw; obtain ⟨y0, y1, y2⟩ := HK.out W (below_undrew hSw); go_simp; all_goals (with_reducible rfl))
        (try simp only [Act.put, List.setIfInBounds_toArray, List.set_cons_zero, List.set_cons_succ])
        refine takeT (i := 3) (v := ?vd3) rfl (by kernel_rfl) (by kernel_rfl) (by kernel_rfl) (fun _ _ _ h => h) (by rfl) (Below.refl _ _) ?hyd3 ?restd3
        case hyd3 => (intro W hSw; obtain ⟨y0, y1, y2⟩ := HK.out W (below_undrew hSw); go_simp; all_goals (with_reducible rfl))
        (try simp only [Act.put, List.setIfInBounds_toArray, List.set_cons_zero, List.set_cons_succ])
        refine takeT (i := 4) (v := ?vd4) rfl (by kernel_rfl) (by kernel_rfl) (by kernel_rfl) (fun _ _ _ h => h) (by rfl) (Below.refl _ _) ?hyd4 ?restd4
        case hyd4 => (intro W hSw; obtain ⟨y0, y1, y2⟩ := HK.out W (below_undrew hSw); go_simp; all_goals (with_reducible rfl))
        (try simp only [Act.put, List.setIfInBounds_toArray, List.set_cons_zero, List.set_cons_succ])
        refine takeT (i := 5) (v := ?vd5) rfl (by kernel_rfl) (by kernel_rfl) (by kernel_rfl) (fun _ _ _ h => h) (by rfl) (Below.refl _ _) ?hyd5 ?restd5
        case hyd5 => (intro W hSw; obtain ⟨y0, y1, y2⟩ := HK.out W (below_undrew hSw); go_simp; all_goals (with_reducible rfl))
        (try simp only [Act.put, List.setIfInBounds_toArray, List.set_cons_zero, List.set_cons_succ])
        refine takeT (i := 6) (v := ?vd6) rfl (by kernel_rfl) (by kernel_rfl) (by kernel_rfl) (fun _ _ _ h => h) (by rfl) (Below.refl _ _) ?hyd6 ?restd6
        case hyd6 => (intro W hSw; obtain ⟨y0, y1, y2⟩ := HK.out W (below_undrew hSw); go_simp; all_goals (with_reducible rfl))
        (try simp only [Act.put, List.setIfInBounds_toArray, List.set_cons_zero, List.set_cons_succ])
        refine takeT (i := 7) (v := ?vd7) rfl (by kernel_rfl) (by kernel_rfl) (by kernel_rfl) (fun _ _ _ h => h) (by rfl) (Below.refl _ _) ?hyd7 ?restd7
        case hyd7 => (intro W hSw; obtain ⟨y0, y1, y2⟩ := HK.out W (below_undrew hSw); go_simp; all_goals (with_reducible rfl))
        (try simp only [Act.put, List.setIfInBounds_toArray, List.set_cons_zero, List.set_cons_succ])
        refine skipT (i := 8) rfl (by kernel_rfl) (by kernel_rfl) (by kernel_rfl) (fun _ _ _ h => h) (by rfl) (Below.refl _ _) ?_
        (try simp only [Act.put, List.setIfInBounds_toArray, List.set_cons_zero, List.set_cons_succ])
        refine skipT (i := 9) rfl (by kernel_rfl) (by kernel_rfl) (by kernel_rfl) (fun _ _ _ h => h) (by rfl) (Below.refl _ _) ?_
        (try simp only [Act.put, List.setIfInBounds_toArray, List.set_cons_zero, List.set_cons_succ])
        refine skipT (i := 10) rfl (by kernel_rfl) (by kernel_rfl) (by kernel_rfl) (fun _ _ _ h => h) (by rfl) (Below.refl _ _) ?_
        (try simp only [Act.put, List.setIfInBounds_toArray, List.set_cons_zero, List.set_cons_succ])
        refine skipT (i := 11) rfl (by kernel_rfl) (by kernel_rfl) (by kernel_rfl) (fun _ _ _ h => h) (by rfl) (Below.refl _ _) ?_
        (try simp only [Act.put, List.setIfInBounds_toArray, List.set_cons_zero, List.set_cons_succ])
        refine skipT (i := 12) rfl (by kernel_rfl) (by kernel_rfl) (by kernel_rfl) (fun _ _ _ h => h) (by rfl) (Below.refl _ _) ?_
        (try simp only [Act.put, List.setIfInBounds_toArray, List.set_cons_zero, List.set_cons_succ])
        refine skipT (i := 13) rfl (by kernel_rfl) (by kernel_rfl) (by kernel_rfl) (fun _ _ _ h => h) (by rfl) (Below.refl _ _) ?_
        (try simp only [Act.put, List.setIfInBounds_toArray, List.set_cons_zero, List.set_cons_succ])
        refine skipT (i := 14) rfl (by kernel_rfl) (by kernel_rfl) (by kernel_rfl) (fun _ _ _ h => h) (by rfl) (Below.refl _ _) ?_
        (try simp only [Act.put, List.setIfInBounds_toArray, List.set_cons_zero, List.set_cons_succ])
        refine skipT (i := 15) rfl (by kernel_rfl) (by kernel_rfl) (by kernel_rfl) (fun _ _ _ h => h) (by rfl) (Below.refl _ _) ?_
        (try simp only [Act.put, List.setIfInBounds_toArray, List.set_cons_zero, List.set_cons_succ])
        refine skipT (i := 16) rfl (by kernel_rfl) (by kernel_rfl) (by kernel_rfl) (fun _ _ _ h => h) (by rfl) (Below.refl _ _) ?_
        (try simp only [Act.put, List.setIfInBounds_toArray, List.set_cons_zero, List.set_cons_succ])
        refine skipT (i := 17) rfl (by kernel_rfl) (by kernel_rfl) (by kernel_rfl) (fun _ _ _ h => h) (by rfl) (Below.refl _ _) ?_
        (try simp only [Act.put, List.setIfInBounds_toArray, List.set_cons_zero, List.set_cons_succ])
        refine skipT (i := 18) rfl (by kernel_rfl) (by kernel_rfl) (by kernel_rfl) (fun _ _ _ h => h) (by rfl) (Below.refl _ _) ?_
        (try simp only [Act.put, List.setIfInBounds_toArray, List.set_cons_zero, List.set_cons_succ])
        refine skipT (i := 19) rfl (by kernel_rfl) (by kernel_rfl) (by kernel_rfl) (fun _ _ _ h => h) (by rfl) (Below.refl _ _) ?_
        (try simp only [Act.put, List.setIfInBounds_toArray, List.set_cons_zero, List.set_cons_succ])
        refine skipT (i := 20) rfl (by kernel_rfl) (by kernel_rfl) (by kernel_rfl) (fun _ _ _ h => h) (by rfl) (Below.refl _ _) ?_
        (try simp only [Act.put, List.setIfInBounds_toArray, List.set_cons_zero, List.set_cons_succ])
        refine skipT (i := 21) rfl (by kernel_rfl) (by kernel_rfl) (by kernel_rfl) (fun _ _ _ h => h) (by rfl) (Below.refl _ _) ?_
        (try simp only [Act.put, List.setIfInBounds_toArray, List.set_cons_zero, List.set_cons_succ])
        refine skipT (i := 22) rfl (by kernel_rfl) (by kernel_rfl) (by kernel_rfl) (fun _ _ _ h => h) (by rfl) (Below.refl _ _) ?_
        (try simp only [Act.put, List.setIfInBounds_toArray, List.set_cons_zero, List.set_cons_succ])
        refine takeT (i := 23) (v := ?vd23) rfl (by kernel_rfl) (by kernel_rfl) (by kernel_rfl) (fun _ _ _ h => h) (by rfl) (Below.refl _ _) ?hyd23 ?restd23
        case hyd23 => (intro W hSw; obtain ⟨y0, y1, y2⟩ := HK.out W (below_undrew hSw); go_simp; all_goals (with_reducible rfl))
        (try simp only [Act.put, List.setIfInBounds_toArray, List.set_cons_zero, List.set_cons_succ])
        refine wpAnyH_done (by kernel_rfl) ?_ _
        go_wp2
        go_roundw
        case rel => exact ⟨k + 1, v, by omega, by go_num, rfl, best_skip HBe.out (.inl (by rw [HYd.out]; omega)), HBa.out.drew⟩
        case measure => simp [intOf]; omega
    · have hkn : k = n := by omega
      subst hkn
      have HRr := hide (HR1.out.keep HB.out)
      have HXr := hide (HX1.out.keep HB.out)
      have HBw := hide (HB1.out.trans (HB.out.mono (by omega)))
      have hRx : ∀ j, w.heap.size ≤ j → ¬ XB q kv (.slice a4 k d4) j := fun j hj hx => by have := (H.out.lt hx).2; omega
      rcases HBe.out.lt with hv | ⟨kk, hv, hkk⟩
      · subst hv
        go_wp2_with (first
          | (refine wp_storeG _ rfl (.tmp 2) (.tmp 46) rfl w.heap.size 0 msg0 rfl rfl HRr.out.there ?_; intro w7 hS7; have HS7 := hide hS7; have HR7 := hide (HRr.out.stored hS7); clear hS7))
        obtain ⟨r0, r1, r2, r3, r4, r5, r6, r7, r8, r9, r10, r11, r12, r13⟩ := HR7.out.x
        refine bodyPost_ret (v := .tuple #[.agg #[.int .i64 msg0.k, .int .u64 msg0.fr, .int .u64 msg0.tt, .int .u64 msg0.tm, .int .u64 msg0.ix, .int .u64 msg0.lt, .int .u64 msg0.cm, .int .u64 msg0.hn, .bool msg0.rj, .slice msg0.ea msg0.en msg0.ec, .int .u64 msg0.si, .int .u64 msg0.st, .slice msg0.ma msg0.mn msg0.mc, .slice msg0.sa msg0.sn msg0.sc], .bool false]) (by simp [results, Try.results12, go_sem, r0, r1, r2, r3, r4, r5, r6, r7, r8, r9, r10, r11, r12, r13]) rfl ?_
        refine .inl ⟨by rw [HN.out]; exact HBe.out, rfl, kv, .slice a4 k d4, HXr.out.lies HS7.out.kp (fun j e hx => hRx j (by omega) hx), kpThen (Below.keeps HBw.out _) (fun j e => .inr (by omega)) HS7.out.kp, fun j hj => .inl hj⟩
      · subst hv
        obtain ⟨g, off, hga, hg, hc, -⟩ := (HN.out ▸ HS.out : Seg w 15 (.slice a4 k d4) k (cellsW L)).at (by omega)
        subst hga
        have hkl : kk < L.length := by rw [HN.out]; exact hkk
        have HCm := hide ((range_msg (segW_at hc kk hkl)).1.same (HBw.out.block g hg))
        have HSr : Hid (Seg wr 15 (.slice (some ⟨g, off, none⟩) k d4) k (cellsW L)) := by show Seg wr 15 _ _ _; exact (HN.out ▸ HS.out : Seg w 15 (.slice (some ⟨g, off, none⟩) k d4) k (cellsW L)).keep HBw.out
        obtain ⟨hcutA, hsegA, sb, mb, db, hcutB, hmb, hsrcB⟩ := cut_two HSr.out HN.out kk hkk
        have HSA := hide hsegA
        have HMb := hide hmb
        have HSB := hide hsrcB
        have c4r := (HB.out.cell (p := ⟨q, 4, none⟩) hq1).trans c41
        have f4r := HXr.out.fz 4
        have hkI : (kk : Int) < (k : Int) := by omega
        have hk0 : (0 : Int) ≤ (kk : Int) := by omega
        have hk00 : ¬ (kk : Int) < 0 := by omega
        have hk1 : (kk : Int) + 1 ≤ 9223372036854775807 := by omega
        have hw1 : IntKind.i64.wrap ((kk : Int) + 1) = (kk : Int) + 1 := kwI _ (by omega) (by omega)
        have hqr : ¬ wr.heap.size = q := by omega
        have hqr2 : ¬ q = wr.heap.size := by omega
        have hqrl : q < wr.heap.size := by omega
        have hgq : ¬ g = q := fun e => (H.out.wb g rfl).2 e
        have hgq2 : ¬ q = g := fun e => hgq e.symm
        obtain ⟨m, hm⟩ : ∃ m, (L.getD kk fly0).1 = m := ⟨_, rfl⟩
        rw [hm] at HCm
        have HMm := hide hm
        have HXm := hide (boxG_new wr m wr.heap.size 39 rfl)
        clear hc hsegA hmb hsrcB hm
        go_wp2_with (first
          | (refine wp_loadG _ rfl (.tmp 53) rfl g (off + kk * 15) m rfl HCm.out ?_)
          | (refine wp_storeN wr rfl (.tmp 7) (.tmp 54) rfl wr.heap.size rfl m rfl rfl ?_))
        go_region_law (first
          | (refine step_segFull _ (by rfl) (.tmp 62) (.tmp 69) (by rfl) g off kk (L.take kk) (by rfl) (HSA.out.keep (by repeat (first | exact Below.refl _ _ | refine belA ?_ _ | refine Below.drew ?_))) (by rw [List.length_take, HN.out]; omega) sb mb db (L.drop (kk + 1)) (by rfl) HMb.out (by rcases HSB.out with h1 | ⟨ad, h1, h2⟩; exact .inl h1; (refine .inr ⟨ad, h1, fun j u hu => ?_⟩; have h3 := h2 j u hu; exact (Below.cell (B := wr.heap.size) (w := wr) (by repeat (first | exact Below.refl _ _ | refine belA ?_ _ | refine Below.drew ?_)) (World.block_lt_of_cell? _ _ h3)).trans h3)) (by rw [List.length_take, List.length_drop]; omega) ?_; intro v5 w5 hs5 hk5 hat5; obtain ⟨a5, n5, d5, rfl⟩ := hs5.any; have HP := hide (pushX (w := wr) (by repeat (first | exact Below.refl _ _ | refine belA ?_ _ | refine Below.drew ?_)) ((HXr.out.keep (by repeat (first | exact Below.refl _ _ | refine belA ?_ _ | refine Below.drew ?_))).putW (by have := HBw.out.size; simp; omega) (keepsOwn hk5) _ _ hs5 hat5)); have HX5 := hide ((HXm.out.keep (w' := _) (by repeat (first | exact Below.refl _ _ | refine belA ?_ _ | refine Below.drew ?_))).lies hk5 (by show ¬ wr.heap.size = g; omega)); have HR5 := hide ((HRr.out.keep (w' := _) (by repeat (first | exact Below.refl _ _ | refine belA ?_ _ | refine Below.drew ?_))).lies hk5 (by show ¬ w.heap.size = g; omega)); have HX6 := hide (HX5.out.lies (keeps_cell (g := q) (i := 4) (.slice a5 n5 d5)) (by show ¬ wr.heap.size = q; omega)); have HR6 := hide (HR5.out.lies (keeps_cell (g := q) (i := 4) (.slice a5 n5 d5)) (by show ¬ w.heap.size = q; omega)); have e5 := (show w5.heap[q]? = wr.heap[q]? from (hk5.block q (by simp; omega) hgq2).trans (Below.block (B := wr.heap.size) (by repeat (first | exact Below.refl _ _ | refine belA ?_ _ | refine Below.drew ?_)) q hqrl)); have c45 := (World.cell?_of_block (a := ⟨q, 4, none⟩) e5).trans c4r; have f45 := (World.frozen?_of_block (a := ⟨q, 4, none⟩) e5).trans f4r; clear hs5 hk5 hat5 e5))
        all_goals
          go_wp2_with (first
            | (refine wp_loadG _ rfl (.tmp 7) rfl wr.heap.size 0 m rfl HX6.out.c ?_)
            | (refine wp_storeG _ rfl (.tmp 2) (.tmp 73) rfl w.heap.size 0 m rfl rfl HR6.out.there ?_; intro w7 hS7; have HS7 := hide hS7; have HR7 := hide (HR6.out.stored hS7); clear hS7))
          obtain ⟨r0, r1, r2, r3, r4, r5, r6, r7, r8, r9, r10, r11, r12, r13⟩ := HR7.out.x
          refine bodyPost_ret (v := .tuple #[.agg #[.int .i64 m.k, .int .u64 m.fr, .int .u64 m.tt, .int .u64 m.tm, .int .u64 m.ix, .int .u64 m.lt, .int .u64 m.cm, .int .u64 m.hn, .bool m.rj, .slice m.ea m.en m.ec, .int .u64 m.si, .int .u64 m.st, .slice m.ma m.mn m.mc, .slice m.sa m.sn m.sc], .bool true]) (by simp [results, Try.results12, go_sem, r0, r1, r2, r3, r4, r5, r6, r7, r8, r9, r10, r11, r12, r13]) rfl ?_
          obtain ⟨kv6, wv6, hm6, hk6, hs6⟩ := HP.out
          have hmm := HMm.out
          subst hmm
          refine .inr ⟨kk, hkl, by rw [HN.out]; exact HBe.out, rfl, kv6, wv6, ?_, ?_, ?_⟩
          · rw [erase_take]
            refine hm6.lies HS7.out.kp (fun j e hx => ?_)
            rcases hs6 j hx with h1 | h1
            · exact hRx j (by omega) h1
            · omega
          · exact kpThen (kpThen (Below.keeps HBw.out _) (fun j hj => .inl hj) hk6) (fun j e => .inr (by omega)) HS7.out.kp
          · intro j hj
            exact (hs6 j hj).imp id (fun h1 => by omega)

end Go.Proofs.Ytodmieehdleohaa
