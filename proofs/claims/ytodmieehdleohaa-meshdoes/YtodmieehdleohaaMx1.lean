/- The reference's mesh in memory: what it is; isCut, Tick, Waiting. -/
import Derived.Test.YtodmieehdleohaaMs8
import Derived.ChangeKeysEq
namespace Go.Proofs.Ytodmieehdleohaa
open Go.RowKit NumMath Go.ChangeShapes Go.WideShapes Go.Deep
set_option linter.unusedVariables false
set_option maxRecDepth 100000

def cellsK (K : List (Int × Int)) : List Value := K.flatMap (fun f => [.int .u64 f.1, .int .u64 f.2])

theorem cellsK_len (K : List (Int × Int)) : (cellsK K).length = K.length * 2 := flat_len (f := fun f : Int × Int => [Value.int .u64 f.1, .int .u64 f.2]) (n := 2) (fun _ => rfl) K

theorem cellsK_one (F : List (Int × Int)) : ∀ u ∈ cellsK F, u.oneCell' = true := by
  intro u hu
  obtain ⟨f, _, h⟩ := List.mem_flatMap.1 hu
  simp at h
  rcases h with rfl | rfl <;> rfl

def flyV (x : MMsg × Int) : List Value := x.1.vals ++ [.int .i64 x.2]
def cellsW (L : List (MMsg × Int)) : List Value := L.flatMap flyV

theorem flyV_len (x : MMsg × Int) : (flyV x).length = 15 := by simp [flyV, vals_len]
theorem cellsW_len (L : List (MMsg × Int)) : (cellsW L).length = L.length * 15 := flat_len flyV_len L

theorem cellsW_one (L : List (MMsg × Int)) : ∀ u ∈ cellsW L, u.oneCell' = true := by
  intro u hu
  obtain ⟨x, _, h⟩ := List.mem_flatMap.1 hu
  rcases List.mem_append.1 h with h | h
  · exact vals_one _ _ h
  · simp at h; subst h; rfl

/-- the reference's own blocks -/
def XB (q : Nat) (kv wv : Value) (k : Nat) : Prop := k = q ∨ kv.ownBlock = some k ∨ wv.ownBlock = some k

/-- the reference's mesh at q -/
structure IsX (w : World) (base q : Nat) (fa : Option Addr) (fl fc : Nat) (s now : Nat) (kv wv : Value) (K : List (Int × Int)) (L : List (MMsg × Int)) : Prop where
  c0 : w.cell? ⟨q, 0, none⟩ = some (.slice fa fl fc)
  c1 : w.cell? ⟨q, 1, none⟩ = some (.int .i64 (s : Int))
  c2 : w.cell? ⟨q, 2, none⟩ = some (.int .i64 (now : Int))
  c3 : w.cell? ⟨q, 3, none⟩ = some kv
  c4 : w.cell? ⟨q, 4, none⟩ = some wv
  fz : ∀ i, w.frozen? ⟨q, i, none⟩ = false
  qb : base ≤ q ∧ q < w.heap.size
  ks : Seg w 2 kv K.length (cellsK K)
  ws : Seg w 15 wv L.length (cellsW L)
  kb : ∀ b, kv.ownBlock = some b → base ≤ b ∧ b ≠ q
  wb : ∀ b, wv.ownBlock = some b → base ≤ b ∧ b ≠ q
  kw : ∀ b, kv.ownBlock = some b → wv.ownBlock ≠ some b

theorem IsX.lt {w : World} {base q : Nat} {fa : Option Addr} {fl fc s now : Nat} {kv wv : Value} {K : List (Int × Int)} {L : List (MMsg × Int)} (h : IsX w base q fa fl fc s now kv wv K L) {k : Nat} (hk : XB q kv wv k) : base ≤ k ∧ k < w.heap.size := by
  rcases hk with rfl | hk | hk
  · exact h.qb
  · exact ⟨(h.kb k hk).1, h.ks.lt k hk⟩
  · exact ⟨(h.wb k hk).1, h.ws.lt k hk⟩

/-- other blocks changed -/
theorem IsX.lies {M : Nat → Prop} {w w' : World} {base q : Nat} {fa : Option Addr} {fl fc s now : Nat} {kv wv : Value} {K : List (Int × Int)} {L : List (MMsg × Int)} (h : IsX w base q fa fl fc s now kv wv K L) (hk : Keeps M w w') (ho : ∀ k, M k → ¬ XB q kv wv k) : IsX w' base q fa fl fc s now kv wv K L := by
  have e : ∀ k, XB q kv wv k → w'.heap[k]? = w.heap[k]? := fun k hx => hk.block k (h.lt hx).2 (fun hm => ho k hm hx)
  have eq := e q (.inl rfl)
  exact ⟨(World.cell?_of_block (a := ⟨q, 0, none⟩) eq).trans h.c0, (World.cell?_of_block (a := ⟨q, 1, none⟩) eq).trans h.c1, (World.cell?_of_block (a := ⟨q, 2, none⟩) eq).trans h.c2, (World.cell?_of_block (a := ⟨q, 3, none⟩) eq).trans h.c3, (World.cell?_of_block (a := ⟨q, 4, none⟩) eq).trans h.c4, fun i => (World.frozen?_of_block (a := ⟨q, i, none⟩) eq).trans (h.fz i), ⟨h.qb.1, Nat.lt_of_lt_of_le h.qb.2 hk.size⟩, h.ks.same (fun g hg => e g (.inr (.inl hg))), h.ws.same (fun g hg => e g (.inr (.inr hg))), h.kb, h.wb, h.kw⟩

theorem IsX.keep {w w' : World} {base q : Nat} {fa : Option Addr} {fl fc s now : Nat} {kv wv : Value} {K : List (Int × Int)} {L : List (MMsg × Int)} (h : IsX w base q fa fl fc s now kv wv K L) (hb : Below w.heap.size w w') : IsX w' base q fa fl fc s now kv wv K L :=
  h.lies (Below.keeps hb (fun _ => False)) (fun _ h => h.elim)

/-- what a call leaves of the reference -/
def XPost (w : World) (base q : Nat) (fa : Option Addr) (fl fc s now : Nat) (kv wv : Value) (K : List (Int × Int)) (L : List (MMsg × Int)) (w' : World) : Prop :=
  ∃ kv' wv', IsX w' base q fa fl fc s now kv' wv' K L ∧ Keeps (XB q kv wv) w w' ∧ ∀ k, XB q kv' wv' k → XB q kv wv k ∨ w.heap.size ≤ k

/-- a number of its own set -/
theorem IsX.set1 {w : World} {base q : Nat} {fa : Option Addr} {fl fc s now : Nat} {kv wv : Value} {K : List (Int × Int)} {L : List (MMsg × Int)} (h : IsX w base q fa fl fc s now kv wv K L) (s' : Nat) : IsX (w.setCell ⟨q, 1, none⟩ (.int .i64 (s' : Int))) base q fa fl fc s' now kv wv K L := by
  have e1 : ∀ k, k ≠ q → (w.setCell ⟨q, 1, none⟩ (.int .i64 (s' : Int))).heap[k]? = w.heap[k]? := fun k hne => Below.heap_setCell w _ _ k hne
  exact ⟨(cell_off (by decide)).trans h.c0, World.cell?_setCell_same _ _ _ h.c1, (cell_off (by decide)).trans h.c2, (cell_off (by decide)).trans h.c3, (cell_off (by decide)).trans h.c4, fun i => by simp; exact h.fz i, ⟨h.qb.1, by simp [World.setCell]; exact h.qb.2⟩, h.ks.same (fun g hg => e1 g (h.kb g hg).2), h.ws.same (fun g hg => e1 g (h.wb g hg).2), h.kb, h.wb, h.kw⟩

theorem IsX.set2 {w : World} {base q : Nat} {fa : Option Addr} {fl fc s now : Nat} {kv wv : Value} {K : List (Int × Int)} {L : List (MMsg × Int)} (h : IsX w base q fa fl fc s now kv wv K L) (n' : Nat) : IsX (w.setCell ⟨q, 2, none⟩ (.int .i64 (n' : Int))) base q fa fl fc s n' kv wv K L := by
  have e1 : ∀ k, k ≠ q → (w.setCell ⟨q, 2, none⟩ (.int .i64 (n' : Int))).heap[k]? = w.heap[k]? := fun k hne => Below.heap_setCell w _ _ k hne
  exact ⟨(cell_off (by decide)).trans h.c0, (cell_off (by decide)).trans h.c1, World.cell?_setCell_same _ _ _ h.c2, (cell_off (by decide)).trans h.c3, (cell_off (by decide)).trans h.c4, fun i => by simp; exact h.fz i, ⟨h.qb.1, by simp [World.setCell]; exact h.qb.2⟩, h.ks.same (fun g hg => e1 g (h.kb g hg).2), h.ws.same (fun g hg => e1 g (h.wb g hg).2), h.kb, h.wb, h.kw⟩

/-- the list of what waits set -/
theorem IsX.putW {w w' : World} {base q : Nat} {fa : Option Addr} {fl fc s now : Nat} {kv wv : Value} {K : List (Int × Int)} {L : List (MMsg × Int)} (h : IsX w base q fa fl fc s now kv wv K L) (hbase : base ≤ w.heap.size) (hk : Keeps (fun k => wv.ownBlock = some k) w w') (v' : Value) (L' : List (MMsg × Int)) (hs : Seg w' 15 v' L'.length (cellsW L')) (hat : AtB w wv v') :
    XPost w base q fa fl fc s now kv wv K L' (w'.setCell ⟨q, 4, none⟩ v') := by
  have hnew : ∀ k, v'.ownBlock = some k → wv.ownBlock = some k ∨ w.heap.size ≤ k := by
    intro k hk'
    rcases hat with h1 | ⟨g, h1, h3⟩
    · left; rw [← h1]; exact hk'
    · right; rw [hk'] at h1; cases h1; exact h3
  have hq : ¬ wv.ownBlock = some q := fun e => (h.wb q e).2 rfl
  have eq : w'.heap[q]? = w.heap[q]? := hk.block q h.qb.2 hq
  have hv : ∀ b, v'.ownBlock = some b → base ≤ b ∧ b ≠ q := by
    intro b hb
    rcases hnew b hb with h1 | h1
    · exact h.wb b h1
    · exact ⟨Nat.le_trans hbase h1, fun e => by have := h.qb.2; omega⟩
  have cq : ∀ i, w'.cell? ⟨q, i, none⟩ = w.cell? ⟨q, i, none⟩ := fun i => World.cell?_of_block (a := ⟨q, i, none⟩) eq
  have e1 : ∀ k, k ≠ q → (w'.setCell ⟨q, 4, none⟩ v').heap[k]? = w'.heap[k]? := fun k hne => Below.heap_setCell w' _ _ k hne
  have hsz : (w'.setCell ⟨q, 4, none⟩ v').heap.size = w'.heap.size := by simp [World.setCell]
  refine ⟨kv, v', ⟨(cell_off (by decide)).trans ((cq 0).trans h.c0), (cell_off (by decide)).trans ((cq 1).trans h.c1), (cell_off (by decide)).trans ((cq 2).trans h.c2), (cell_off (by decide)).trans ((cq 3).trans h.c3), World.cell?_setCell_same _ _ _ ((cq 4).trans h.c4), fun i => by simp; exact (World.frozen?_of_block (a := ⟨q, i, none⟩) eq).trans (h.fz i), ⟨h.qb.1, by rw [hsz]; exact Nat.lt_of_lt_of_le h.qb.2 hk.size⟩, ?_, hs.same (fun g hg => e1 g (hv g hg).2), h.kb, hv, ?_⟩, ?_, ?_⟩
  · exact h.ks.same (fun g hg => (e1 g (h.kb g hg).2).trans (hk.block g (h.ks.lt g hg) (fun e => h.kw g hg e)))
  · intro b hb e
    rcases hnew b e with h1 | h1
    · exact h.kw b hb h1
    · have := h.ks.lt b hb; omega
  · exact kpThen (X' := fun k => k = q) ⟨hk.os, hk.tape, hk.output, hk.size, fun k hk' hn => hk.block k hk' (fun e => hn (.inr (.inr e)))⟩ (fun k e => .inl (.inl e)) (keeps_cell v')
  · intro k hk'
    rcases hk' with h1 | h1 | h1
    · exact .inl (.inl h1)
    · exact .inl (.inr (.inl h1))
    · exact (hnew k h1).imp (fun h => .inr (.inr h)) id

/-- the list of who is cut off set anew -/
theorem IsX.putK {w : World} {base q : Nat} {fa : Option Addr} {fl fc s now : Nat} {kv wv : Value} {K : List (Int × Int)} {L : List (MMsg × Int)} (h : IsX w base q fa fl fc s now kv wv K L) (B : Nat) (hB : base ≤ B) (hq : q < B) (hw : ∀ b, wv.ownBlock = some b → b < B) (v' : Value) (K' : List (Int × Int)) (hs : Seg w 2 v' K'.length (cellsK K')) (hat : ∀ b, v'.ownBlock = some b → B ≤ b) :
    IsX (w.setCell ⟨q, 3, none⟩ v') base q fa fl fc s now v' wv K' L := by
  have e1 : ∀ k, k ≠ q → (w.setCell ⟨q, 3, none⟩ v').heap[k]? = w.heap[k]? := fun k hne => Below.heap_setCell w _ _ k hne
  exact ⟨(cell_off (by decide)).trans h.c0, (cell_off (by decide)).trans h.c1, (cell_off (by decide)).trans h.c2, World.cell?_setCell_same _ _ _ h.c3, (cell_off (by decide)).trans h.c4, fun i => by simp; exact h.fz i, ⟨h.qb.1, by simp [World.setCell]; exact h.qb.2⟩, hs.same (fun g hg => e1 g (by have := hat g hg; omega)), h.ws.same (fun g hg => e1 g (h.wb g hg).2), fun b hb => ⟨Nat.le_trans hB (hat b hb), by have := hat b hb; omega⟩, h.wb, fun b hb e => by have := hat b hb; have := hw b e; omega⟩

theorem run_eqIn2 (w : World) (a b c d : Int) : (Op.equalIn 10000 66 (.agg #[.int .u64 a, .int .u64 b]) (.agg #[.int .u64 c, .int .u64 d])).run Try.prog w = .ok (a == c && b == d) w := by
  obtain ⟨i0, hi, _, hz1, _⟩ := info_parts infoU64
  rw [run_equalIn_array w 9999 _ _ Try.underlying66 hi]
  have hc : Try.prog.cellsOf 32 = 1 := by kernel_rfl
  have hp0 : ∀ (x y : Value) W, (part 32 #[x, y] 0).run Try.prog W = .ok x W := fun x y W => rfl
  have hp1 : ∀ (x y : Value) W, (part 32 #[x, y] 1).run Try.prog W = .ok y W := fun x y W => rfl
  have hq : ∀ (x y : Int) W, (Op.equalIn 9999 32 (.int .u64 x) (.int .u64 y)).run Try.prog W = .ok (x == y) W := fun x y W => run_equalIn_int W 9998 32 .u64 .u64 x y Try.underlying32
  rw [hc, show List.range 2 = [0, 1] from rfl]
  simp only [Op.eqItems, Sem.run_bind, Nat.zero_mul, Nat.one_mul, hp0, hq, Result.andThen_ok]
  cases h1 : (a == c)
  · simp
  · cases h2 : (b == d) <;> simp [hp1, hq, h2]

theorem run_eq2 (w : World) (a b c d : Int) : (binOp .eql 66 (.agg #[.int .u64 a, .int .u64 b]) (.agg #[.int .u64 c, .int .u64 d])).run Try.prog w = .ok (.bool (a == c && b == d)) w := by
  rw [run_eql_struct, run_eqIn2]
  rfl

theorem run_ne2 (w : World) (a b c d : Int) : (binOp .neq 66 (.agg #[.int .u64 a, .int .u64 b]) (.agg #[.int .u64 c, .int .u64 d])).run Try.prog w = .ok (.bool (!(a == c && b == d))) w := by
  simp only [binOp]
  simp [Op.equal, Op.maxDepth, run_eqIn2]

def isCutK (K : List (Int × Int)) (x y : Int) : Bool := K.any (fun p => p == (x, y) || p == (y, x))

theorem seg_pair {w : World} {g off : Nat} {K : List (Int × Int)} (h : ∀ j u, (cellsK K)[j]? = some u → w.cell? ⟨g, off + j, none⟩ = some u) (k : Nat) (hk : k < K.length) : w.cell? ⟨g, off + k * 2, none⟩ = some (.int .u64 (K.getD k (0, 0)).1) ∧ w.cell? ⟨g, off + k * 2 + 1, none⟩ = some (.int .u64 (K.getD k (0, 0)).2) := by
  have e := fun j => flat_nth (f := fun f : Int × Int => [Value.int .u64 f.1, .int .u64 f.2]) (n := 2) (fun _ => rfl) (0, 0) K k j hk
  refine ⟨h (k * 2) _ ?_, ?_⟩
  · have := e 0 (by decide); simpa [cellsK] using this
  · have := h (k * 2 + 1) _ (by have := e 1 (by decide); simpa [cellsK] using this)
    rw [← Nat.add_assoc] at this
    exact this

theorem any_take {α : Type} (l : List α) (f : α → Bool) (d : α) (k : Nat) (hk : k < l.length) : (l.take (k + 1)).any f = ((l.take k).any f || f (l.getD k d)) := by
  rw [List.take_add_one, List.any_append]
  simp [List.getD, List.getElem?_eq_getElem hk]

set_option maxHeartbeats 4000000 in
theorem isCut_any (base q : Nat) (fa : Option Addr) (fl fc s now : Nat) (kv wv : Value) (K : List (Int × Int)) (L : List (MMsg × Int)) (x y : Int) (w : World) (h : IsX w base q fa fl fc s now kv wv K L) :
    Calls Try.prog 26 #[.pointer (some ⟨q, 0, none⟩), .int .u64 x, .int .u64 y] w fun e w' => e = .returned (.bool (isCutK K x y)) ∧ Below w.heap.size w w' := by
  have c3 := h.c3
  have hS := h.ks
  obtain ⟨a3, d3, rfl, hd, hdm⟩ := hS.form
  have hql := h.qb.2
  have HS := hide hS
  have hmx : (K.length : Int) ≤ 9223372036854775807 := by unfold maxLen at hdm; omega
  obtain ⟨n, hn⟩ : ∃ n, K.length = n := ⟨_, rfl⟩
  rw [hn] at c3 hmx
  have HN := hide hn
  clear h hS hd hdm hn
  go_enter Try.func26, Try.ntmps26
  go_wp2
  go_loopw [14] (fun i wr => ∃ k : Nat, k ≤ n ∧ i = .int .i64 k ∧ (K.take k).any (fun p => p == (x, y) || p == (y, x)) = false ∧ Below w.heap.size w wr) (fun i _ => n - (intOf i).toNat)
  case atStart => exact ⟨0, Nat.zero_le _, rfl, rfl, Below.refl _ _⟩
  case round =>
    obtain ⟨k, hk, rfl, hA, hb⟩ := hrel
    have HA := hide hA
    have HB := hide hb
    clear hA hb
    by_cases hlt : k < n
    · have hkl : k < K.length := by rw [HN.out]; exact hlt
      obtain ⟨g, off, rfl, hg, hc, _⟩ := (HN.out ▸ HS.out : Seg w 2 (.slice a3 n d3) n (cellsK K)).at (by omega)
      obtain ⟨p0, p1⟩ := seg_pair hc k hkl
      have p0 := (HB.out.cell (p := ⟨g, off + k * 2, none⟩) hg).trans p0
      have p1 := (HB.out.cell (p := ⟨g, off + k * 2 + 1, none⟩) hg).trans p1
      have HT := hide (any_take K (fun p => p == (x, y) || p == (y, x)) (0, 0) k hkl)
      clear hc
      generalize K.getD k (0, 0) = u at *
      obtain ⟨u0, u1⟩ := u
      dsimp only at p0 p1
      have he := run_eq2
      obtain ⟨b1, hb1⟩ : ∃ b, (u0 == x && u1 == y) = b := ⟨_, rfl⟩
      obtain ⟨b2, hb2⟩ : ∃ b, (u0 == y && u1 == x) = b := ⟨_, rfl⟩
      have he1 : ∀ W, (binOp .eql 66 (.agg #[.int .u64 u0, .int .u64 u1]) (.agg #[.int .u64 x, .int .u64 y])).run Try.prog W = .ok (.bool b1) W := fun W => by rw [run_eq2, hb1]
      have he2 : ∀ W, (binOp .eql 66 (.agg #[.int .u64 u0, .int .u64 u1]) (.agg #[.int .u64 y, .int .u64 x])).run Try.prog W = .ok (.bool b2) W := fun W => by rw [run_eq2, hb2]
      have HF : Hid (((u0, u1) == (x, y) || (u0, u1) == (y, x)) = (b1 || b2)) := by show (_ = _); rw [← hb1, ← hb2]; rfl
      clear hb1 hb2 he
      have HIn : Hid ((b1 || b2) = true → isCutK K x y = true) := fun h => by
        have h1 := HT.out
        rw [HF.out, h, Bool.or_true] at h1
        unfold isCutK
        rw [List.any_eq_true] at h1 ⊢
        obtain ⟨v, hv, hv2⟩ := h1
        exact ⟨v, List.mem_of_mem_take hv, hv2⟩
      cases b1
      · cases b2
        · go_wp2
          go_roundw
          case rel => exact ⟨k + 1, by omega, by go_num, by rw [HT.out, HA.out, HF.out]; rfl, HB.out.alloc HB.out.size _⟩
          case measure => simp [intOf]; omega
        · go_wp2
          go_ret
          exact ⟨by rw [HIn.out rfl]; rfl, HB.out.alloc HB.out.size _⟩
      · go_wp2
        go_ret
        exact ⟨by rw [HIn.out rfl]; rfl, HB.out.alloc HB.out.size _⟩
    · have hkn : k = n := by omega
      subst hkn
      go_wp2
      go_ret
      refine ⟨?_, HB.out⟩
      have := HA.out
      rw [List.take_of_length_le (by rw [HN.out]; exact Nat.le_refl _)] at this
      unfold isCutK
      rw [this]
      rfl

theorem xtick_any (base q : Nat) (fa : Option Addr) (fl fc s now : Nat) (kv wv : Value) (K : List (Int × Int)) (L : List (MMsg × Int)) (w : World) (h : IsX w base q fa fl fc s now kv wv K L) (hn : now ≤ 1000000) :
    Calls Try.prog 15 #[.pointer (some ⟨q, 0, none⟩)] w fun e w' => e = .returned (.tuple #[]) ∧ XPost w base q fa fl fc s (now + 1) kv wv K L w' := by
  have H := hide h
  have c2 := h.c2
  have f2 := h.fz 2
  clear h
  go_enter Try.func15, Try.ntmps15
  go_wp2
  go_end0
  refine ⟨rfl, kv, wv, ?_, ?_, fun k hk => .inl hk⟩
  · have := H.out.set2 (now + 1)
    simpa using this
  · have := keeps_cell (w := w) (g := q) (i := 2) (.int .i64 ((now : Int) + 1))
    exact ⟨this.os, this.tape, this.output, this.size, fun k hk hn => this.block k hk (fun e => hn (.inl e))⟩

theorem xwait_any (base q : Nat) (fa : Option Addr) (fl fc s now : Nat) (kv wv : Value) (K : List (Int × Int)) (L : List (MMsg × Int)) (w : World) (h : IsX w base q fa fl fc s now kv wv K L) :
    Calls Try.prog 19 #[.pointer (some ⟨q, 0, none⟩)] w fun e w' => e = .returned (.int .i64 (L.length : Nat)) ∧ w' = w := by
  have c4 := h.c4
  obtain ⟨a4, d4, rfl, _⟩ := h.ws.form
  clear h
  go_enter Try.func19, Try.ntmps19
  go_wp2
  go_ret
  exact ⟨rfl, rfl⟩

end Go.Proofs.Ytodmieehdleohaa
