/- A node in memory: what it is, and that it stays so. A node in memory: its outbox; made, send, follow, rest. -/
import Derived.Test.YtodmieehdleohaaGreatRlA
import Derived.Maps.OwnSet
import Derived.Maps.OwnOps
import Derived.Deep.RegionLaw
namespace Go.Proofs.YtodmieehdleohaaGreat
open Go.RowKit NumMath
set_option linter.unusedVariables false
set_option maxRecDepth 100000

/-- a node as plain values (hv, hg: whether the votes, the members' places were ever made) -/
structure Nd where
  id : Int
  term : Int
  vote : Int
  role : Int
  leader : Int
  ticks : Int
  commit : Int
  given : Int
  told : Int
  toldv : Int
  fresh : Bool
  restored : Bool
  hv : Bool
  hg : Bool
  L : LogS

def Nd.cells (N : Nd) (q : Nat) (va ga : Option Nat) (out : Value) : List Value :=
  [.int .u64 N.id, .int .u64 N.term, .int .u64 N.vote, .pointer (some ⟨q, 0, none⟩), .int .i64 N.role, .int .u64 N.leader, .int .u64 N.ticks, .int .u64 N.commit, .int .u64 N.given, .map va, .map ga, out, .int .u64 N.told, .int .u64 N.toldv, .bool N.fresh, .bool N.restored]

open Classical in
/-- an element of the members' places -/
noncomputable def pairElem (v : Value) : Option (DataW Unit × List MemPlace) :=
  if ∃ a b : Int, v = .agg #[.int .u64 a, .int .u64 b] ∧ (0 ≤ a ∧ a ≤ 18446744073709551615) ∧ (0 ≤ b ∧ b ≤ 18446744073709551615) then some (.agg [], []) else none

theorem pairElem_mk {a b : Int} (ha : 0 ≤ a ∧ a ≤ 18446744073709551615) (hb : 0 ≤ b ∧ b ≤ 18446744073709551615) : pairElem (.agg #[.int .u64 a, .int .u64 b]) = some (.agg [], []) := by
  unfold pairElem
  exact if_pos ⟨a, b, rfl, ha, hb⟩

theorem pairElem_inv {v : Value} {z : DataW Unit × List MemPlace} (h : pairElem v = some z) : ∃ a b : Int, v = .agg #[.int .u64 a, .int .u64 b] ∧ (0 ≤ a ∧ a ≤ 18446744073709551615) ∧ (0 ≤ b ∧ b ≤ 18446744073709551615) := by
  unfold pairElem at h
  split at h
  · assumption
  · cases h

def MapU (w : World) (b z : Nat) : Prop := ∃ D, w.ownsMap (H := Unit) Tryz.prog 22 unitElem b z D
def MapP (w : World) (b z : Nat) : Prop := ∃ D, w.ownsMap (H := Unit) Tryz.prog 22 pairElem b z D
def OutR (w : World) (base z : Nat) (v : Value) : Prop := ∃ n cs, n ≤ z ∧ w.ownsRow base 49 14 v n cs

theorem mapU_same {w w' : World} {b z : Nat} (h : MapU w b z) (e : w'.heap[b]? = w.heap[b]?) : MapU w' b z := by
  obtain ⟨D, es, clock, hb, F, hs, hD⟩ := h
  exact ⟨D, es, clock, e.trans hb, F, hs, hD⟩

theorem mapP_same {w w' : World} {b z : Nat} (h : MapP w b z) (e : w'.heap[b]? = w.heap[b]?) : MapP w' b z := by
  obtain ⟨D, es, clock, hb, F, hs, hD⟩ := h
  exact ⟨D, es, clock, e.trans hb, F, hs, hD⟩

theorem mapU_mono {w : World} {b z z' : Nat} (h : MapU w b z) (hz : z ≤ z') : MapU w b z' := by
  obtain ⟨D, h⟩ := h
  exact ⟨D, h.mono hz⟩

theorem mapP_mono {w : World} {b z z' : Nat} (h : MapP w b z) (hz : z ≤ z') : MapP w b z' := by
  obtain ⟨D, h⟩ := h
  exact ⟨D, h.mono hz⟩

theorem outR_same {w w' : World} {base z : Nat} {v : Value} (h : OutR w base z v) (hb : ∀ g, v.ownBlock = some g → w'.heap[g]? = w.heap[g]?) : OutR w' base z v := by
  obtain ⟨n, cs, hn, hl, h⟩ := h
  refine ⟨n, cs, hn, hl, ?_⟩
  rcases h with h | ⟨g, cap, cur, rfl, hg, h1, h2⟩
  · exact .inl h
  · exact .inr ⟨g, cap, cur, rfl, hg, (hb g rfl).trans h1, h2⟩

theorem outR_mono {w : World} {base z z' : Nat} {v : Value} (h : OutR w base z v) (hz : z ≤ z') : OutR w base z' v := by
  obtain ⟨n, cs, hn, h⟩ := h
  exact ⟨n, cs, Nat.le_trans hn hz, h⟩

theorem mapU_lt {w : World} {b z : Nat} (h : MapU w b z) : b < w.heap.size := by
  obtain ⟨D, h⟩ := h
  exact h.lt

theorem mapP_lt {w : World} {b z : Nat} (h : MapP w b z) : b < w.heap.size := by
  obtain ⟨D, h⟩ := h
  exact h.lt

/-- the node at p whose log lies at q; X: its own blocks -/
structure IsN (X : Nat → Prop) (w : World) (base p z : Nat) (N : Nd) (q : Nat) (va ga : Option Nat) (out : Value) : Prop where
  cell : ∀ i, i < 16 → w.cell? ⟨p, i, none⟩ = (N.cells q va ga out)[i]?
  fz : ∀ i, w.frozen? ⟨p, i, none⟩ = false
  xp : X p
  rng : ∀ k, X k → base ≤ k ∧ k < w.heap.size
  log : IsL X w base q N.L
  off : ¬ SB 4 w q p
  hv : va.isSome = N.hv
  hg : ga.isSome = N.hg
  vm : ∀ b, va = some b → X b ∧ MapU w b z
  gm : ∀ b, ga = some b → X b ∧ MapP w b z
  ne : ∀ b, va = some b → ga ≠ some b
  om : OutR w base z out
  ox : ∀ k, out.ownBlock = some k → X k ∧ k ≠ p ∧ ¬ SB 4 w q k

/-- the node at p -/
def IsNd (X : Nat → Prop) (w : World) (base p z : Nat) (N : Nd) : Prop := ∃ q va ga out, IsN X w base p z N q va ga out

theorem IsN.any {X : Nat → Prop} {w : World} {base p z : Nat} {N : Nd} {q : Nat} {va ga : Option Nat} {out : Value} (h : IsN X w base p z N q va ga out) : IsNd X w base p z N := ⟨q, va, ga, out, h⟩

theorem map_cells_ne {w : World} {b p i : Nat} {v : Value} {es : Array MapEntry} {c : Nat} (hb : w.heap[b]? = some (.map es c)) (hp : w.cell? ⟨p, i, none⟩ = some v) : b ≠ p := by
  intro e
  subst e
  simp [World.cell?, hb] at hp

theorem IsN.pc {X : Nat → Prop} {w : World} {base p z : Nat} {N : Nd} {q : Nat} {va ga : Option Nat} {out : Value} (h : IsN X w base p z N q va ga out) : w.cell? ⟨p, 0, none⟩ = some (.int .u64 N.id) := h.cell 0 (by decide)

theorem IsN.at {X : Nat → Prop} {w : World} {base p z : Nat} {N : Nd} {q : Nat} {va ga : Option Nat} {out : Value} (h : IsN X w base p z N q va ga out) : base ≤ p ∧ p < w.heap.size := h.rng p h.xp

theorem IsN.vne {X : Nat → Prop} {w : World} {base p z : Nat} {N : Nd} {q : Nat} {va ga : Option Nat} {out : Value} (h : IsN X w base p z N q va ga out) {b : Nat} (hb : va = some b) : b ≠ p ∧ ¬ SB 4 w q b ∧ ∀ k, out.ownBlock = some k → k ≠ b := by
  obtain ⟨hx, D, es, c, hm, _⟩ := h.vm b hb
  refine ⟨map_cells_ne hm h.pc, ?_, ?_⟩
  · intro hs
    have hl := h.log
    rcases hs with rfl | ⟨v, hv, hk⟩
    · obtain ⟨_, _, _, _, _, _, _, _, _, _, c0, _⟩ := hl
      exact map_cells_ne hm c0 rfl
    · obtain ⟨ma, mn, mc, da, dn, dc, ea, en, ec, ms, c0, c1, c2, c3, c4, c5, c6, hf, hmm, hd, hr, _⟩ := hl
      rw [c4] at hv
      cases hv
      rcases hr.2 with ⟨h1, _⟩ | ⟨g, cap, cur, h1, _, h2, _⟩
      · rw [h1] at hk; cases hk
      · rw [h1] at hk
        cases hk
        rw [hm] at h2
        cases h2
  · intro k hk e
    subst e
    obtain ⟨n, cs, _, _, h2⟩ := h.om
    rcases h2 with ⟨h1, _⟩ | ⟨g, cap, cur, h1, _, h2, _⟩
    · rw [h1] at hk; cases hk
    · rw [h1] at hk
      cases hk
      rw [hm] at h2
      cases h2

theorem IsN.gne {X : Nat → Prop} {w : World} {base p z : Nat} {N : Nd} {q : Nat} {va ga : Option Nat} {out : Value} (h : IsN X w base p z N q va ga out) {b : Nat} (hb : ga = some b) : b ≠ p ∧ ¬ SB 4 w q b ∧ ∀ k, out.ownBlock = some k → k ≠ b := by
  obtain ⟨hx, D, es, c, hm, _⟩ := h.gm b hb
  refine ⟨map_cells_ne hm h.pc, ?_, ?_⟩
  · intro hs
    have hl := h.log
    rcases hs with rfl | ⟨v, hv, hk⟩
    · obtain ⟨_, _, _, _, _, _, _, _, _, _, c0, _⟩ := hl
      exact map_cells_ne hm c0 rfl
    · obtain ⟨ma, mn, mc, da, dn, dc, ea, en, ec, ms, c0, c1, c2, c3, c4, c5, c6, hf, hmm, hd, hr, _⟩ := hl
      rw [c4] at hv
      cases hv
      rcases hr.2 with ⟨h1, _⟩ | ⟨g, cap, cur, h1, _, h2, _⟩
      · rw [h1] at hk; cases hk
      · rw [h1] at hk
        cases hk
        rw [hm] at h2
        cases h2
  · intro k hk e
    subst e
    obtain ⟨n, cs, _, _, h2⟩ := h.om
    rcases h2 with ⟨h1, _⟩ | ⟨g, cap, cur, h1, _, h2, _⟩
    · rw [h1] at hk; cases hk
    · rw [h1] at hk
      cases hk
      rw [hm] at h2
      cases h2

/-- a world in which all old blocks are as they were -/
theorem IsN.keep {X : Nat → Prop} {w w' : World} {base p z : Nat} {N : Nd} {q : Nat} {va ga : Option Nat} {out : Value} (h : IsN X w base p z N q va ga out) (hb : Below w.heap.size w w') : IsN X w' base p z N q va ga out := by
  have e : ∀ k, k < w.heap.size → w'.heap[k]? = w.heap[k]? := fun k hk => hb.block k hk
  have hp := h.at.2
  refine ⟨fun i hi => (World.cell?_of_block (a := ⟨p, i, none⟩) (e p hp)).trans (h.cell i hi), fun i => (World.frozen?_of_block (a := ⟨p, i, none⟩) (e p hp)).trans (h.fz i), h.xp, fun k hk => ⟨(h.rng k hk).1, Nat.lt_of_lt_of_le (h.rng k hk).2 hb.size⟩, h.log.keep hb, ?_, h.hv, h.hg, ?_, ?_, h.ne, ?_, ?_⟩
  · intro hs
    exact h.off (hs.same (e q h.log.at))
  · intro b hb'
    have := h.vm b hb'
    exact ⟨this.1, mapU_same this.2 (e b (mapU_lt this.2))⟩
  · intro b hb'
    have := h.gm b hb'
    exact ⟨this.1, mapP_same this.2 (e b (mapP_lt this.2))⟩
  · exact outR_same h.om (fun g hg => e g ((h.rng g (h.ox g hg).1).2))
  · intro k hk
    have := h.ox k hk
    exact ⟨this.1, this.2.1, fun hs => this.2.2 (hs.same (e q h.log.at))⟩

theorem IsN.drew {X : Nat → Prop} {w : World} {base p z : Nat} {N : Nd} {q : Nat} {va ga : Option Nat} {out : Value} (h : IsN X w base p z N q va ga out) : IsN X w.drew base p z N q va ga out := h.keep (Below.refl _ _).drew

theorem IsN.mono {X : Nat → Prop} {w : World} {base p z z' : Nat} {N : Nd} {q : Nat} {va ga : Option Nat} {out : Value} (h : IsN X w base p z N q va ga out) (hz : z ≤ z') : IsN X w base p z' N q va ga out :=
  ⟨h.cell, h.fz, h.xp, h.rng, h.log, h.off, h.hv, h.hg, fun b hb => ⟨(h.vm b hb).1, mapU_mono (h.vm b hb).2 hz⟩, fun b hb => ⟨(h.gm b hb).1, mapP_mono (h.gm b hb).2 hz⟩, h.ne, outR_mono h.om hz, h.ox⟩

/-- one of the node's own cells set -/
theorem IsN.set {X : Nat → Prop} {w : World} {base p z : Nat} {N : Nd} {q : Nat} {va ga : Option Nat} {out : Value} (h : IsN X w base p z N q va ga out) (i : Nat) (v : Value) (N' : Nd) (hi : i < 16) (hs : (N.cells q va ga out).set i v = N'.cells q va ga out) (hL : N'.L = N.L) (hv : N'.hv = N.hv) (hg : N'.hg = N.hg) :
    IsN X (w.setCell ⟨p, i, none⟩ v) base p z N' q va ga out := by
  have hk : Keeps (fun k => k = p) w (w.setCell ⟨p, i, none⟩ v) := keeps_cell v
  have hp := h.at.2
  have hq : ∀ k, SB 4 w q k → k ≠ p := fun k hk e => h.off (e ▸ hk)
  have e : ∀ k, k ≠ p → (w.setCell ⟨p, i, none⟩ v).heap[k]? = w.heap[k]? := fun k hn => Below.heap_setCell w ⟨p, i, none⟩ v k hn
  have hsz : (w.setCell ⟨p, i, none⟩ v).heap.size = w.heap.size := by simp [World.setCell]
  refine ⟨?_, fun j => by simp [h.fz], h.xp, fun k hk => by rw [hsz]; exact h.rng k hk, ?_, ?_, h.hv.trans hv.symm, h.hg.trans hg.symm, ?_, ?_, h.ne, ?_, ?_⟩
  · intro j hj
    rw [← hs, List.getElem?_set]
    by_cases hij : i = j
    · subst hij
      rw [if_pos rfl, if_pos (by simp [Nd.cells]; omega)]
      have hc := h.cell i hi
      have : ∃ u, (N.cells q va ga out)[i]? = some u := ⟨_, List.getElem?_eq_getElem (by simp [Nd.cells]; omega)⟩
      obtain ⟨u, hu⟩ := this
      exact World.cell?_setCell_same _ _ _ (hc.trans hu)
    · rw [if_neg hij]
      exact (cell_set_off _ _ _ _ _ hij).trans (h.cell j hj)
  · rw [hL]
    exact h.log.lies hk (fun k e => e ▸ h.xp) (fun k hk e => hq k hk e)
  · intro hs
    exact h.off (hs.same (e q (hq q SB.at)))
  · intro b hb
    have := h.vm b hb
    exact ⟨this.1, mapU_same this.2 (e b (h.vne hb).1)⟩
  · intro b hb
    have := h.gm b hb
    exact ⟨this.1, mapP_same this.2 (e b (h.gne hb).1)⟩
  · exact outR_same h.om (fun g hg => e g (h.ox g hg).2.1)
  · intro k hk
    have := h.ox k hk
    exact ⟨this.1, this.2.1, fun hs => this.2.2 (hs.same (e q (hq q SB.at)))⟩

theorem keepsX_set {X : Nat → Prop} {w w' : World} {p i : Nat} {v : Value} (h : Keeps X w w') (hx : X p) : Keeps X w (w'.setCell ⟨p, i, none⟩ v) := h.thenSet hx v

/-- what a call leaves: the node at p again, its own blocks old ones of its own or new; all else is as it was -/
def NPost (X : Nat → Prop) (w : World) (base p z : Nat) (R : Nd → Prop) (w' : World) : Prop :=
  ∃ X' N', IsNd X' w' base p z N' ∧ R N' ∧ Keeps X w w' ∧ ∀ k, X' k → X k ∨ w.heap.size ≤ k

theorem Keeps.then {X X' : Nat → Prop} {w w1 w2 : World} (h : Keeps X w w1) (hx : ∀ k, X' k → X k ∨ w.heap.size ≤ k) (k : Keeps X' w1 w2) : Keeps X w w2 :=
  ⟨k.os.trans h.os, k.tape.trans h.tape, k.output.trans h.output, Nat.le_trans h.size k.size, fun i hi hn => (k.block i (Nat.lt_of_lt_of_le hi h.size) (fun hX => by rcases hx i hX with h1 | h1; exact hn h1; omega)).trans (h.block i hi hn)⟩

theorem NPost.then {X X1 : Nat → Prop} {w w1 w2 : World} {base p z : Nat} {R : Nd → Prop} (hk : Keeps X w w1) (hx : ∀ k, X1 k → X k ∨ w.heap.size ≤ k) (h : NPost X1 w1 base p z R w2) : NPost X w base p z R w2 := by
  obtain ⟨X', N', hN, hR, hk', hx'⟩ := h
  refine ⟨X', N', hN, hR, hk.then hx hk', fun k hk2 => ?_⟩
  rcases hx' k hk2 with h1 | h1
  · exact hx k h1
  · exact .inr (Nat.le_trans hk.size h1)

theorem NPost.ahead {X : Nat → Prop} {w w1 w2 : World} {base p z : Nat} {R : Nd → Prop} (hb : Below w.heap.size w w1) (h : NPost X w1 base p z R w2) : NPost X w base p z R w2 :=
  NPost.then (Below.keeps hb X) (fun k hk => .inl hk) h

theorem NPost.behind {X : Nat → Prop} {w w1 w2 : World} {base p z : Nat} {R : Nd → Prop} (h : NPost X w base p z R w1) (hb : Below w1.heap.size w1 w2) : NPost X w base p z R w2 := by
  obtain ⟨X', N', ⟨q, va, ga, out, hN⟩, hR, hk, hx⟩ := h
  exact ⟨X', N', (hN.keep hb).any, hR, hk.thenBelow hb, hx⟩

theorem NPost.imp {X : Nat → Prop} {w w1 : World} {base p z z' : Nat} {R R' : Nd → Prop} (h : NPost X w base p z R w1) (hz : z ≤ z') (hR : ∀ N, R N → R' N) : NPost X w base p z' R' w1 := by
  obtain ⟨X', N', ⟨q, va, ga, out, hN⟩, h2, hk, hx⟩ := h
  exact ⟨X', N', (hN.mono hz).any, hR _ h2, hk, hx⟩

theorem NPost.of {X : Nat → Prop} {w w1 : World} {base p z : Nat} {R : Nd → Prop} {N' : Nd} (h : IsNd X w1 base p z N') (hR : R N') (hk : Keeps X w w1) : NPost X w base p z R w1 := ⟨X, N', h, hR, hk, fun _ h => .inl h⟩

theorem IsNd.keep {X : Nat → Prop} {w w' : World} {base p z : Nat} {N : Nd} (h : IsNd X w base p z N) (hb : Below w.heap.size w w') : IsNd X w' base p z N := by
  obtain ⟨q, va, ga, out, h⟩ := h
  exact (h.keep hb).any

theorem IsNd.mono {X : Nat → Prop} {w : World} {base p z z' : Nat} {N : Nd} (h : IsNd X w base p z N) (hz : z ≤ z') : IsNd X w base p z' N := by
  obtain ⟨q, va, ga, out, h⟩ := h
  exact (h.mono hz).any

theorem IsNd.set {X : Nat → Prop} {w : World} {base p z : Nat} {N : Nd} (h : IsNd X w base p z N) (i : Nat) (v : Value) (N' : Nd) (hi : i < 16) (hs : ∀ q va ga out, (N.cells q va ga out).set i v = N'.cells q va ga out) (hL : N'.L = N.L) (hv : N'.hv = N.hv) (hg : N'.hg = N.hg) : IsNd X (w.setCell ⟨p, i, none⟩ v) base p z N' := by
  obtain ⟨q, va, ga, out, h⟩ := h
  exact (h.set i v N' hi (hs q va ga out) hL hv hg).any

theorem IsNd.xp {X : Nat → Prop} {w : World} {base p z : Nat} {N : Nd} (h : IsNd X w base p z N) : X p := by
  obtain ⟨q, va, ga, out, h⟩ := h
  exact h.xp

theorem IsNd.at {X : Nat → Prop} {w : World} {base p z : Nat} {N : Nd} (h : IsNd X w base p z N) : base ≤ p ∧ p < w.heap.size := by
  obtain ⟨q, va, ga, out, h⟩ := h
  exact h.at

theorem IsNd.rng {X : Nat → Prop} {w : World} {base p z : Nat} {N : Nd} (h : IsNd X w base p z N) : ∀ k, X k → base ≤ k ∧ k < w.heap.size := by
  obtain ⟨q, va, ga, out, h⟩ := h
  exact h.rng

theorem IsNd.fz {X : Nat → Prop} {w : World} {base p z : Nat} {N : Nd} (h : IsNd X w base p z N) : ∀ i, w.frozen? ⟨p, i, none⟩ = false := by
  obtain ⟨q, va, ga, out, h⟩ := h
  exact h.fz

/-- the node's own cells that are plain numbers -/
theorem IsNd.c {X : Nat → Prop} {w : World} {base p z : Nat} {N : Nd} (h : IsNd X w base p z N) : w.cell? ⟨p, 0, none⟩ = some (.int .u64 N.id) ∧ w.cell? ⟨p, 1, none⟩ = some (.int .u64 N.term) ∧ w.cell? ⟨p, 2, none⟩ = some (.int .u64 N.vote) ∧ w.cell? ⟨p, 4, none⟩ = some (.int .i64 N.role) ∧ w.cell? ⟨p, 5, none⟩ = some (.int .u64 N.leader) ∧ w.cell? ⟨p, 6, none⟩ = some (.int .u64 N.ticks) ∧ w.cell? ⟨p, 7, none⟩ = some (.int .u64 N.commit) ∧ w.cell? ⟨p, 8, none⟩ = some (.int .u64 N.given) := by
  obtain ⟨q, va, ga, out, h⟩ := h
  exact ⟨h.cell 0 (by decide), h.cell 1 (by decide), h.cell 2 (by decide), h.cell 4 (by decide), h.cell 5 (by decide), h.cell 6 (by decide), h.cell 7 (by decide), h.cell 8 (by decide)⟩

/-- the node's log -/
theorem IsNd.log {X : Nat → Prop} {w : World} {base p z : Nat} {N : Nd} (h : IsNd X w base p z N) : ∃ q, w.cell? ⟨p, 3, none⟩ = some (.pointer (some ⟨q, 0, none⟩)) ∧ IsL X w base q N.L := by
  obtain ⟨q, va, ga, out, h⟩ := h
  exact ⟨q, h.cell 3 (by decide), h.log⟩

end Go.Proofs.YtodmieehdleohaaGreat

namespace Go.Proofs.YtodmieehdleohaaGreat
open Go.RowKit NumMath
set_option linter.unusedVariables false
set_option maxRecDepth 100000

theorem infoMsg : (Tryz.prog.info? 49).map (fun i => (i.zero, i.size, i.bytes)) = some (some (.agg #[.int .i64 0, .int .u64 0, .int .u64 0, .int .u64 0, .int .u64 0, .int .u64 0, .int .u64 0, .int .u64 0, .bool false, .slice none 0 0, .int .u64 0, .int .u64 0, .slice none 0 0, .slice none 0 0]), 14, 160) := by kernel_rfl

/-- a message's cells -/
def msgCells (kd fr to tm ix lt cm hn : Int) (rj : Bool) (ea : Option Addr) (en ec : Nat) (si st : Int) (ma : Option Addr) (mn mc : Nat) (da : Option Addr) (dn dc : Nat) : List Value :=
  [.int .i64 kd, .int .u64 fr, .int .u64 to, .int .u64 tm, .int .u64 ix, .int .u64 lt, .int .u64 cm, .int .u64 hn, .bool rj, .slice ea en ec, .int .u64 si, .int .u64 st, .slice ma mn mc, .slice da dn dc]

/-- append of a message to the outbox, as it runs -/
theorem run_joinO (w : World) (ty : TypeId) (base z : Nat) (v : Value) (hown : OutR w base z v) (g : Nat) (cs : List Value) (hl : cs.length = 14) (hc : ∀ j u, cs[j]? = some u → w.cell? ((⟨g, 0, none⟩ : Addr).add j) = some u) (h1 : ∀ u ∈ cs, u.oneCell' = true) (hz : z ≤ 1000000) (hbase : base ≤ w.heap.size) :
    ∃ v' w', (Builtin.append_ #[68, 68] ty #[v, .slice (some ⟨g, 0, none⟩) 1 1]).run Tryz.prog w = .ok v' w' ∧ OutR w' base (z + 1) v' ∧ w.grownBy w' v.ownBlock ∧ AtB w v v' := by
  obtain ⟨i0, hi, hz0, hz1, hz2⟩ := info_parts infoMsg
  obtain ⟨n, xs, hn, hown⟩ := hown
  obtain ⟨v', w', hr, h2, h3, _, h5⟩ := run_append_own_at (P := Tryz.prog) w base 68 ty 49 i0 _ 14 160 Tryz.underlying68 hi hz0 hz1 hz2 rfl (by decide) v n _ hown ⟨g, 0, none⟩ 1 1 cs hl hc h1 (by unfold maxLen; omega) (by omega) hbase
  refine ⟨v', w', hr, ⟨n + 1, _, by omega, h2⟩, h3, ?_⟩
  rcases h5 with h5 | h5
  · exact .inl h5
  · exact .inr ⟨_, h5, Nat.le_refl _⟩

theorem step_joinO {ops : Array Oper} {o : Oper} {a : Act} {K : Act → World → Prop} {Q : Exit → Act → World → Prop} {E : Prop} (w : World) (hgd : Region.wanted o (yielded ops a.tmps) = true) (s x : Operand)
    (ho : o.op = .call { callee := .builtin .append, args := #[s, x], argTypes := #[68, 68] }) (base z : Nat) (v : Value) (hs : a.eval s = v) (hown : OutR w base z v)
    (g : Nat) (cs : List Value) (hx : a.eval x = .slice (some ⟨g, 0, none⟩) 1 1) (hl : cs.length = 14) (hc : ∀ j u, cs[j]? = some u → w.cell? ((⟨g, 0, none⟩ : Addr).add j) = some u) (h1 : ∀ u ∈ cs, u.oneCell' = true) (hz : z ≤ 1000000) (hbase : base ≤ w.heap.size)
    (h : ∀ v' w', OutR w' base (z + 1) v' → w.grownBy w' v.ownBlock → AtB w v v' → K (a.put o.dst v') w') :
    if Region.wanted o (yielded ops a.tmps) = true then Oper.wp Tryz.prog o a w K Q else E := by
  rw [if_pos hgd]
  obtain ⟨v', w', hr, h1, h2, h3⟩ := run_joinO w o.type base z v hown g cs hl hc h1 hz hbase
  unfold Oper.wp execOp
  simp only [ho, resolve, invoke, builtin, Sem.run_bind, Sem.run_pure, Result.andThen_ok, List.map_toArray, List.map_cons, List.map_nil, hs, hx, hr]
  exact h v' w' h1 h2 h3

/-- a block that holds these cells -/
theorem cells_new (w : World) (cs : List Value) (ty : TypeId) (g : Nat) (hg : w.heap.size = g) (h1 : ∀ u ∈ cs, u.oneCell' = true) : ∀ j u, cs[j]? = some u → (w.alloc (.cells cs.toArray ty)).cell? ((⟨g, 0, none⟩ : Addr).add j) = some u := by
  intro j u hu
  subst hg
  have e : ((⟨w.heap.size, 0, none⟩ : Addr).add j) = ⟨w.heap.size, j, none⟩ := by
    rcases j with _ | j
    · rfl
    · simp [Addr.add]
  rw [e]
  have hh : (w.alloc (.cells cs.toArray ty)).heap[w.heap.size]? = some (.cells cs.toArray ty) := (MapKept.heap_alloc w _).1
  unfold World.cell?
  rw [hh]
  show cs.toArray[j]? = some u
  rw [List.getElem?_toArray]
  exact hu

theorem msg_one (kd fr to tm ix lt cm hn : Int) (rj : Bool) (ea : Option Addr) (en ec : Nat) (si st : Int) (ma : Option Addr) (mn mc : Nat) (da : Option Addr) (dn dc : Nat) : ∀ u ∈ msgCells kd fr to tm ix lt cm hn rj ea en ec si st ma mn mc da dn dc, u.oneCell' = true := by
  intro u hu
  simp only [msgCells, List.mem_cons, List.not_mem_nil, or_false] at hu
  rcases hu with rfl | rfl | rfl | rfl | rfl | rfl | rfl | rfl | rfl | rfl | rfl | rfl | rfl | rfl <;> rfl

/-- the outbox grown and stored -/
theorem IsN.post {X : Nat → Prop} {w w' : World} {base p z z' : Nat} {N : Nd} {q : Nat} {va ga : Option Nat} {out v' : Value} (h : IsN X w base p z N q va ga out) (hg : w.grownBy w' out.ownBlock) (ho : OutR w' base z' v') (hat : AtB w out v') (hz : z ≤ z') :
    IsN (fun k => X k ∨ v'.ownBlock = some k) (w'.setCell ⟨p, 11, none⟩ v') base p z' N q va ga v' ∧ Keeps X w (w'.setCell ⟨p, 11, none⟩ v') ∧ ∀ k, X k ∨ v'.ownBlock = some k → X k ∨ w.heap.size ≤ k := by
  have hk : Keeps (fun k => out.ownBlock = some k) w w' := ⟨hg.os, hg.tape, hg.output, hg.size, fun k hk hn => hg.block k hk (fun e => hn e.symm)⟩
  have hkx : Keeps X w w' := ⟨hg.os, hg.tape, hg.output, hg.size, fun k hk hn => hg.block k hk (fun e => hn (h.ox k e.symm).1)⟩
  have e : ∀ k, k < w.heap.size → ¬ out.ownBlock = some k → w'.heap[k]? = w.heap[k]? := fun k hk hn => hg.block k hk (fun e => hn e.symm)
  have hp := h.at.2
  have hpo : ¬ out.ownBlock = some p := fun e => (h.ox p e).2.1 rfl
  have hq : ∀ k, SB 4 w q k → ¬ out.ownBlock = some k := fun k hk e => (h.ox k e).2.2 hk
  have hql := h.log.at
  have eq := e q hql (hq q SB.at)
  have hol : ∀ k, v'.ownBlock = some k → base ≤ k ∧ k < w'.heap.size := by
    intro k hk
    obtain ⟨n, cs, _, hr⟩ := ho
    exact World.ownsRow.lt hr k hk
  have hv : ∀ k, v'.ownBlock = some k → out.ownBlock = some k ∨ w.heap.size ≤ k := by
    intro k hk
    rcases hat with h1 | ⟨k', h1, h2⟩
    · exact .inl (h1 ▸ hk)
    · rw [hk] at h1; cases h1; exact .inr h2
  have hmid : IsN (fun k => X k ∨ v'.ownBlock = some k) w' base p z' ({ N with id := N.id } : Nd) q va ga v' → True := fun _ => trivial
  have hlog : IsL (fun k => X k ∨ v'.ownBlock = some k) w' base q N.L := by
    refine (IsL.lies (h.log.more (Y := fun k => X k ∨ v'.ownBlock = some k) ?_ (fun k hk => .inl (h.log.lt hk).2.2)) hk (fun k e => .inl (h.ox k e).1) (fun k hs e => hq k hs e))
    intro k hk
    rcases hk with hk | hk
    · exact .inl hk
    · rcases hv k hk with h1 | h1
      · exact .inl (h.ox k h1).1
      · exact .inr h1
  have hoff : ¬ SB 4 w' q p := fun hs => h.off (hs.same eq)
  have hvp : ∀ k, v'.ownBlock = some k → k ≠ p := by
    intro k hk e'
    subst e'
    rcases hv k hk with h1 | h1
    · exact hpo h1
    · omega
  have hvq : ∀ k, v'.ownBlock = some k → ¬ SB 4 w' q k := by
    intro k hk hs
    have hs := hs.same eq
    rcases hv k hk with h1 | h1
    · exact hq k hs h1
    · have := (h.log.lt hs).1; omega
  have e2 : ∀ k, k ≠ p → (w'.setCell ⟨p, 11, none⟩ v').heap[k]? = w'.heap[k]? := fun k hn => Below.heap_setCell w' ⟨p, 11, none⟩ v' k hn
  have hk2 : Keeps (fun k => k = p) w' (w'.setCell ⟨p, 11, none⟩ v') := keeps_cell v'
  have hsz : (w'.setCell ⟨p, 11, none⟩ v').heap.size = w'.heap.size := by simp [World.setCell]
  have cp : ∀ i, w'.cell? ⟨p, i, none⟩ = w.cell? ⟨p, i, none⟩ := fun i => World.cell?_of_block (a := ⟨p, i, none⟩) (e p hp hpo)
  refine ⟨⟨?_, fun j => by simp; exact (World.frozen?_of_block (a := ⟨p, j, none⟩) (e p hp hpo)).trans (h.fz j), .inl h.xp, ?_, ?_, ?_, h.hv, h.hg, ?_, ?_, h.ne, ?_, ?_⟩, hkx.thenSet h.xp _, fun k hk => hk.elim .inl (fun hk => (hv k hk).imp (fun e => (h.ox k e).1) id)⟩
  · intro j hj
    by_cases hij : 11 = j
    · subst hij
      exact World.cell?_setCell_same _ _ _ ((cp 11).trans (h.cell 11 (by decide)))
    · refine ((cell_set_off _ _ _ _ _ hij).trans (cp j)).trans ((h.cell j hj).trans ?_)
      have : N.cells q va ga v' = (N.cells q va ga out).set 11 v' := rfl
      rw [this, List.getElem?_set_ne hij]
  · intro k hk
    rw [hsz]
    rcases hk with hk | hk
    · exact ⟨(h.rng k hk).1, Nat.lt_of_lt_of_le (h.rng k hk).2 hg.size⟩
    · exact hol k hk
  · exact hlog.lies hk2 (fun k e => e ▸ .inl h.xp) (fun k hs e => hoff (e ▸ hs))
  · intro hs
    exact hoff (hs.same (e2 q (fun e => hoff (e ▸ SB.at))))
  · intro b hb
    have hm := h.vm b hb
    exact ⟨.inl hm.1, mapU_mono (mapU_same (mapU_same hm.2 (e b (mapU_lt hm.2) (fun e => (h.vne hb).2.2 b e rfl))) (e2 b (h.vne hb).1)) hz⟩
  · intro b hb
    have hm := h.gm b hb
    exact ⟨.inl hm.1, mapP_mono (mapP_same (mapP_same hm.2 (e b (mapP_lt hm.2) (fun e => (h.gne hb).2.2 b e rfl))) (e2 b (h.gne hb).1)) hz⟩
  · exact outR_same ho (fun g hg => e2 g (hvp g hg))
  · intro k hk
    exact ⟨.inr hk, hvp k hk, fun hs => hvq k hk (hs.same (e2 q (fun e => hoff (e ▸ SB.at))))⟩

theorem outR_form {w : World} {base z : Nat} {v : Value} (h : OutR w base z v) : ∃ a n c, v = .slice a n c := by
  obtain ⟨n, cs, _, _, h2⟩ := h
  rcases h2 with ⟨h1, _⟩ | ⟨g, cap, cur, h1, _⟩
  · exact ⟨_, _, _, h1⟩
  · exact ⟨_, _, _, h1⟩

theorem bel_alloc {w w' : World} (h : Below w.heap.size w w') (o : Obj) : Below w.heap.size w (w'.alloc o) := h.alloc h.size o

theorem made_any (X : Nat → Prop) (base p z : Nat) (N : Nd) (w : World) (h : IsNd X w base p z N) :
    Calls Tryz.prog 56 #[.pointer (some ⟨p, 0, none⟩)] w fun e w' => e = .returned (.bool true) ∧ w' = w := by
  obtain ⟨q, va, ga, out, h⟩ := h
  have c3 : w.cell? ⟨p, 3, none⟩ = some (.pointer (some ⟨q, 0, none⟩)) := h.cell 3 (by decide)
  clear h
  go_enter Tryz.func56, Tryz.ntmps56
  go_wp2
  go_ret
  exact ⟨rfl, rfl⟩

theorem made_nil (w : World) :
    Calls Tryz.prog 56 #[.pointer none] w fun e w' => e = .returned (.bool false) ∧ w' = w := by
  go_enter Tryz.func56, Tryz.ntmps56
  go_wp2
  go_ret
  exact ⟨rfl, rfl⟩

set_option maxHeartbeats 1000000 in
theorem follow_any (X : Nat → Prop) (base p z : Nat) (N : Nd) (l : Int) (w : World) (h : IsNd X w base p z N) :
    Calls Tryz.prog 59 #[.pointer (some ⟨p, 0, none⟩), .int .u64 l] w fun e w' => e = .returned (.tuple #[]) ∧ IsNd X w' base p z { N with role := 0, leader := l } ∧ Keeps X w w' := by
  obtain ⟨q, va, ga, out, h⟩ := h
  have H := hide h
  have c4 : w.cell? ⟨p, 4, none⟩ = some (.int .i64 N.role) := h.cell 4 (by decide)
  have c5 : w.cell? ⟨p, 5, none⟩ = some (.int .u64 N.leader) := h.cell 5 (by decide)
  have f4 := h.fz 4
  have f5 := h.fz 5
  clear h
  go_enter Tryz.func59, Tryz.ntmps59
  go_wp2
  go_end0
  have h1 := H.out.set 4 (.int .i64 0) { N with role := 0 } (by decide) rfl rfl rfl rfl
  have h2 := h1.set 5 (.int .u64 l) { N with role := 0, leader := l } (by decide) rfl rfl rfl rfl
  exact ⟨rfl, h2.any, ((Keeps.self _ _).thenSet H.out.xp _).thenSet H.out.xp _⟩

set_option maxHeartbeats 1000000 in
theorem rest_any (X : Nat → Prop) (base p z : Nat) (N : Nd) (w : World) (h : IsNd X w base p z N) (ht : 0 ≤ N.ticks ∧ N.ticks ≤ 18446744073709551615) :
    Calls Tryz.prog 110 #[.pointer (some ⟨p, 0, none⟩)] w fun e w' => e = .returned (.tuple #[]) ∧ (∃ t, (0 ≤ t ∧ t ≤ 18446744073709551615) ∧ IsNd X w' base p z { N with ticks := t }) ∧ Keeps X w w' := by
  obtain ⟨q, va, ga, out, h⟩ := h
  have H := hide h
  have c6 : w.cell? ⟨p, 6, none⟩ = some (.int .u64 N.ticks) := h.cell 6 (by decide)
  have f6 := h.fz 6
  clear h
  by_cases hlt : N.ticks < 5
  · go_enter Tryz.func110, Tryz.ntmps110
    go_wp2
    go_end0
    have h1 := H.out.set 6 (.int .u64 5) { N with ticks := 5 } (by decide) rfl rfl rfl rfl
    exact ⟨rfl, ⟨5, by decide, h1.any⟩, (Keeps.self _ _).thenSet H.out.xp _⟩
  · go_enter Tryz.func110, Tryz.ntmps110
    go_wp2
    go_end0
    have h1 := H.out.set 6 (.int .u64 N.ticks) { N with ticks := N.ticks } (by decide) rfl rfl rfl rfl
    exact ⟨rfl, ⟨N.ticks, ht, h1.any⟩, (Keeps.self _ _).thenSet H.out.xp _⟩

set_option maxHeartbeats 2000000 in
theorem sendN_any (X : Nat → Prop) (base p z : Nat) (N : Nd) (kd fr to tm ix lt cm hn : Int) (rj : Bool) (ea : Option Addr) (en ec : Nat) (si st : Int) (ma : Option Addr) (mn mc : Nat) (da : Option Addr) (dn dc : Nat) (w : World) (q : Nat) (va ga : Option Nat) (out : Value) (h : IsN X w base p z N q va ga out) (hz : z ≤ 1000000) :
    Calls Tryz.prog 108 #[.pointer (some ⟨p, 0, none⟩), .agg #[.int .i64 kd, .int .u64 fr, .int .u64 to, .int .u64 tm, .int .u64 ix, .int .u64 lt, .int .u64 cm, .int .u64 hn, .bool rj, .slice ea en ec, .int .u64 si, .int .u64 st, .slice ma mn mc, .slice da dn dc]] w fun e w' => e = .returned (.tuple #[]) ∧ ∃ X' out', IsN X' w' base p (z + 1) N q va ga out' ∧ Keeps X w w' ∧ ∀ k, X' k → X k ∨ w.heap.size ≤ k := by
  have H := hide h
  have c0 : w.cell? ⟨p, 0, none⟩ = some (.int .u64 N.id) := h.cell 0 (by decide)
  have c1 : w.cell? ⟨p, 1, none⟩ = some (.int .u64 N.term) := h.cell 1 (by decide)
  have c11 : w.cell? ⟨p, 11, none⟩ = some out := h.cell 11 (by decide)
  have f11 := h.fz 11
  have hpl := h.at.2
  have hpb := h.at.1
  obtain ⟨oa, on, oc, rfl⟩ := outR_form h.om
  clear h
  have hne : ¬ w.heap.size = p := by omega
  have hne2 : ¬ p = w.heap.size := by omega
  go_enter Tryz.func108, Tryz.ntmps108
  go_wp2_with fail
  go_region
  go_wp2_with fail
  go_region_law (first
    | (refine step_joinO _ (by rfl) (.tmp 19) (.tmp 21) (by rfl) base z (.slice oa on oc) (by rfl) (H.out.keep (by repeat (first | exact Below.refl _ _ | refine bel_alloc ?_ _ | refine Below.drew ?_))).om (w.heap.size + 1) (msgCells kd N.id to N.term ix lt cm hn rj ea en ec si st ma mn mc da dn dc) (by rfl) rfl (cells_new _ (msgCells kd N.id to N.term ix lt cm hn rj ea en ec si st ma mn mc da dn dc) _ _ (by simp) (msg_one _ _ _ _ _ _ _ _ _ _ _ _ _ _ _ _ _ _ _ _)) (msg_one _ _ _ _ _ _ _ _ _ _ _ _ _ _ _ _ _ _ _ _) hz (by simp; omega) ?_; intro v3 w3 ho3 hg3 hat3; obtain ⟨a3, n3, d3, rfl⟩ := outR_form ho3; have HP := hide (IsN.post (H.out.keep (by repeat (first | exact Below.refl _ _ | refine bel_alloc ?_ _ | refine Below.drew ?_))) hg3 ho3 hat3 (Nat.le_succ z)); have e3 := hg3.block p (by simp; omega) (fun e => (H.out.ox p e.symm).2.1 rfl); have c113 := (World.cell?_of_block (a := ⟨p, 11, none⟩) (e3.trans (Below.block (B := w.heap.size) (by repeat (first | exact Below.refl _ _ | refine bel_alloc ?_ _ | refine Below.drew ?_)) p hpl))).trans c11; have f113 := (World.frozen?_of_block (a := ⟨p, 11, none⟩) (e3.trans (Below.block (B := w.heap.size) (by repeat (first | exact Below.refl _ _ | refine bel_alloc ?_ _ | refine Below.drew ?_)) p hpl))).trans f11; have HS3 := hide hg3.size; clear ho3 hg3 hat3 e3))
  all_goals
    go_wp2
    go_end0
    have hX := Keeps.then (w := w) (Below.keeps (w := w) (w' := _) (by repeat (first | exact Below.refl _ _ | refine bel_alloc ?_ _ | refine Below.drew ?_)) X) (fun k hk => .inl hk) HP.out.2.1
    refine ⟨rfl, _, _, HP.out.1.keep (by repeat (first | exact Below.refl _ _ | refine bel_alloc ?_ _ | refine Below.drew ?_)), hX.thenBelow (by repeat (first | exact Below.refl _ _ | refine bel_alloc ?_ _ | refine Below.drew ?_)), fun k hk => ?_⟩
    rcases HP.out.2.2 k hk with h1 | h1
    · exact .inl h1
    · refine .inr (Nat.le_trans ?_ h1)
      simp
      try omega

theorem send_any (X : Nat → Prop) (base p z : Nat) (N : Nd) (kd fr to tm ix lt cm hn : Int) (rj : Bool) (ea : Option Addr) (en ec : Nat) (si st : Int) (ma : Option Addr) (mn mc : Nat) (da : Option Addr) (dn dc : Nat) (w : World) (h : IsNd X w base p z N) (hz : z ≤ 1000000) :
    Calls Tryz.prog 108 #[.pointer (some ⟨p, 0, none⟩), .agg #[.int .i64 kd, .int .u64 fr, .int .u64 to, .int .u64 tm, .int .u64 ix, .int .u64 lt, .int .u64 cm, .int .u64 hn, .bool rj, .slice ea en ec, .int .u64 si, .int .u64 st, .slice ma mn mc, .slice da dn dc]] w fun e w' => e = .returned (.tuple #[]) ∧ NPost X w base p (z + 1) (fun N' => N' = N) w' := by
  obtain ⟨q, va, ga, out, h⟩ := h
  refine (sendN_any X base p z N kd fr to tm ix lt cm hn rj ea en ec si st ma mn mc da dn dc w q va ga out h hz).mono ?_
  rintro e w' ⟨he, X', out', h1, h2, h3⟩
  exact ⟨he, X', N, h1.any, rfl, h2, h3⟩

end Go.Proofs.YtodmieehdleohaaGreat
