/- Who waits for whom: the document's way to tell it, as plain lists (walk: nodes that are come to, breadth first). The reference's walk, After, Cycle: what they answer. The reference's After and Cycle: what they answer. A shortest way back, as plain lists: it is there just if one comes to oneself; each step is an edge; nobody twice. Who waits for whom, the program's way, as plain lists: edges kept once, by who waits; the same nodes are come to in the same order as the document's. Whom one comes to along edges: just those that the search tells; rings. -/
import Derived.Test.YtcgiicmmfleinaaGreatDoorGnA
import Derived.Deep.DeepCutAuto
import Derived.Deep.CutBlock
import Derived.Deep.LoopGhost
import Derived.BigQuiet
namespace Go.Proofs.YtcgiicmmfleinaaGreatDoor
set_option linter.unusedVariables false

/-- what is known, as (to, by), and whom to ask -/
abbrev WSt := List (Int × Int) × List Int

/-- whether a node was come to -/
def metW (out : List (Int × Int)) (n : Int) : Bool := out.any (fun s => s.1 == n)

/-- an edge, looked at from q -/
def edgeW (fr q : Int) (st : WSt) (e : Int × Int) : WSt :=
  if e.1 ≠ q then st else if metW st.1 e.2 = true then st else (st.1 ++ [(e.2, e.1)], if e.2 ≠ fr then st.2 ++ [e.2] else st.2)

/-- all edges, looked at from q -/
def rowW (fr q : Int) (l : List (Int × Int)) (st : WSt) : WSt := l.foldl (edgeW fr q) st

/-- the nodes from place i of the queue on -/
def itW (fr : Int) (l : List (Int × Int)) : Nat → Nat → WSt → WSt
  | 0, _, st => st
  | f + 1, i, st => if i < st.2.length then itW fr l f (i + 1) (rowW fr (st.2.getD i 0) l st) else st

/-- nodes that are come to, and by whom -/
def walkW (l : List (Int × Int)) (fr : Int) : List (Int × Int) := (itW fr l (l.length + 2) 0 ([], [fr])).1

theorem nodup_le : ∀ (xs ys : List Int), xs.Nodup → (∀ x ∈ xs, x ∈ ys) → xs.length ≤ ys.length := by
  intro xs
  induction xs with
  | nil => intro ys _ _; exact Nat.zero_le _
  | cons x r ih =>
    intro ys hn hm
    rw [List.nodup_cons] at hn
    have hx := hm x (List.mem_cons_self ..)
    have h1 := ih (ys.erase x) hn.2 (fun y hy => (List.mem_erase_of_ne (fun e : y = x => hn.1 (e ▸ hy))).2 (hm y (List.mem_cons_of_mem _ hy)))
    rw [List.length_erase_of_mem hx] at h1
    have : 0 < ys.length := List.length_pos_of_mem hx
    rw [List.length_cons]; omega

/-- what holds of the state all along -/
structure GoodW (l : List (Int × Int)) (st : WSt) : Prop where
  nd : (st.1.map Prod.fst).Nodup
  ed : ∀ s ∈ st.1, (s.2, s.1) ∈ l
  q : st.2.length ≤ st.1.length + 1

theorem GoodW.le {l : List (Int × Int)} {st : WSt} (h : GoodW l st) : st.1.length ≤ l.length := by
  have := nodup_le (st.1.map Prod.fst) (l.map Prod.snd) h.nd (fun x hx => by
    obtain ⟨s, hs, rfl⟩ := List.mem_map.1 hx
    exact List.mem_map.2 ⟨_, h.ed s hs, rfl⟩)
  simpa using this

theorem metW_mem {out : List (Int × Int)} {n : Int} : metW out n = true ↔ n ∈ out.map Prod.fst := by
  unfold metW
  rw [List.any_eq_true]
  constructor
  · rintro ⟨s, hs, e⟩
    exact List.mem_map.2 ⟨s, hs, by simpa using e⟩
  · intro h
    obtain ⟨s, hs, rfl⟩ := List.mem_map.1 h
    exact ⟨s, hs, by simp⟩

theorem GoodW.edge {l : List (Int × Int)} {st : WSt} (h : GoodW l st) (fr q : Int) (e : Int × Int) (he : e ∈ l) : GoodW l (edgeW fr q st e) := by
  unfold edgeW
  split
  · exact h
  · split
    · exact h
    · rename_i _ h2
      refine ⟨?_, ?_, ?_⟩
      · show ((st.1 ++ [(e.2, e.1)]).map Prod.fst).Nodup
        rw [List.map_append, List.nodup_append]
        refine ⟨h.nd, by simp, fun x hx y hy => ?_⟩
        simp at hy
        subst hy
        intro exy
        subst exy
        exact h2 (metW_mem.2 hx)
      · intro s hs
        rcases List.mem_append.1 hs with h3 | h3
        · exact h.ed s h3
        · rw [List.mem_singleton.1 h3]; exact he
      · have := h.q
        dsimp only
        rw [List.length_append]
        split
        · rw [List.length_append]; simp; omega
        · simp; omega

theorem GoodW.fold {l : List (Int × Int)} (fr q : Int) : ∀ (m : List (Int × Int)) (st : WSt), (∀ e ∈ m, e ∈ l) → GoodW l st → GoodW l (m.foldl (edgeW fr q) st) := by
  intro m
  induction m with
  | nil => intro st _ h; exact h
  | cons e r ih => intro st hm h; exact ih _ (fun x hx => hm x (List.mem_cons_of_mem _ hx)) (h.edge fr q e (hm e (List.mem_cons_self ..)))

theorem goodW_new (l : List (Int × Int)) (fr : Int) : GoodW l ([], [fr]) := ⟨by simp, by simp, by simp⟩

theorem GoodW.qle {l : List (Int × Int)} {st : WSt} (h : GoodW l st) : st.2.length ≤ l.length + 1 := by have := h.le; have := h.q; omega

theorem foldl_take_succ {β γ : Type} (f : β → γ → β) (b : β) (l : List γ) (k : Nat) (x : γ) (h : l[k]? = some x) : (l.take (k + 1)).foldl f b = f ((l.take k).foldl f b) x := by
  rw [List.take_add_one, h]
  simp

theorem getD_of {xs : List Int} {k : Nat} (h : k < xs.length) : xs[k]? = some (xs.getD k 0) := by
  rw [List.getD_eq_getElem?_getD, List.getElem?_eq_getElem h]; rfl

theorem itW_end (fr : Int) (l : List (Int × Int)) (f k : Nat) (st : WSt) (h : ¬ k < st.2.length) : itW fr l f k st = st := by
  cases f with
  | zero => rfl
  | succ f => rw [itW, if_neg h]

end Go.Proofs.YtcgiicmmfleinaaGreatDoor

namespace Go.Proofs.YtcgiicmmfleinaaGreatDoor
open Go.RowKit NumMath Go.ChangeShapes Go.WideShapes Go.Deep
set_option linter.unusedVariables false
set_option maxRecDepth 100000

def layE : Lay (Int × Int) where
  e := 222
  t := 197
  k := 2
  bys := 16
  z := .agg #[.int .u64 0, .int .u64 0]
  cells := fun e => [.int .u64 e.1, .int .u64 e.2]
  len := fun _ => rfl
  one := by intro x u hu; simp at hu; rcases hu with rfl | rfl <;> rfl
  pos := by decide
  few := by decide
  und := Tryz.underlying197
  info := by kernel_rfl
  zs := rfl

def layS : Lay (Int × Int) where
  e := 220
  t := 217
  k := 2
  bys := 16
  z := .agg #[.int .u64 0, .int .u64 0]
  cells := fun e => [.int .u64 e.1, .int .u64 e.2]
  len := fun _ => rfl
  one := by intro x u hu; simp at hu; rcases hu with rfl | rfl <;> rfl
  pos := by decide
  few := by decide
  und := Tryz.underlying217
  info := by kernel_rfl
  zs := rfl

def layU : Lay Int where
  e := 31
  t := 42
  k := 1
  bys := 8
  z := .int .u64 0
  cells := fun n => [.int .u64 n]
  len := fun _ => rfl
  one := by intro x u hu; simp at hu; subst hu; rfl
  pos := by decide
  few := by decide
  und := Tryz.underlying42
  info := by kernel_rfl
  zs := rfl

theorem pair_at {l : List (Int × Int)} {j : Nat} (h : j < l.length) : ∃ x y, l[j]? = some (x, y) := ⟨_, _, List.getElem?_eq_getElem h⟩

theorem cellU {w : World} {g : Nat} {q : List Int} {k : Nat} {n : Int} (h : CellsY layU w g 0 q) (hk : q[k]? = some n) : w.cell? ⟨g, k, none⟩ = some (.int .u64 n) := by
  have := h k n hk 0 _ rfl
  simpa [layU] using this

/-- what is known while an edge is looked at: it lies at N; the lists lie where they lay -/
structure FactW (w : World) (N : Nat) (x y : Int) (vo vq : Value) (st : WSt) (wx : World) : Prop where
  c0 : wx.cell? ⟨N, 0, none⟩ = some (.int .u64 x)
  c1 : wx.cell? ⟨N, 1, none⟩ = some (.int .u64 y)
  lt : N < wx.heap.size
  o : OwnY layS wx w.heap.size vo st.1
  q : OwnY layU wx w.heap.size vq st.2
  b : Below w.heap.size w wx
  no : ∀ g, vo.ownBlock = some g → g < N

theorem FactW.keep {w : World} {N : Nat} {x y : Int} {vo vq : Value} {st : WSt} {wx wx' : World} (h : FactW w N x y vo vq st wx) (hb : Below wx.heap.size wx wx') : FactW w N x y vo vq st wx' :=
  ⟨(hb.cell (p := ⟨N, 0, none⟩) h.lt).trans h.c0, (hb.cell (p := ⟨N, 1, none⟩) h.lt).trans h.c1, Nat.lt_of_lt_of_le h.lt hb.size, h.o.keep hb, h.q.keep hb, h.b.trans (hb.mono h.b.size), h.no⟩

theorem FactW.after {w : World} {N : Nat} {x y : Int} {vo vq : Value} {st : WSt} {wx w5 : World} {o : Obj} (h : FactW w N x y vo vq st wx) (hg : (wx.alloc o).grownBy w5 vo.ownBlock) : w5.cell? ⟨N, 1, none⟩ = some (.int .u64 y) ∧ N < w5.heap.size := by
  have hl : N < (wx.alloc o).heap.size := by have := h.lt; simp; omega
  refine ⟨(World.cell?_of_block (a := ⟨N, 1, none⟩) (hg.block N hl (fun e => by have := h.no N e.symm; omega))).trans ?_, Nat.lt_of_lt_of_le hl hg.size⟩
  exact ((new_below wx o).cell (p := ⟨N, 1, none⟩) h.lt).trans h.c1

end Go.Proofs.YtcgiicmmfleinaaGreatDoor

namespace Go.Proofs.YtcgiicmmfleinaaGreatDoor
open Go.RowKit NumMath Go.ChangeShapes Go.WideShapes Go.Deep
set_option linter.unusedVariables false
set_option maxRecDepth 100000

def cycW (fr : Int) : List (Int × Int) → Int → List Int → List Int
  | [], _, _ => []
  | s :: r, at', acc => if s.1 = at' then (if s.2 = fr then s.2 :: acc else cycW fr r s.2 (s.2 :: acc)) else cycW fr r at' acc

/-- a shortest way back -/
def cycleW (l : List (Int × Int)) (fr : Int) : List Int := cycW fr (walkW l fr).reverse fr []

def afterW (l : List (Int × Int)) (fr : Int) : List Int := (walkW l fr).map Prod.fst

theorem goodW_it (fr : Int) (l : List (Int × Int)) : ∀ (f i : Nat) (st : WSt), GoodW l st → GoodW l (itW fr l f i st) := by
  intro f
  induction f with
  | zero => intro i st h; exact h
  | succ f ih =>
    intro i st h
    rw [itW]
    split
    · exact ih _ _ (h.fold fr _ l st (fun e he => he))
    · exact h

theorem walkW_good (l : List (Int × Int)) (fr : Int) : ((walkW l fr).map Prod.fst).Nodup ∧ (∀ s ∈ walkW l fr, (s.2, s.1) ∈ l) ∧ (walkW l fr).length ≤ l.length :=
  have h := goodW_it fr l (l.length + 2) 0 ([], [fr]) (goodW_new l fr)
  ⟨h.nd, h.ed, h.le⟩

theorem rev_take {α : Type} (ws : List α) (k : Nat) (x : α) (h : ws[k]? = some x) : (ws.take (k + 1)).reverse = x :: (ws.take k).reverse := by
  rw [List.take_add_one, h]
  simp

end Go.Proofs.YtcgiicmmfleinaaGreatDoor

namespace Go.Proofs.YtcgiicmmfleinaaGreatDoor
set_option linter.unusedVariables false

/-- who is asked is the first one, or was come to; who came is the first one, or was come to ahead -/
structure OrdW (fr : Int) (st : WSt) : Prop where
  q : ∀ x ∈ st.2, x = fr ∨ ∃ t, (x, t) ∈ st.1
  o : ∀ (i : Nat) (s : Int × Int), st.1[i]? = some s → s.2 = fr ∨ ∃ j t, j < i ∧ st.1[j]? = some (s.2, t)

theorem OrdW.edge {fr : Int} {st : WSt} (h : OrdW fr st) (q : Int) (hq : q = fr ∨ ∃ t, (q, t) ∈ st.1) (e : Int × Int) : OrdW fr (edgeW fr q st e) ∧ ∀ s ∈ st.1, s ∈ (edgeW fr q st e).1 := by
  unfold edgeW
  split
  · exact ⟨h, fun s hs => hs⟩
  · rename_i he
    have he : e.1 = q := by simpa using he
    split
    · exact ⟨h, fun s hs => hs⟩
    · refine ⟨⟨?_, ?_⟩, fun s hs => List.mem_append_left _ hs⟩
      · intro x hx
        dsimp only at hx ⊢
        split at hx
        · rcases List.mem_append.1 hx with h1 | h1
          · rcases h.q x h1 with h2 | ⟨t, h2⟩
            · exact .inl h2
            · exact .inr ⟨t, List.mem_append_left _ h2⟩
          · rw [List.mem_singleton.1 h1]
            exact .inr ⟨e.1, List.mem_append_right _ (List.mem_singleton.2 rfl)⟩
        · rcases h.q x hx with h2 | ⟨t, h2⟩
          · exact .inl h2
          · exact .inr ⟨t, List.mem_append_left _ h2⟩
      · intro i s hs
        dsimp only at hs ⊢
        by_cases hi : i < st.1.length
        · rw [List.getElem?_append_left hi] at hs
          rcases h.o i s hs with h1 | ⟨j, t, hj, h1⟩
          · exact .inl h1
          · exact .inr ⟨j, t, hj, by rw [List.getElem?_append_left (by omega)]; exact h1⟩
        · rw [List.getElem?_append_right (by omega)] at hs
          have hs' := List.mem_of_getElem? hs
          rw [List.mem_singleton] at hs'
          subst hs'
          rcases hq with h1 | ⟨t, h1⟩
          · exact .inl (by dsimp only; rw [he, h1])
          · obtain ⟨j, hj, h2⟩ := List.mem_iff_getElem.1 h1
            exact .inr ⟨j, t, by omega, by dsimp only; rw [List.getElem?_append_left hj, List.getElem?_eq_getElem hj, h2, he]⟩

theorem OrdW.fold {fr q : Int} : ∀ (m : List (Int × Int)) (st : WSt), OrdW fr st → (q = fr ∨ ∃ t, (q, t) ∈ st.1) → OrdW fr (m.foldl (edgeW fr q) st) := by
  intro m
  induction m with
  | nil => intro st h _; exact h
  | cons e r ih =>
    intro st h hq
    obtain ⟨h1, h2⟩ := h.edge q hq e
    refine ih _ h1 ?_
    rcases hq with hq | ⟨t, hq⟩
    · exact .inl hq
    · exact .inr ⟨t, h2 _ hq⟩

theorem OrdW.it {fr : Int} (l : List (Int × Int)) : ∀ (f i : Nat) (st : WSt), OrdW fr st → OrdW fr (itW fr l f i st) := by
  intro f
  induction f with
  | zero => intro i st h; exact h
  | succ f ih =>
    intro i st h
    rw [itW]
    split
    · rename_i hi
      refine ih _ _ (OrdW.fold l st h (h.q _ ?_))
      exact List.mem_of_getElem? (getD_of hi)
    · exact h

theorem walkW_ord (l : List (Int × Int)) (fr : Int) : ∀ (i : Nat) (s : Int × Int), (walkW l fr)[i]? = some s → s.2 = fr ∨ ∃ j t, j < i ∧ (walkW l fr)[j]? = some (s.2, t) :=
  (OrdW.it l (l.length + 2) 0 ([], [fr]) ⟨by simp, by simp⟩).o

/-- p is a way along edges, and its last one has an edge to z -/
def wayW (l : List (Int × Int)) : List Int → Int → Prop
  | [], _ => False
  | [x], z => (x, z) ∈ l
  | x :: y :: r, z => (x, y) ∈ l ∧ wayW l (y :: r) z

theorem wayW_snoc {l : List (Int × Int)} : ∀ {p : List Int} {t z : Int}, wayW l p t → (t, z) ∈ l → wayW l (p ++ [t]) z
  | [], _, _, h, _ => h.elim
  | [x], t, z, h, h2 => ⟨h, h2⟩
  | x :: y :: r, t, z, h, h2 => ⟨h.1, wayW_snoc (p := y :: r) h.2 h2⟩

theorem nd_at {ws : List (Int × Int)} (nd : (ws.map Prod.fst).Nodup) {i j : Nat} {z t t' : Int} (h1 : ws[i]? = some (z, t)) (h2 : ws[j]? = some (z, t')) : i = j := by
  have hi := (List.getElem?_eq_some_iff.1 h1).1
  have hj := (List.getElem?_eq_some_iff.1 h2).1
  have e1 : (ws.map Prod.fst)[i]? = some z := by rw [List.getElem?_map, h1]; rfl
  have e2 : (ws.map Prod.fst)[j]? = some z := by rw [List.getElem?_map, h2]; rfl
  have a1 := (List.getElem?_eq_some_iff.1 e1).2
  have a2 := (List.getElem?_eq_some_iff.1 e2).2
  have hp := List.pairwise_iff_getElem.1 nd
  rcases Nat.lt_trichotomy i j with h | h | h
  · exact absurd (a1.trans a2.symm) (hp i j (by simpa using hi) (by simpa using hj) h)
  · exact h
  · exact absurd (a2.trans a1.symm) (hp j i (by simpa using hj) (by simpa using hi) h)

theorem cyc_none (fr : Int) : ∀ (ws : List (Int × Int)) (z : Int) (acc : List Int), (∀ s ∈ ws, s.1 ≠ z) → cycW fr ws z acc = [] := by
  intro ws
  induction ws with
  | nil => intro z acc _; rfl
  | cons s r ih =>
    intro z acc h
    rw [cycW, if_neg (h s (List.mem_cons_self ..))]
    exact ih z acc (fun x hx => h x (List.mem_cons_of_mem _ hx))

theorem cyc_ok (l ws : List (Int × Int)) (fr : Int) (nd : (ws.map Prod.fst).Nodup) (ed : ∀ s ∈ ws, (s.2, s.1) ∈ l) (od : ∀ (i : Nat) (s : Int × Int), ws[i]? = some s → s.2 = fr ∨ ∃ j t, j < i ∧ ws[j]? = some (s.2, t)) :
    ∀ (k : Nat) (z : Int) (acc : List Int), k ≤ ws.length → (∃ j t, j < k ∧ ws[j]? = some (z, t)) → ∃ p, cycW fr (ws.take k).reverse z acc = p ++ acc ∧ p.head? = some fr ∧ wayW l p z ∧ p.Nodup ∧ (∀ y ∈ p, y = fr ∨ ∃ (i : Nat) (t : Int) (i2 : Nat) (t2 : Int), i < i2 ∧ ws[i]? = some (y, t) ∧ ws[i2]? = some (z, t2)) ∧ p.length ≤ k := by
  intro k
  induction k with
  | zero => intro z acc _ ⟨j, t, hj, _⟩; omega
  | succ k ih =>
    intro z acc hk ⟨j, t, hj, hjt⟩
    obtain ⟨⟨s, b⟩, hs⟩ : ∃ s, ws[k]? = some s := ⟨_, List.getElem?_eq_getElem (by omega)⟩
    rw [rev_take ws k _ hs, cycW]
    by_cases hsz : s = z
    · rw [if_pos hsz]
      subst hsz
      have hbz : (b, s) ∈ l := ed (s, b) (List.mem_of_getElem? hs)
      by_cases hb : b = fr
      · rw [if_pos hb]
        exact ⟨[b], rfl, by rw [hb]; rfl, hbz, by simp, by intro y hy; rw [List.mem_singleton] at hy; exact .inl (hy.trans hb), by simp⟩
      · rw [if_neg hb]
        rcases od k _ hs with h1 | ⟨i, t1, hi, h1⟩
        · exact absurd h1 hb
        · obtain ⟨p, e1, e2, e3, e4, e5, e6⟩ := ih b (b :: acc) (by omega) ⟨i, t1, hi, h1⟩
          refine ⟨p ++ [b], by rw [e1]; simp, ?_, wayW_snoc e3 hbz, ?_, ?_, by simp; omega⟩
          · cases p with
            | nil => cases e2
            | cons x r => exact e2
          · rw [List.nodup_append]
            refine ⟨e4, by simp, fun x hx y hy => ?_⟩
            rw [List.mem_singleton] at hy
            subst hy
            intro exy
            subst exy
            rcases e5 x hx with h2 | ⟨i1, u1, i2, u2, hii, h3, h4⟩
            · exact hb h2
            · have := nd_at nd h3 h4; omega
          · intro y hy
            rcases List.mem_append.1 hy with h2 | h2
            · rcases e5 y h2 with h3 | ⟨i1, u1, i2, u2, hii, h3, h4⟩
              · exact .inl h3
              · have := nd_at nd h4 h1
                exact .inr ⟨i1, u1, k, b, by omega, h3, hs⟩
            · rw [List.mem_singleton] at h2
              subst h2
              exact .inr ⟨i, t1, k, _, hi, h1, hs⟩
    · rw [if_neg hsz]
      have hjk : j ≠ k := by
        intro e
        subst e
        rw [hs] at hjt
        cases hjt
        exact hsz rfl
      obtain ⟨p, e1, e2, e3, e4, e5, e6⟩ := ih z acc (by omega) ⟨j, t, by omega, hjt⟩
      exact ⟨p, e1, e2, e3, e4, e5, by omega⟩

/-- there is a way back just if one comes to oneself -/
theorem cycleW_none (l : List (Int × Int)) (fr : Int) (h : fr ∉ afterW l fr) : cycleW l fr = [] := by
  unfold cycleW
  refine cyc_none fr _ _ _ (fun s hs e => h ?_)
  unfold afterW
  rw [List.mem_reverse] at hs
  exact List.mem_map.2 ⟨s, hs, e⟩

theorem cycleW_some (l : List (Int × Int)) (fr : Int) (h : fr ∈ afterW l fr) : (cycleW l fr).head? = some fr ∧ wayW l (cycleW l fr) fr ∧ (cycleW l fr).Nodup ∧ (cycleW l fr).length ≤ l.length := by
  obtain ⟨nd, ed, le⟩ := walkW_good l fr
  have od := walkW_ord l fr
  unfold afterW at h
  obtain ⟨⟨s, t⟩, hs, e⟩ := List.mem_map.1 h
  obtain ⟨j, hj, hjs⟩ := List.mem_iff_getElem.1 hs
  obtain ⟨p, e1, e2, e3, e4, _, e6⟩ := cyc_ok l (walkW l fr) fr nd ed od (walkW l fr).length fr [] (Nat.le_refl _) ⟨j, t, hj, by rw [List.getElem?_eq_getElem hj, hjs]; cases e; rfl⟩
  rw [List.take_length, List.append_nil] at e1
  unfold cycleW
  rw [e1]
  exact ⟨e2, e3, e4, by omega⟩

end Go.Proofs.YtcgiicmmfleinaaGreatDoor

namespace Go.Proofs.YtcgiicmmfleinaaGreatDoor
set_option linter.unusedVariables false

/-- an edge laid behind those that are there, if it is not there -/
def ddW (acc : List (Int × Int)) (e : Int × Int) : List (Int × Int) := if e ∈ acc then acc else acc ++ [e]

def ddL (l : List (Int × Int)) : List (Int × Int) := l.foldl ddW []

/-- those that begin at q -/
def rowsE (d : List (Int × Int)) (q : Int) : List (Int × Int) := d.filter (fun e => e.1 == q)

/-- an edge, the program's way -/
def pedge (st : WSt) (e : Int × Int) : WSt := if metW st.1 e.2 = true then st else (st.1 ++ [(e.2, e.1)], st.2 ++ [e.2])

def pit (d : List (Int × Int)) : Nat → Nat → WSt → WSt
  | 0, _, st => st
  | f + 1, i, st => if i < st.2.length then pit d f (i + 1) ((rowsE d (st.2.getD i 0)).foldl pedge st) else st

def qedge (q : Int) (st : WSt) (e : Int × Int) : WSt := if e.1 = q then pedge st e else st

theorem rows_fold (q : Int) : ∀ (d : List (Int × Int)) (st : WSt), (rowsE d q).foldl pedge st = d.foldl (qedge q) st := by
  intro d
  induction d with
  | nil => intro st; rfl
  | cons e r ih =>
    intro st
    unfold rowsE at *
    rw [List.filter_cons, List.foldl_cons]
    by_cases h : e.1 = q
    · rw [if_pos (by simpa using h), List.foldl_cons, ih, qedge, if_pos h]
    · rw [if_neg (by simpa using h), ih, qedge, if_neg h]

theorem pedge_pre (st : WSt) (e : Int × Int) : st.1 <+: (pedge st e).1 := by
  unfold pedge
  split
  · exact List.prefix_refl _
  · exact List.prefix_append _ _

theorem qedge_pre (q : Int) (st : WSt) (e : Int × Int) : st.1 <+: (qedge q st e).1 := by
  unfold qedge
  split
  · exact pedge_pre _ _
  · exact List.prefix_refl _

theorem pfold_pre : ∀ (m : List (Int × Int)) (st : WSt), st.1 <+: (m.foldl pedge st).1 := by
  intro m
  induction m with
  | nil => intro st; exact List.prefix_refl _
  | cons e r ih => intro st; exact (pedge_pre st e).trans (ih _)

theorem qfold_pre (q : Int) : ∀ (m : List (Int × Int)) (st : WSt), st.1 <+: (m.foldl (qedge q) st).1 := by
  intro m
  induction m with
  | nil => intro st; exact List.prefix_refl _
  | cons e r ih => intro st; exact (qedge_pre q st e).trans (ih _)

theorem pit_pre (d : List (Int × Int)) : ∀ (f i : Nat) (st : WSt), st.1 <+: (pit d f i st).1 := by
  intro f
  induction f with
  | zero => intro i st; exact List.prefix_refl _
  | succ f ih =>
    intro i st
    rw [pit]
    split
    · exact (pfold_pre _ st).trans (ih _ _)
    · exact List.prefix_refl _

theorem met_pre {a b : List (Int × Int)} (h : a <+: b) {n : Int} (hm : metW a n = true) : metW b n = true := by
  rw [metW_mem] at *
  obtain ⟨c, rfl⟩ := h
  rw [List.map_append]
  exact List.mem_append_left _ hm

theorem qedge_met (q : Int) (st : WSt) (e : Int × Int) (h : e.1 = q) : metW (qedge q st e).1 e.2 = true := by
  unfold qedge
  rw [if_pos h]
  unfold pedge
  split
  · assumption
  · rw [metW_mem]; simp

theorem qfold_met (q : Int) : ∀ (m : List (Int × Int)) (st : WSt) (e : Int × Int), e ∈ m → e.1 = q → metW (m.foldl (qedge q) st).1 e.2 = true := by
  intro m
  induction m with
  | nil => intro st e h; simp at h
  | cons x r ih =>
    intro st e h hq
    rw [List.foldl_cons]
    rcases List.mem_cons.1 h with rfl | h
    · exact met_pre (qfold_pre q r _) (qedge_met q st e hq)
    · exact ih _ e h hq

theorem qedge_none {q : Int} {st : WSt} {e : Int × Int} (h : e.1 = q → metW st.1 e.2 = true) : qedge q st e = st := by
  unfold qedge
  split
  · rename_i h1; unfold pedge; rw [if_pos (h h1)]
  · rfl

theorem qfold_none {q : Int} : ∀ (m : List (Int × Int)) (st : WSt), (∀ e ∈ m, e.1 = q → metW st.1 e.2 = true) → m.foldl (qedge q) st = st := by
  intro m
  induction m with
  | nil => intro st _; rfl
  | cons e r ih =>
    intro st h
    rw [List.foldl_cons, qedge_none (h e (List.mem_cons_self ..))]
    exact ih st (fun x hx => h x (List.mem_cons_of_mem _ hx))

theorem dd_fold (q : Int) (st : WSt) : ∀ (l acc : List (Int × Int)), (l.foldl ddW acc).foldl (qedge q) st = l.foldl (qedge q) (acc.foldl (qedge q) st) := by
  intro l
  induction l with
  | nil => intro acc; rfl
  | cons e r ih =>
    intro acc
    rw [List.foldl_cons, List.foldl_cons, ih]
    congr 1
    unfold ddW
    split
    · rename_i h
      rw [qedge_none (fun hq => qfold_met q acc st e h hq)]
    · rw [List.foldl_append]; rfl

theorem prow_eq (l : List (Int × Int)) (q : Int) (st : WSt) : (rowsE (ddL l) q).foldl pedge st = l.foldl (qedge q) st := by
  rw [rows_fold, ddL, dd_fold]; rfl

/-- an edge, both ways -/
theorem edge_both (fr q : Int) (sr sp : WSt) (h : sr.1 = sp.1) (e : Int × Int) : (edgeW fr q sr e).1 = (qedge q sp e).1 ∧ ∃ r, (qedge q sp e).2 = sp.2 ++ r ∧ (edgeW fr q sr e).2 = sr.2 ++ r.filter (fun x => x != fr) := by
  unfold edgeW qedge pedge
  by_cases hq : e.1 = q
  · rw [if_neg (by simpa using hq), if_pos hq, h]
    split
    · exact ⟨h, [], by simp, by simp⟩
    · refine ⟨by simp, [e.2], rfl, ?_⟩
      dsimp only
      by_cases hf : e.2 = fr
      · rw [if_neg (by simpa using hf)]; simp [hf]
      · rw [if_pos hf]; simp [hf]
  · rw [if_pos hq, if_neg hq]
    exact ⟨h, [], by simp, by simp⟩

theorem row_both (fr q : Int) : ∀ (l : List (Int × Int)) (sr sp : WSt), sr.1 = sp.1 → (l.foldl (edgeW fr q) sr).1 = (l.foldl (qedge q) sp).1 ∧ ∃ r, (l.foldl (qedge q) sp).2 = sp.2 ++ r ∧ (l.foldl (edgeW fr q) sr).2 = sr.2 ++ r.filter (fun x => x != fr) := by
  intro l
  induction l with
  | nil => intro sr sp h; exact ⟨h, [], by simp, by simp⟩
  | cons e t ih =>
    intro sr sp h
    obtain ⟨h1, r1, h2, h3⟩ := edge_both fr q sr sp h e
    obtain ⟨h4, r2, h5, h6⟩ := ih _ _ h1
    refine ⟨h4, r1 ++ r2, ?_, ?_⟩
    · rw [List.foldl_cons, h5, h2, List.append_assoc]
    · rw [List.foldl_cons, h6, h3, List.filter_append, List.append_assoc]

theorem GoodW.qe {l : List (Int × Int)} {st : WSt} (h : GoodW l st) (q : Int) (e : Int × Int) (he : e ∈ l) : GoodW l (qedge q st e) := by
  unfold qedge
  split
  · unfold pedge
    split
    · exact h
    · rename_i _ h2
      refine ⟨?_, ?_, ?_⟩
      · show ((st.1 ++ [(e.2, e.1)]).map Prod.fst).Nodup
        rw [List.map_append, List.nodup_append]
        refine ⟨h.nd, by simp, fun x hx y hy => ?_⟩
        simp at hy
        subst hy
        intro exy
        subst exy
        exact h2 (metW_mem.2 hx)
      · intro s hs
        rcases List.mem_append.1 hs with h3 | h3
        · exact h.ed s h3
        · rw [List.mem_singleton.1 h3]; exact he
      · have := h.q
        dsimp only
        rw [List.length_append, List.length_append]; simp; omega
  · exact h

theorem GoodW.qf {l : List (Int × Int)} (q : Int) : ∀ (m : List (Int × Int)) (st : WSt), (∀ e ∈ m, e ∈ l) → GoodW l st → GoodW l (m.foldl (qedge q) st) := by
  intro m
  induction m with
  | nil => intro st _ h; exact h
  | cons e r ih => intro st hm h; exact ih _ (fun x hx => hm x (List.mem_cons_of_mem _ hx)) (h.qe q e (hm e (List.mem_cons_self ..)))

theorem pit_both (l : List (Int × Int)) (fr : Int) : ∀ (f f' i j : Nat) (sp sr : WSt), GoodW l sp → GoodW l sr → sr.1 = sp.1 → (∀ e ∈ l, e.1 = fr → metW sp.1 e.2 = true) → sr.2.drop j = (sp.2.drop i).filter (fun x => x != fr) → l.length + 2 ≤ f + i → l.length + 2 ≤ f' + j → (pit (ddL l) f i sp).1 = (itW fr l f' j sr).1 := by
  intro f
  induction f with
  | zero =>
    intro f' i j sp sr gp gr he hc hd hf hf'
    have hl := gp.qle
    rw [List.drop_of_length_le (show sp.2.length ≤ i by omega)] at hd
    have hj : sr.2.length ≤ j := by simpa using List.drop_eq_nil_iff.1 hd
    rw [itW_end fr l f' j sr (by omega), he]
    rfl
  | succ f ih =>
    intro f' i j sp sr gp gr he hc hd hf hf'
    rw [pit]
    by_cases hi : i < sp.2.length
    · rw [if_pos hi, prow_eq]
      have hdi : sp.2.drop i = sp.2.getD i 0 :: sp.2.drop (i + 1) := by
        rw [List.drop_eq_getElem_cons hi, List.getD_eq_getElem?_getD, List.getElem?_eq_getElem hi]; rfl
      rw [hdi] at hd
      generalize sp.2.getD i 0 = q at *
      by_cases hq : q = fr
      · subst hq
        rw [qfold_none l sp hc]
        exact ih f' (i + 1) j sp sr gp gr he hc (by simpa using hd) (by omega) hf'
      · rw [List.filter_cons, if_pos (by simpa using hq)] at hd
        have hj : j < sr.2.length := by
          apply Classical.byContradiction
          intro hj
          rw [List.drop_of_length_le (by omega)] at hd
          cases hd
        have hdj : sr.2.drop j = sr.2.getD j 0 :: sr.2.drop (j + 1) := by
          rw [List.drop_eq_getElem_cons hj, List.getD_eq_getElem?_getD, List.getElem?_eq_getElem hj]; rfl
        rw [hdj] at hd
        have hq2 : sr.2.getD j 0 = q := (List.cons.inj hd).1
        have hd2 := (List.cons.inj hd).2
        have hlr := gr.qle
        obtain ⟨g, hg⟩ : ∃ g, f' = g + 1 := ⟨f' - 1, by omega⟩
        subst hg
        rw [itW, if_pos hj, hq2, rowW]
        obtain ⟨h1, r, h2, h3⟩ := row_both fr q l sr sp he
        refine ih g (i + 1) (j + 1) _ _ (gp.qf q l sp (fun e h => h)) (GoodW.fold fr q l sr (fun e h => h) gr) h1 (fun e h h' => met_pre (qfold_pre q l sp) (hc e h h')) ?_ (by omega) (by omega)
        rw [h2, h3, List.drop_append_of_le_length (by omega), List.drop_append_of_le_length (by omega), List.filter_append, hd2]
    · rw [if_neg hi]
      rw [List.drop_of_length_le (show sp.2.length ≤ i by omega)] at hd
      have hj : sr.2.length ≤ j := by simpa using List.drop_eq_nil_iff.1 hd
      rw [itW_end fr l f' j sr (by omega), he]

/-- the same nodes are come to, in the same order -/
theorem pit_walk (l : List (Int × Int)) (fr : Int) : (pit (ddL l) (l.length + 2) 0 ([], [fr])).1 = walkW l fr := by
  unfold walkW
  rw [show l.length + 2 = (l.length + 1) + 1 from rfl, pit, itW, if_pos (by simp), if_pos (by simp), prow_eq, rowW]
  show (pit (ddL l) (l.length + 1) (0 + 1) (l.foldl (qedge fr) ([], [fr]))).1 = (itW fr l (l.length + 1) (0 + 1) (l.foldl (edgeW fr fr) ([], [fr]))).1
  obtain ⟨h1, r, h2, h3⟩ := row_both fr fr l ([], [fr]) ([], [fr]) rfl
  refine pit_both l fr _ _ _ _ _ _ (GoodW.qf fr l _ (fun e h => h) (goodW_new l fr)) (GoodW.fold fr fr l _ (fun e h => h) (goodW_new l fr)) h1 (fun e h h' => qfold_met fr l _ e h h') ?_ (by omega) (by omega)
  rw [h2, h3]
  rfl

theorem mem_dd {x : Int × Int} : ∀ (l acc : List (Int × Int)), x ∈ l.foldl ddW acc ↔ x ∈ acc ∨ x ∈ l := by
  intro l
  induction l with
  | nil => intro acc; simp
  | cons e r ih =>
    intro acc
    rw [List.foldl_cons, ih]
    unfold ddW
    split
    · rename_i h
      constructor
      · rintro (h1 | h1)
        · exact .inl h1
        · exact .inr (List.mem_cons_of_mem _ h1)
      · rintro (h1 | h1)
        · exact .inl h1
        · rcases List.mem_cons.1 h1 with rfl | h1
          · exact .inl h
          · exact .inr h1
    · rw [List.mem_append, List.mem_singleton, List.mem_cons]
      constructor
      · rintro ((h1 | h1) | h1)
        · exact .inl h1
        · exact .inr (.inl h1)
        · exact .inr (.inr h1)
      · rintro (h1 | h1 | h1)
        · exact .inl (.inl h1)
        · exact .inl (.inr h1)
        · exact .inr h1

theorem mem_ddL {x : Int × Int} {l : List (Int × Int)} : x ∈ ddL l ↔ x ∈ l := by unfold ddL; rw [mem_dd]; simp

theorem dd_len : ∀ (l acc : List (Int × Int)), (l.foldl ddW acc).length ≤ acc.length + l.length := by
  intro l
  induction l with
  | nil => intro acc; simp
  | cons e r ih =>
    intro acc
    rw [List.foldl_cons]
    have := ih (ddW acc e)
    have h2 : (ddW acc e).length ≤ acc.length + 1 := by unfold ddW; split <;> simp
    rw [List.length_cons]; omega

theorem rowsE_len (d : List (Int × Int)) (q : Int) : (rowsE d q).length ≤ d.length := List.length_filter_le _ _

theorem rowsE_more (d : List (Int × Int)) (e : Int × Int) (q : Int) : rowsE (d ++ [e]) q = if e.1 = q then rowsE d q ++ [e] else rowsE d q := by
  unfold rowsE
  rw [List.filter_append]
  by_cases h : e.1 = q
  · rw [if_pos h]; simp [h]
  · rw [if_neg h]; simp [h]

/-- one step back along a shortest way -/
theorem cyc_find (fr : Int) (ws : List (Int × Int)) (nd : (ws.map Prod.fst).Nodup) (i : Nat) (z t : Int) (hi : ws[i]? = some (z, t)) : ∀ (k : Nat) (acc : List Int), i < k → k ≤ ws.length → cycW fr (ws.take k).reverse z acc = if t = fr then t :: acc else cycW fr (ws.take i).reverse t (t :: acc) := by
  intro k
  induction k with
  | zero => intro acc h; omega
  | succ k ih =>
    intro acc h hk
    obtain ⟨⟨s, b⟩, hs⟩ : ∃ s, ws[k]? = some s := ⟨_, List.getElem?_eq_getElem (by omega)⟩
    rw [rev_take ws k _ hs, cycW]
    by_cases e : i = k
    · subst e
      rw [hi] at hs
      cases hs
      rw [if_pos rfl]
    · rw [if_neg (fun hz : s = z => by subst hz; exact e (nd_at nd hi hs))]
      exact ih acc (by omega) (by omega)

end Go.Proofs.YtcgiicmmfleinaaGreatDoor

namespace Go.Proofs.YtcgiicmmfleinaaGreatDoor
set_option linter.unusedVariables false

/-- one comes from x to y along edges, in one step at least -/
inductive Reach (l : List (Int × Int)) : Int → Int → Prop
  | one {x y : Int} : (x, y) ∈ l → Reach l x y
  | more {x y z : Int} : (x, y) ∈ l → Reach l y z → Reach l x z

theorem Reach.trans {l : List (Int × Int)} {x y z : Int} (h : Reach l x y) (h2 : Reach l y z) : Reach l x z := by
  induction h with
  | one e => exact .more e h2
  | more e _ ih => exact .more e (ih h2)

theorem Reach.last {l : List (Int × Int)} {x y z : Int} (h : Reach l x y) (e : (y, z) ∈ l) : Reach l x z := h.trans (.one e)

theorem Reach.sub {l l' : List (Int × Int)} (hs : ∀ e ∈ l, e ∈ l') {x y : Int} (h : Reach l x y) : Reach l' x y := by
  induction h with
  | one e => exact .one (hs _ e)
  | more e _ ih => exact .more (hs _ e) ih

theorem walk_sound (l : List (Int × Int)) (fr : Int) : ∀ (i : Nat) (s : Int × Int), (walkW l fr)[i]? = some s → Reach l fr s.1 := by
  intro i
  induction i using Nat.strongRecOn with
  | ind i ih =>
    intro s hs
    have he := (walkW_good l fr).2.1 s (List.mem_of_getElem? hs)
    rcases walkW_ord l fr i s hs with h1 | ⟨j, t, hj, h1⟩
    · rw [h1] at he
      exact .one he
    · exact (ih j hj _ h1).last he

/-- what the search has done up to place i of its queue -/
structure DoneW (l : List (Int × Int)) (fr : Int) (i : Nat) (st : WSt) : Prop where
  good : GoodW l st
  fst : st.2[0]? = some fr
  all : ∀ k q, k < i → st.2[k]? = some q → ∀ e ∈ l, e.1 = q → metW st.1 e.2 = true
  inq : ∀ x, metW st.1 x = true → x = fr ∨ x ∈ st.2

theorem edge_pre (fr q : Int) (st : WSt) (e : Int × Int) : st.1 <+: (edgeW fr q st e).1 ∧ st.2 <+: (edgeW fr q st e).2 := by
  unfold edgeW
  split
  · exact ⟨List.prefix_refl _, List.prefix_refl _⟩
  · split
    · exact ⟨List.prefix_refl _, List.prefix_refl _⟩
    · refine ⟨List.prefix_append _ _, ?_⟩
      dsimp only
      split
      · exact List.prefix_append _ _
      · exact List.prefix_refl _

theorem fold_pre (fr q : Int) : ∀ (m : List (Int × Int)) (st : WSt), st.1 <+: (m.foldl (edgeW fr q) st).1 ∧ st.2 <+: (m.foldl (edgeW fr q) st).2 := by
  intro m
  induction m with
  | nil => intro st; exact ⟨List.prefix_refl _, List.prefix_refl _⟩
  | cons e r ih =>
    intro st
    have h1 := edge_pre fr q st e
    have h2 := ih (edgeW fr q st e)
    exact ⟨h1.1.trans h2.1, h1.2.trans h2.2⟩

theorem fold_all (fr q : Int) : ∀ (m : List (Int × Int)) (st : WSt) (e : Int × Int), e ∈ m → e.1 = q → metW (m.foldl (edgeW fr q) st).1 e.2 = true := by
  intro m
  induction m with
  | nil => intro st e h; simp at h
  | cons x r ih =>
    intro st e h hq
    rw [List.foldl_cons]
    rcases List.mem_cons.1 h with rfl | h
    · refine met_pre (fold_pre fr q r _).1 ?_
      unfold edgeW
      rw [if_neg (by simpa using hq)]
      split
      · assumption
      · rw [metW_mem]; simp
    · exact ih _ e h hq

theorem fold_inq (fr q : Int) : ∀ (m : List (Int × Int)) (st : WSt), (∀ x, metW st.1 x = true → x = fr ∨ x ∈ st.2) → ∀ x, metW (m.foldl (edgeW fr q) st).1 x = true → x = fr ∨ x ∈ (m.foldl (edgeW fr q) st).2 := by
  intro m
  induction m with
  | nil => intro st h; exact h
  | cons e r ih =>
    intro st h
    refine ih _ ?_
    intro x hx
    unfold edgeW at hx ⊢
    split at hx
    · rename_i h1; rw [if_pos h1]; exact h x hx
    · rename_i h1
      rw [if_neg h1]
      split at hx
      · rename_i h2; rw [if_pos h2]; exact h x hx
      · rename_i h2
        rw [if_neg h2]
        rw [metW_mem, List.map_append, List.mem_append] at hx
        dsimp only
        rcases hx with hx | hx
        · rcases h x (metW_mem.2 hx) with h3 | h3
          · exact .inl h3
          · right
            split
            · exact List.mem_append_left _ h3
            · exact h3
        · simp at hx
          subst hx
          by_cases h3 : e.2 = fr
          · exact .inl h3
          · right
            rw [if_pos h3]
            exact List.mem_append_right _ (List.mem_singleton.2 rfl)

theorem pre_get {α : Type} {a b : List α} (h : a <+: b) {k : Nat} {x : α} (hx : a[k]? = some x) : b[k]? = some x := by
  obtain ⟨c, rfl⟩ := h
  rw [List.getElem?_append_left (List.getElem?_eq_some_iff.1 hx).1]
  exact hx

theorem done_it (l : List (Int × Int)) (fr : Int) : ∀ (f i : Nat) (st : WSt), l.length + 2 ≤ f + i → DoneW l fr i st → ∀ b, (b = fr ∨ metW (itW fr l f i st).1 b = true) → ∀ e ∈ l, e.1 = b → metW (itW fr l f i st).1 e.2 = true := by
  intro f
  induction f with
  | zero =>
    intro i st hf h b hb e he hq
    have hl := h.good.qle
    have hall : ∀ q ∈ st.2, ∀ e ∈ l, e.1 = q → metW st.1 e.2 = true := fun q hq e he heq => by
      obtain ⟨k, hk, hkq⟩ := List.mem_iff_getElem.1 hq
      exact h.all k q (by omega) (by rw [List.getElem?_eq_getElem hk, hkq]) e he heq
    rcases hb with hb | hb
    · exact hall fr (List.mem_of_getElem? h.fst) e he (hq.trans hb)
    · rcases h.inq b hb with h1 | h1
      · exact hall fr (List.mem_of_getElem? h.fst) e he (hq.trans h1)
      · exact hall b h1 e he hq
  | succ f ih =>
    intro i st hf h
    rw [itW]
    split
    · rename_i hi
      refine ih (i + 1) _ (by omega) ?_
      have hp := fold_pre fr (st.2.getD i 0) l st
      refine ⟨GoodW.fold fr _ l st (fun e he => he) h.good, pre_get hp.2 h.fst, fun k q hk hkq e he heq => ?_, fold_inq fr _ l st h.inq⟩
      by_cases hki : k = i
      · subst hki
        have : st.2[k]? = some (st.2.getD k 0) := getD_of hi
        have h2 := pre_get hp.2 this
        have h3 : some (st.2.getD k 0) = some q := h2.symm.trans hkq
        exact fold_all fr _ l st e he (heq.trans (Option.some.inj h3).symm)
      · have hlt : k < st.2.length := by omega
        have h1 : st.2[k]? = some q := by
          rw [List.getElem?_eq_getElem hlt]
          have := pre_get hp.2 (List.getElem?_eq_getElem hlt)
          exact this.symm.trans hkq
        exact met_pre hp.1 (h.all k q (by omega) h1 e he heq)
    · rename_i hi
      intro b hb e he hq
      have hall : ∀ q ∈ st.2, ∀ e ∈ l, e.1 = q → metW st.1 e.2 = true := fun q hq e he heq => by
        obtain ⟨k, hk, hkq⟩ := List.mem_iff_getElem.1 hq
        exact h.all k q (by omega) (by rw [List.getElem?_eq_getElem hk, hkq]) e he heq
      rcases hb with hb | hb
      · exact hall fr (List.mem_of_getElem? h.fst) e he (hq.trans hb)
      · rcases h.inq b hb with h1 | h1
        · exact hall fr (List.mem_of_getElem? h.fst) e he (hq.trans h1)
        · exact hall b h1 e he hq

theorem walk_closed (l : List (Int × Int)) (fr b : Int) (hb : b = fr ∨ b ∈ afterW l fr) (e : Int × Int) (he : e ∈ l) (hq : e.1 = b) : e.2 ∈ afterW l fr := by
  have := done_it l fr (l.length + 2) 0 ([], [fr]) (by omega) ⟨goodW_new l fr, rfl, fun k q hk => by omega, fun x hx => by simp [metW] at hx⟩ b (by
    rcases hb with hb | hb
    · exact .inl hb
    · exact .inr (metW_mem.2 hb)) e he hq
  exact metW_mem.1 this

/-- the search tells just those that one comes to -/
theorem after_reach (l : List (Int × Int)) (fr x : Int) : x ∈ afterW l fr ↔ Reach l fr x := by
  constructor
  · intro h
    unfold afterW at h
    obtain ⟨s, hs, rfl⟩ := List.mem_map.1 h
    obtain ⟨i, hi, hsi⟩ := List.mem_iff_getElem.1 hs
    exact walk_sound l fr i s (by rw [List.getElem?_eq_getElem hi, hsi])
  · intro h
    have key : ∀ {a b : Int}, Reach l a b → (a = fr ∨ a ∈ afterW l fr) → b ∈ afterW l fr := by
      intro a b hab
      induction hab with
      | one e => intro ha; exact walk_closed l fr _ ha _ e rfl
      | more e _ ih => intro ha; exact ih (.inr (walk_closed l fr _ ha _ e rfl))
    exact key h (.inl rfl)

/-- no ring -/
def NoRing (l : List (Int × Int)) : Prop := ∀ x, ¬ Reach l x x

theorem cycle_none_iff (l : List (Int × Int)) (fr : Int) : cycleW l fr = [] ↔ ¬ Reach l fr fr := by
  rw [← after_reach]
  constructor
  · intro h hm
    obtain ⟨h1, _⟩ := cycleW_some l fr hm
    rw [h] at h1
    cases h1
  · exact cycleW_none l fr

theorem NoRing.sub {l l' : List (Int × Int)} (h : NoRing l) (hs : ∀ e ∈ l', e ∈ l) : NoRing l' := fun x hx => h x (hx.sub hs)

/-- edges from t alone are new, and t is in no ring: there is none -/
theorem NoRing.from {l l' : List (Int × Int)} (h : NoRing l) (t : Int) (hs : ∀ e ∈ l', e.1 ≠ t → e ∈ l) (ht : ¬ Reach l' t t) : NoRing l' := by
  have key : ∀ {a b : Int}, Reach l' a b → Reach l a b ∨ ((a = t ∨ Reach l' a t) ∧ (Reach l' t b)) := by
    intro a b hab
    induction hab with
    | @one x y e =>
      by_cases hx : x = t
      · subst hx; exact .inr ⟨.inl rfl, .one e⟩
      · exact .inl (.one (hs _ e hx))
    | @more x y z e h2 ih =>
      by_cases hx : x = t
      · subst hx; exact .inr ⟨.inl rfl, .more e h2⟩
      · rcases ih with ih | ⟨ih1, ih2⟩
        · exact .inl (.more (hs _ e hx) ih)
        · refine .inr ⟨.inr ?_, ih2⟩
          rcases ih1 with rfl | ih1
          · exact .one e
          · exact .more e ih1
  intro x hx
  rcases key hx with h1 | ⟨h1 | h1, h2⟩
  · exact h x h1
  · subst h1; exact ht h2
  · exact ht (h2.trans h1)

/-- edges to t alone are new, and none leaves t: there is no ring -/
theorem NoRing.into {l l' : List (Int × Int)} (h : NoRing l) (t : Int) (hs : ∀ e ∈ l', e.2 ≠ t → e ∈ l) (ht : ∀ e ∈ l', e.1 ≠ t) : NoRing l' := by
  have key : ∀ {a b : Int}, Reach l' a b → b ≠ t → Reach l a b := by
    intro a b hab
    induction hab with
    | @one x y e => intro hb; exact .one (hs _ e hb)
    | @more x y z e h2 ih =>
      intro hb
      have hy : y ≠ t := by
        rintro rfl
        cases h2 with
        | one e2 => exact ht _ e2 rfl
        | more e2 _ => exact ht _ e2 rfl
      exact .more (hs _ e hy) (ih hb)
  intro x hx
  have hxt : x ≠ t := by
    rintro rfl
    cases hx with
    | one e => exact ht _ e rfl
    | more e _ => exact ht _ e rfl
  exact h x (key hx hxt)

end Go.Proofs.YtcgiicmmfleinaaGreatDoor
