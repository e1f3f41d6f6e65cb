/- The reference's table in memory; way: what it answers. -/
import Derived.Test.YtcgiicmmfleinaaGreatDoorLkM
import Derived.Test.YtcgiicmmfleinaaGreatDoorTx
namespace Go.Proofs.YtcgiicmmfleinaaGreatDoor
open Go.RowKit NumMath Go.ChangeShapes Go.WideShapes Go.Deep
set_option linter.unusedVariables false
set_option maxRecDepth 100000

/-- the reference's table at block q, as it is read -/
structure TxA (w : World) (q : Nat) (ha : Option Addr) (hn hc : Nat) (wa : Option Addr) (wn wc : Nat) (hs ws : List ML) : Prop where
  c0 : w.cell? ⟨q, 0, none⟩ = some (.slice ha hn hc)
  c1 : w.cell? ⟨q, 1, none⟩ = some (.slice wa wn wc)
  q : q < w.heap.size
  h : IsY layK w ha hn hc hs
  wt : IsY layK w wa wn wc ws
  ho : ∀ m ∈ hs, m.ok w
  wo : ∀ m ∈ ws, m.ok w

theorem TxA.keep {w w' : World} {q : Nat} {ha : Option Addr} {hn hc : Nat} {wa : Option Addr} {wn wc : Nat} {hs ws : List ML} (h : TxA w q ha hn hc wa wn wc hs ws) (hb : Below w.heap.size w w') : TxA w' q ha hn hc wa wn wc hs ws :=
  ⟨(hb.cell (p := ⟨q, 0, none⟩) h.q).trans h.c0, (hb.cell (p := ⟨q, 1, none⟩) h.q).trans h.c1, Nat.lt_of_lt_of_le h.q hb.size, h.h.keep hb, h.wt.keep hb, fun m hm => (h.ho m hm).keep hb, fun m hm => (h.wo m hm).keep hb⟩

def wayM (hs bs : List ML) (x : ML) : List ML := hs.filter (fun m => standsL x.l m.l) ++ (if holdsL (hs.map ML.l) x.l = true then [] else bs.filter (fun m => standsL x.l m.l))

theorem wayM_l (hs bs : List ML) (x : ML) : (wayM hs bs x).map ML.l = wayL (hs.map ML.l) (bs.map ML.l) x.l := by
  unfold wayM wayL againstL
  rw [List.map_append, List.filter_map]
  congr 1
  split
  · rfl
  · rw [List.filter_map]; rfl

theorem holds_more {hs : List ML} {k : Nat} {m x : ML} (h : hs[k]? = some m) : holdsL ((hs.take (k + 1)).map ML.l) x.l = (holdsL ((hs.take k).map ML.l) x.l || (m.l.tx == x.l.tx && meetsL m.l x.l)) := by
  unfold holdsL
  rw [List.take_add_one, h, List.map_append, List.any_append]
  simp

theorem holds_pre {hs : List ML} {k : Nat} {x : ML} (h : holdsL ((hs.take k).map ML.l) x.l = true) : holdsL (hs.map ML.l) x.l = true := by
  unfold holdsL at *
  obtain ⟨y, hy, e⟩ := List.any_eq_true.1 h
  obtain ⟨m, hm, rfl⟩ := List.mem_map.1 hy
  exact List.any_eq_true.2 ⟨m.l, List.mem_map.2 ⟨m, List.mem_of_mem_take hm, rfl⟩, e⟩

end Go.Proofs.YtcgiicmmfleinaaGreatDoor
