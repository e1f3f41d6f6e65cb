/- A wal with its disk, and the reference's disk, side by side. -/
import Derived.Test.YtajpamkdcpbabaaWl4
import Derived.Test.YtajpamkdcpbabaaDkBoth
namespace Go.Proofs.Ytajpamkdcpbabaa
open Go.RowKit NumMath
set_option linter.unusedVariables false

theorem dadd_num (size : Nat) (bs xs : List Int) (syn : Nat) (h1 : syn ≤ bs.length) (h2 : bs.length ≤ size) : (dadd size bs syn xs).2.2 ≤ (dadd size bs syn xs).2.1.length ∧ (dadd size bs syn xs).2.1.length ≤ size := by
  unfold dadd
  split
  · exact ⟨h1, h2⟩
  · simp only [List.length_append]; omega

structure WBoth (w : World) (base p x q size : Nat) (bs : List Int) (syn : Nat) : Prop where
  b : Both w base p x size bs syn
  wl : WalAt w q p
  off : ¬ SB 0 w x q

/-- behind Open -/
theorem wboth_open {w w2 : World} {base p x q size : Nat} {bs : List Int} {syn : Nat} (h : Both w base p x size bs syn) (hp : SPost 2 w p w2) (hd : IsD w2 base p size bs syn) (hw : WalAt w2 q p) (hq : w.heap.size ≤ q) : WBoth w2 base p x q size bs syn := by
  refine ⟨h.self hp hd, hw, fun hx => ?_⟩
  have := (h.x.lt (hx.same (hp.1.block x h.x.at (fun hy => h.off x hy SB.at)))).1
  omega

/-- behind a call of both -/
theorem WBoth.next {w w2 w3 : World} {base p x q size : Nat} {bs bs' : List Int} {syn syn' : Nat} (h : WBoth w base p x q size bs syn) (hp : SPost 2 w p w2) (hd : IsD w2 base p size bs' syn') (hq : SPost 0 w2 x w3) (hx : IsX w3 base x size bs' syn') (hn : syn' ≤ bs'.length ∧ bs'.length ≤ size) : WBoth w3 base p x q size bs' syn' := by
  have hw2 := h.wl.next hp
  have hlt : q < w2.heap.size := World.block_lt_of_cell? _ ⟨q, 0, none⟩ hw2.1
  have ho2 : ¬ SB 0 w2 x q := fun hy => h.off (hy.same (hp.1.block x h.b.x.at (fun hz => h.b.off x hz SB.at)))
  have o2 := h.b.off.next (fun k hk => (h.b.x.lt hk).1) hp
  refine ⟨h.b.next hp hd hq hx hn.1 hn.2, ⟨(hq.cell hlt ho2).trans hw2.1, fun hy => hw2.2 (hy.same (hq.1.block p hd.at (fun hz => o2 p SB.at hz)))⟩, fun hy => ?_⟩
  rcases hq.2 q hy with h1 | h1
  · exact ho2 h1
  · omega

end Go.Proofs.Ytajpamkdcpbabaa
