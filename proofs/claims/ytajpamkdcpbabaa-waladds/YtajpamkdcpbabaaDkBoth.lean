/- A disk and the reference's, side by side, with the same bytes. -/
import Derived.Test.YtajpamkdcpbabaaDkRef
namespace Go.Proofs.Ytajpamkdcpbabaa
open Go.RowKit NumMath
set_option linter.unusedVariables false

structure Both (w : World) (base p q size : Nat) (bs : List Int) (syn : Nat) : Prop where
  d : IsD w base p size bs syn
  x : IsX w base q size bs syn
  off : Off2 2 0 w p q
  h1 : syn ≤ bs.length
  h2 : bs.length ≤ size
  h3 : size ≤ 10000

theorem Both.keep {w w' : World} {base p q size : Nat} {bs : List Int} {syn : Nat} (h : Both w base p q size bs syn) (hb : Below w.heap.size w w') : Both w' base p q size bs syn :=
  ⟨h.d.keep hb, h.x.keep hb, h.off.keep h.d.at h.x.at hb, h.h1, h.h2, h.h3⟩

theorem Both.few {w : World} {base p q size : Nat} {bs : List Int} {syn : Nat} (h : Both w base p q size bs syn) : bs.length ≤ 1000000000 := by have := h.h2; have := h.h3; omega

theorem Both.base {w : World} {base p q size : Nat} {bs : List Int} {syn : Nat} (h : Both w base p q size bs syn) : base ≤ w.heap.size := Nat.le_of_lt (Nat.lt_of_le_of_lt (h.d.lt SB.at).2 h.d.at)

/-- behind a call of the one -/
theorem Both.mid {w w2 : World} {base p q size : Nat} {bs : List Int} {syn : Nat} (h : Both w base p q size bs syn) (hp : SPost 2 w p w2) : IsX w2 base q size bs syn := h.x.off h.off hp

/-- behind a call of the one that changes nothing but where it lies -/
theorem Both.self {w w2 : World} {base p q size : Nat} {bs : List Int} {syn : Nat} (h : Both w base p q size bs syn) (hp : SPost 2 w p w2) (hd : IsD w2 base p size bs syn) : Both w2 base p q size bs syn :=
  ⟨hd, h.mid hp, h.off.next (fun k hk => (h.x.lt hk).1) hp, h.h1, h.h2, h.h3⟩

/-- behind a call of both -/
theorem Both.next {w w2 w3 : World} {base p q size : Nat} {bs bs' : List Int} {syn syn' : Nat} (h : Both w base p q size bs syn) (hp : SPost 2 w p w2) (hd : IsD w2 base p size bs' syn') (hq : SPost 0 w2 q w3) (hx : IsX w3 base q size bs' syn') (h1 : syn' ≤ bs'.length) (h2 : bs'.length ≤ size) : Both w3 base p q size bs' syn' := by
  have o2 := (h.off.next (fun k hk => (h.x.lt hk).1) hp).symm
  exact ⟨hd.off o2 hq, hx, (o2.next (fun k hk => (hd.lt hk).1) hq).symm, h1, h2, h.h3⟩

theorem Both.below {w w2 w3 : World} {base p q size : Nat} {bs : List Int} {syn : Nat} (h : Both w base p q size bs syn) (hp : SPost 2 w p w2) (hq : SPost 0 w2 q w3) : Below base w w3 :=
  (h.d.below hp h.base).trans ((h.mid hp).below hq (Nat.le_trans h.base hp.size))

/-- a block that is new beside both -/
theorem Both.newD {w w1 : World} {base p q size : Nat} {bs : List Int} {syn : Nat} (h : Both w base p q size bs syn) (hb : Below w.heap.size w w1) {g : Nat} (hg : w.heap.size ≤ g) : ¬ SB 2 w1 p g := fun hk => by
  have := (h.d.lt (hk.same (hb.block p h.d.at))).1
  omega

theorem Both.newX {w w1 w2 : World} {base p q size : Nat} {bs : List Int} {syn : Nat} (h : Both w base p q size bs syn) (hb : Below w.heap.size w w1) (hp : SPost 2 w1 p w2) {g : Nat} (hg : w.heap.size ≤ g) : ¬ SB 0 w2 q g := fun hk => by
  have e := hp.1.block q (h.keep hb).x.at (fun hx => (h.keep hb).off q hx SB.at)
  have := (h.x.lt ((hk.same e).same (hb.block q h.x.at))).1
  omega

theorem Both.xs {w : World} {base p q size : Nat} {bs : List Int} {syn : Nat} (h : Both w base p q size bs syn) : ∃ a n c, w.cell? ⟨q, 0, none⟩ = some (.slice a n c) ∧ w.cell? ⟨q, 1, none⟩ = some (.int .i64 (syn : Int)) ∧ IsBytes w a n c bs := by
  obtain ⟨a, n, c, hc, h1, _, _, hB, _⟩ := h.x
  exact ⟨a, n, c, hc, h1, hB⟩

theorem IsX.mono {w : World} {base base' q size : Nat} {bs : List Int} {syn : Nat} (h : IsX w base q size bs syn) (hb : base' ≤ base) : IsX w base' q size bs syn := by
  obtain ⟨a, n, c, hc, h1, h2, hf, hB, hq, ho⟩ := h
  exact ⟨a, n, c, hc, h1, h2, hf, hB, Nat.le_trans hb hq, fun x hx => ⟨Nat.le_trans hb (ho x hx).1, (ho x hx).2⟩⟩

theorem both_new {w w1 w2 : World} {size : Nat} (hd : IsD w1 w.heap.size w.heap.size size [] 0) (hb1 : Below w.heap.size w w1) (hx : IsX w2 w1.heap.size w1.heap.size size [] 0) (hb2 : Below w1.heap.size w1 w2) (hs : size ≤ 10000) : Both w2 w.heap.size w.heap.size w1.heap.size size [] 0 :=
  ⟨hd.keep hb2, hx.mono hb1.size, fun k hk hk' => by
    have h1 := (hd.lt (hk.same (hb2.block _ hd.at))).1
    have h2 := (hx.lt hk').2
    omega, Nat.zero_le _, Nat.zero_le _, hs⟩

theorem dapp_num (size : Nat) (bs xs : List Int) (syn : Nat) (h1 : syn ≤ bs.length) (h2 : bs.length ≤ size) : syn ≤ (dapp size bs xs).2.length ∧ (dapp size bs xs).2.length ≤ size := by
  unfold dapp
  split
  · exact ⟨h1, h2⟩
  · simp only [List.length_append]; omega

theorem dswap_num (size : Nat) (bs : List Int) (syn : Nat) (xs : List Int) (h1 : syn ≤ bs.length) (h2 : bs.length ≤ size) : (dswap size bs syn xs).2.2 ≤ (dswap size bs syn xs).2.1.length ∧ (dswap size bs syn xs).2.1.length ≤ size := by
  unfold dswap
  split
  · exact ⟨h1, h2⟩
  · exact ⟨Nat.le_refl _, by show xs.length ≤ size; omega⟩

theorem dcut_num (size : Nat) (bs : List Int) (syn : Nat) (n : Int) (h1 : syn ≤ bs.length) (h2 : bs.length ≤ size) : (dcut bs syn n).2.2 ≤ (dcut bs syn n).2.1.length ∧ (dcut bs syn n).2.1.length ≤ size := by
  unfold dcut
  split
  · exact ⟨h1, h2⟩
  · simp only [List.length_take]; omega

end Go.Proofs.Ytajpamkdcpbabaa
