/- The program's store alone: what a call that changes it leaves of what was told of it ahead. -/
import Derived.Test.YtfldiapdfpkdaaaQw2
import Derived.Test.YtfldiapdfpkdaaaMvG
namespace Go.Proofs.Ytfldiapdfpkdaaa
open Go.RowKit NumMath Go.ChangeShapes Go.WideShapes Go.Deep
set_option linter.unusedVariables false
set_option maxRecDepth 100000

/-- the program's store at p holds st; what a call may change lies below N -/
def SolT (w0 w : World) (N p n : Nat) (st : List Cel) : Prop := ∃ mb z cs, z ≤ n ∧ IsS (fun _ => False) w0.heap.size w p mb z cs ∧ cs.map PC.c = st ∧ Below w0.heap.size w0 w ∧ ∀ k, Mut mb cs k → k < N

theorem SolS.solT {w0 w : World} {p n : Nat} {st : List Cel} (h : SolS w0 w p n st) : SolT w0 w w.heap.size p n st := by
  obtain ⟨mb, z, cs, h1, h2, h3, h4⟩ := h
  exact ⟨mb, z, cs, h1, h2, h3, h4, fun k hk => h2.mlt hk⟩

theorem SolT.solS {w0 w : World} {N p n : Nat} {st : List Cel} (h : SolT w0 w N p n st) : SolS w0 w p n st := by
  obtain ⟨mb, z, cs, h1, h2, h3, h4, h5⟩ := h
  exact ⟨mb, z, cs, h1, h2, h3, h4⟩

theorem SolT.keep {w0 w w' : World} {N p n : Nat} {st : List Cel} (h : SolT w0 w N p n st) (hb : Below w.heap.size w w') : SolT w0 w' N p n st := by
  obtain ⟨mb, z, cs, h1, h2, h3, h4, h5⟩ := h
  exact ⟨mb, z, cs, h1, h2.keep hb, h3, h4.trans (hb.mono h4.size), h5⟩

theorem keeps_mono {M M' : Nat → Prop} {w w' : World} (h : Keeps M w w') (hm : ∀ k, M k → M' k) : Keeps M' w w' :=
  ⟨h.os, h.tape, h.output, h.size, fun k hk hn => h.block k hk (fun e => hn (hm k e))⟩

theorem BxV.keepM {w w' : World} {N g : Nat} {m : MV} (h : BxV w g m) (hk : Keeps (fun k => k < N) w w') (hg : N ≤ g) : BxV w' g m := by
  have e := hk.block g h.lt (fun e => by omega)
  exact ⟨rangeY_same h.r e, Nat.lt_of_lt_of_le h.lt hk.size, fun j => by
    have := h.fz j
    unfold World.frozen? at this ⊢
    rw [show w'.heap[(⟨g, j, none⟩ : Addr).block]? = w.heap[(⟨g, j, none⟩ : Addr).block]? from e]
    exact this⟩

theorem sol_gcT {w0 w : World} {B p N : Nat} {st : List Cel} (h : SolT w0 w B p N st) (hN : N ≤ 5000) (hg : GoodP st) (ts : Int) :
    Calls Try.prog 21 #[.pointer (some ⟨p, 0, none⟩), .int .u64 ts] w fun e w' => e = .returned (.int .i64 (gcCn ts st)) ∧ SolS w0 w' p N ((stepL (setVs (gcV ts)) (keysC st) (keysC st).length st).filter liveC) ∧ Keeps (fun k => k < B) w w' := by
  obtain ⟨mb, z, cs, h1, h2, h3, h4, hB⟩ := h
  subst h3
  refine (pGc_any _ _ w p mb z cs h2 (by omega) hg.live ts).mono ?_
  rintro e w' ⟨rfl, cs', h5, h6, h7, h8⟩
  exact ⟨rfl, ⟨mb, z, cs', by omega, h5, h6, h4.trans (h7.below h4.size (fun k hk => h2.mlo' hk))⟩, keeps_mono h7 hB⟩

/-- SameVersion of two alike, with what they say of being dead told by letters -/
theorem sameV_dd (m m' : MV) (d d' : Bool) (w : World) (h : m.at w) (h' : m'.at w) (e : m.v = m'.v) (hd : m.v.dd = d) (hd' : m'.v.dd = d') :
    Calls Try.prog 15 #[.agg #[.int .u64 m.v.ts, .int .u64 m.v.tx, .bool d, .slice m.va m.vn m.vc, .slice m.ka m.kn m.kc], .agg #[.int .u64 m'.v.ts, .int .u64 m'.v.tx, .bool d', .slice m'.va m'.vn m'.vc, .slice m'.ka m'.kn m'.kc]] w fun e w' => e = .returned (.bool true) ∧ Below w.heap.size w w' := by
  subst hd hd'
  exact sameV_any m m' w h h' e

end Go.Proofs.Ytfldiapdfpkdaaa
