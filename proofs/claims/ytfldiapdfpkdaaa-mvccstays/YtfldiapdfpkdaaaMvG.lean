/- The reference's SameVersion and SameCells, where both are alike. -/
import Derived.Test.YtfldiapdfpkdaaaMvF
import Derived.Test.YtfldiapdfpkdaaaSaT
namespace Go.Proofs.Ytfldiapdfpkdaaa
open Go.RowKit NumMath Go.ChangeShapes Go.WideShapes Go.Deep
set_option linter.unusedVariables false
set_option maxRecDepth 100000

/-- a version that may be read in a world -/
def MV.at (w : World) (m : MV) : Prop := IsBytes w m.va m.vn m.vc m.v.val ∧ IsTexts w m.ka m.kn m.kc m.v.ks

theorem MV.at.keep {w w' : World} {m : MV} (h : m.at w) (hb : Below w.heap.size w w') : m.at w' := ⟨h.1.keep hb, h.2.keep hb⟩

theorem MV.ok.at {w0 w : World} {m : MV} (h : m.ok w0) (hb : Below w0.heap.size w0 w) : m.at w := ⟨h.1.keep hb, h.2.keep hb⟩

set_option maxHeartbeats 4000000 in
theorem sameV_any (m m' : MV) (w : World) (h : m.at w) (h' : m'.at w) (e : m.v = m'.v) :
    Calls Try.prog 15 #[.agg #[.int .u64 m.v.ts, .int .u64 m.v.tx, .bool m.v.dd, .slice m.va m.vn m.vc, .slice m.ka m.kn m.kc], .agg #[.int .u64 m'.v.ts, .int .u64 m'.v.tx, .bool m'.v.dd, .slice m'.va m'.vn m'.vc, .slice m'.ka m'.kn m'.kc]] w fun e w' => e = .returned (.bool true) ∧ Below w.heap.size w w' := by
  obtain ⟨v, va, vn, vc, ka, kn, kc⟩ := m
  obtain ⟨v', va', vn', vc', ka', kn', kc'⟩ := m'
  dsimp only at *
  subst e
  obtain ⟨ts, tx, dd, val, ks⟩ := v
  obtain ⟨h1, h2⟩ := h
  obtain ⟨h1', h2'⟩ := h'
  have hb1 := new_below w (.cells #[.int .u64 ts, .int .u64 tx, .bool dd, .slice va vn vc, .slice ka kn kc] 36)
  have hb2 := new_below (w.alloc (.cells #[.int .u64 ts, .int .u64 tx, .bool dd, .slice va vn vc, .slice ka kn kc] 36)) (.cells #[.int .u64 ts, .int .u64 tx, .bool dd, .slice va' vn' vc', .slice ka' kn' kc'] 36)
  have HB := hide (hb1.trans (hb2.mono hb1.size))
  have q1 := (h1.keep HB.out).conv
  have q2 := (h1'.keep HB.out).conv
  have HT := hide (sameT_self ka kn kc ks ka' kn' kc' _ (h2.keep HB.out) (h2'.keep HB.out))
  have hq := strB_eq val val h1.2.2.2.1 h1.2.2.2.1
  rw [decide_eq_true (rfl : val = val)] at hq
  clear h1 h2 h1' h2' hb1 hb2
  go_enter Try.func15, Try.ntmps15
  go_wp2_with (first
    | (go_at_call 16; go_must (refine HT.out.mono ?_); rintro e w1 ⟨rfl, hb⟩; have HB1 := hide hb; clear hb))
  go_ret
  exact ⟨rfl, HB.out.trans (HB1.out.mono HB.out.size)⟩

end Go.Proofs.Ytfldiapdfpkdaaa
