/- restore, whatever the snapshot. -/
import Derived.Test.YtodmieehdleohaaGreatRtc
import Derived.Test.YtodmieehdleohaaGreatRtn
import Derived.Test.YtodmieehdleohaaGreatRtd
namespace Go.Proofs.YtodmieehdleohaaGreat
open Go.RowKit NumMath
set_option linter.unusedVariables false
set_option maxRecDepth 100000

theorem restore_any (X : Nat → Prop) (base p z : Nat) (N : Nd) (si st : Int) (ma : Option Addr) (mn mc : Nat) (sm : List Int) (da : Option Addr) (dn dc : Nat) (sd : List Int) (w0 w : World) (h : IsNd X w base p z N) (hO : N.Ok z) (hz : z ≤ 9000) (hB : w0.heap.size ≤ base) (hb0 : Below w0.heap.size w0 w) (hS : IsSnap w0 si st ma mn mc sm da dn dc sd) (hmn : mn ≤ 9) (hdn : dn ≤ 5000) (hc : N.commit < capI si) (hl : N.L.s.i ≤ N.commit) :
    Calls Tryz.prog 118 #[.pointer (some ⟨p, 0, none⟩), .agg #[.int .u64 si, .int .u64 st, .slice ma mn mc, .slice da dn dc]] w fun e w' => RstPost X w base p z (Fwd z N) e w' := by
  have h9 : sm.length ≤ 9 := by have := hS.2.2.1.1; omega
  have hd6 : sd.length ≤ 1000000 := by have := hS.2.2.2.1; omega
  have hr := rep_came hO ⟨si, st, sm, sd⟩ hS.1 hS.2.1 hS.2.2.1.2.2.2.1 h9 hd6 mem_none9
  have e : headS9 N.L = headS N.L := rfl
  rw [e] at hr
  rcases hr with hne | ⟨⟨h1, h2⟩, hx⟩
  · exact restore_no X base p z N si st ma mn mc sm da dn dc sd w0 w h hO hz hB hb0 hS hmn hdn _ hne rfl
  · by_cases hd : 0 < N.L.dirty
    · exact restore_dirty X base p z N si st ma mn mc sm da dn dc sd w0 w h hO hz hB hb0 hS hmn hdn hc hl hd h1 h2 hx
    · exact restore_clean X base p z N si st ma mn mc sm da dn dc sd w0 w h hO hz hB hb0 hS hmn hdn hc hl hd h1 h2 hx

end Go.Proofs.YtodmieehdleohaaGreat
