/- The reference's Edges: what they are. -/
import Derived.Test.YtcgiicmmfleinaaDoorLk8
import Derived.Test.YtcgiicmmfleinaaDoorSgA
namespace Go.Proofs.YtcgiicmmfleinaaDoor
open Go.RowKit NumMath Go.ChangeShapes Go.WideShapes Go.Deep
set_option linter.unusedVariables false
set_option maxRecDepth 100000

/-- whether an edge is among those -/
def knownE (l : List (Int × Int)) (e : Int × Int) : Bool := l.any (fun x => x == e)

theorem known_more {l : List (Int × Int)} {j : Nat} {x : Int × Int} (h : l[j]? = some x) (e : Int × Int) : knownE (l.take (j + 1)) e = (knownE (l.take j) e || x == e) := by
  unfold knownE
  rw [List.take_add_one, h, List.any_append]
  simp

theorem known_mem {l : List (Int × Int)} {e : Int × Int} : knownE l e = true ↔ e ∈ l := by
  unfold knownE
  rw [List.any_eq_true]
  constructor
  · rintro ⟨x, hx, hxe⟩
    rw [← eq_of_beq hxe]; exact hx
  · intro h
    exact ⟨e, h, by simp⟩

theorem dd_known {l : List (Int × Int)} {e : Int × Int} : ddW l e = if knownE l e = true then l else l ++ [e] := by
  unfold ddW
  by_cases h : e ∈ l
  · rw [if_pos h, if_pos (known_mem.2 h)]
  · rw [if_neg h, if_neg (fun e => h (known_mem.1 e))]

/-- the edges of those that wait up to k, and of the next one's first j -/
def edK (hs ws : List ML) (k : Nat) : List (Int × Int) := ddL (rawE (hs.map ML.l) [] ((ws.take k).map ML.l))

def edJ (hs ws : List ML) (k : Nat) (m : ML) (j : Nat) : List (Int × Int) := (((wayM hs (ws.take k) m).take j).map (fun h => (m.l.tx, h.l.tx))).foldl ddW (edK hs ws k)

theorem edJ_zero (hs ws : List ML) (k : Nat) (m : ML) : edJ hs ws k m 0 = edK hs ws k := rfl

theorem edJ_more {hs ws : List ML} {k : Nat} {m h : ML} {j : Nat} (hj : (wayM hs (ws.take k) m)[j]? = some h) : edJ hs ws k m (j + 1) = ddW (edJ hs ws k m j) (m.l.tx, h.l.tx) := by
  unfold edJ
  rw [List.take_add_one, hj, List.map_append, List.foldl_append]
  rfl

theorem edJ_all {hs ws : List ML} {k : Nat} {m : ML} (hk : ws[k]? = some m) {j : Nat} (hj : (wayM hs (ws.take k) m).length ≤ j) : edJ hs ws k m j = edK hs ws (k + 1) := by
  unfold edJ edK ddL
  rw [List.take_of_length_le hj, List.take_add_one, hk]
  show _ = (rawE (hs.map ML.l) [] ((ws.take k ++ [m]).map ML.l)).foldl ddW []
  rw [List.map_append, List.map_singleton, rawE_snoc, List.foldl_append, List.nil_append, ← wayM_l, List.map_map]
  rfl

theorem edK_len (hs ws : List ML) (k : Nat) (h1 : hs.length ≤ 1000) (h2 : ws.length ≤ 1000) : (edK hs ws k).length ≤ k * 2000 := by
  unfold edK
  have h3 := dd_len (rawE (hs.map ML.l) [] ((ws.take k).map ML.l)) []
  refine Nat.le_trans h3 ?_
  rw [List.length_nil, Nat.zero_add]
  have key : ∀ (r a : List Lck), a.length + r.length ≤ 1000 → (rawE (hs.map ML.l) a r).length ≤ r.length * 2000 := by
    intro r
    induction r with
    | nil => intro a _; simp [rawE]
    | cons x r ih =>
      intro a ha
      rw [rawE, List.length_append, List.length_map]
      have h5 := ih (a ++ [x]) (by simp only [List.length_append, List.length_cons, List.length_nil] at *; omega)
      have h6 : (wayL (hs.map ML.l) a x).length ≤ 2000 := by
        unfold wayL
        rw [List.length_append]
        have e1 := List.length_filter_le (standsL x) (hs.map ML.l)
        have e2 := List.length_filter_le (standsL x) a
        rw [List.length_map] at e1
        have e3 : (if holdsL (hs.map ML.l) x = true then [] else againstL a x).length ≤ a.length := by
          split
          · simp
          · exact e2
        have e4 : (againstL (hs.map ML.l) x).length ≤ 1000 := Nat.le_trans e1 h1
        simp only [List.length_cons] at ha
        omega
      rw [List.length_cons]; omega
  have h4 := key ((ws.take k).map ML.l) [] (by simp; omega)
  refine Nat.le_trans h4 (Nat.mul_le_mul_right _ ?_)
  rw [List.length_map, List.length_take]; omega

theorem edJ_len (hs ws : List ML) (k : Nat) (m : ML) (j : Nat) (h1 : hs.length ≤ 1000) (h2 : ws.length ≤ 1000) (hk : k ≤ 1000) : (edJ hs ws k m j).length ≤ 3000000 := by
  unfold edJ
  have h3 := dd_len (((wayM hs (ws.take k) m).take j).map (fun h => (m.l.tx, h.l.tx))) (edK hs ws k)
  have h4 := edK_len hs ws k h1 h2
  have h5 : (((wayM hs (ws.take k) m).take j).map (fun h => (m.l.tx, h.l.tx))).length ≤ 2000 := by
    rw [List.length_map, List.length_take]
    have : (wayM hs (ws.take k) m).length ≤ 2000 := by
      unfold wayM
      rw [List.length_append]
      have e1 := List.length_filter_le (fun m' : ML => standsL m.l m'.l) hs
      have e2 := List.length_filter_le (fun m' : ML => standsL m.l m'.l) (ws.take k)
      rw [List.length_take] at e2
      have e3 : (if holdsL (hs.map ML.l) m.l = true then [] else (ws.take k).filter (fun m' => standsL m.l m'.l)).length ≤ 1000 := by
        split
        · simp
        · omega
      omega
    omega
  have : k * 2000 ≤ 1000 * 2000 := Nat.mul_le_mul_right _ hk
  omega

end Go.Proofs.YtcgiicmmfleinaaDoor
