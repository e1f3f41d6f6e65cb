/- The reference's After and Cycle: what they answer. -/
import Derived.Test.YtbnojmaknlfphaaDoorWt2
namespace Go.Proofs.YtbnojmaknlfphaaDoor
open Go.RowKit NumMath Go.ChangeShapes Go.WideShapes Go.Deep
set_option linter.unusedVariables false
set_option maxRecDepth 100000

def cycW (fr : Int) : List (Int × Int) → Int → List Int → List Int
  | [], _, _ => []
  | s :: r, at', acc => if s.1 = at' then (if s.2 = fr then s.2 :: acc else cycW fr r s.2 (s.2 :: acc)) else cycW fr r at' acc

/-- a shortest way back -/
def cycleW (l : List (Int × Int)) (fr : Int) : List Int := cycW fr (walkW l fr).reverse fr []

def afterW (l : List (Int × Int)) (fr : Int) : List Int := (walkW l fr).map Prod.fst

theorem goodW_it (fr : Int) (l : List (Int × Int)) : ∀ (f i : Nat) (st : WSt), GoodW l st → GoodW l (itW fr l f i st) := by
  intro f
  induction f with
  | zero => intro i st h; exact h
  | succ f ih =>
    intro i st h
    rw [itW]
    split
    · exact ih _ _ (h.fold fr _ l st (fun e he => he))
    · exact h

theorem walkW_good (l : List (Int × Int)) (fr : Int) : ((walkW l fr).map Prod.fst).Nodup ∧ (∀ s ∈ walkW l fr, (s.2, s.1) ∈ l) ∧ (walkW l fr).length ≤ l.length :=
  have h := goodW_it fr l (l.length + 2) 0 ([], [fr]) (goodW_new l fr)
  ⟨h.nd, h.ed, h.le⟩

theorem rev_take {α : Type} (ws : List α) (k : Nat) (x : α) (h : ws[k]? = some x) : (ws.take (k + 1)).reverse = x :: (ws.take k).reverse := by
  rw [List.take_add_one, h]
  simp

set_option maxHeartbeats 4000000 in
theorem cycleN_any (a : Option Addr) (len cap : Nat) (l : List (Int × Int)) (fr : Int) (w : World) (h : IsY layE w a len cap l) (hl : len ≤ 100000) :
    Calls Tryd.prog 47 #[.slice a len cap, .int .u64 fr] w fun e w' => ∃ v, e = .returned v ∧ OwnY layU w' w.heap.size v (cycleW l fr) ∧ Below w.heap.size w w' ∧ (cycleW l fr = [] → v = .slice none 0 0) := by
  have HW := hide (walk_any a len cap l fr w h hl)
  have hwl : (walkW l fr).length ≤ len := by have := (walkW_good l fr).2.2; rw [h.1] at this; exact this
  unfold cycleW
  generalize walkW l fr = ws at *
  clear h
  go_enter Tryd.func47, Tryd.ntmps47
  go_wp2_with (first
    | (go_at_call 62; go_must (refine HW.out.mono ?_); rintro e w1 ⟨v, rfl, ho, hb⟩; obtain ⟨oa, on, oc, rfl⟩ := ho.any3; have hon := ho.len; have HO := hide ho; have HB := hide hb; clear ho hb))
  have hoc : (oc : Int) ≤ 9223372036854775807 := by have := hon.2.2; unfold maxLen at this; omega
  have hws := HB.out.size
  go_loopg [6, 7, 8] on (fun gk v at' i wr => ∃ (k : Nat) (z : Int) (acc : List Int), gk = k ∧ i = .int .i64 ((k : Int) - 1) ∧ k ≤ on ∧ at' = .int .u64 z ∧ cycW fr (ws.take k).reverse z acc = cycW fr ws.reverse fr [] ∧ acc.length + k ≤ on ∧ OwnY layU wr w1.heap.size v acc ∧ Below w1.heap.size w1 wr)
  case atStart => exact ⟨on, fr, [], rfl, by go_num, Nat.le_refl _, rfl, by rw [List.take_of_length_le (by omega)], by simp, ownY_nil _ _, Below.refl _ _⟩
  case round =>
    obtain ⟨k, z, acc, hgk, rfl, hk, rfl, hC, hac, hU, hB1⟩ := hrel
    obtain ⟨va, vn, vc, rfl⟩ := hU.any3
    have HU := hide hU
    have HB1 := hide hB1
    have HC := hide hC
    have hul := hU.len.1
    clear hU hB1 hC
    cases k with
    | zero =>
      have HE : Hid (cycW fr ws.reverse fr [] = []) := by show _ = _; rw [← HC.out]; rfl
      go_wp2
      go_ret
      exact ⟨_, rfl, by rw [HE.out]; exact ownY_nil _ _, HB.out.trans (HB1.out.mono hws), fun _ => rfl⟩
    | succ k =>
      have ei : ((k + 1 : Nat) : Int) - 1 = (k : Int) := by omega
      rw [ei]
      have hko : (k : Int) < (on : Int) := by omega
      obtain ⟨s, t, hst⟩ := pair_at (l := ws) (j := k) (by omega)
      rcases HO.out.form with ⟨e, eo⟩ | ⟨go, co, e, hgo1, hgo2, hocap, homx, hCo, hFo⟩
      · exfalso; rw [eo] at hst; simp at hst
      cases e
      have d := hCo k _ hst
      rw [Nat.zero_add] at d
      obtain ⟨d0, d1⟩ := rangeE d
      have d0' := (HB1.out.cell (p := ⟨go, k * 2, none⟩) hgo2).trans d0
      have d1' := (HB1.out.cell (p := ⟨go, k * 2 + 1, none⟩) hgo2).trans d1
      have hC2 := HC.out
      rw [rev_take ws k (s, t) hst, cycW] at hC2
      have hsz := HB1.out.size
      clear d d0 d1 hCo hFo
      by_cases hsz1 : s = z
      · subst hsz1
        rw [if_pos rfl] at hC2
        have HK1 := hide (new_below wr (.cells #[.int .u64 t] 22))
        have HN1 := hide (ownY_one (L := layU) wr w1.heap.size #[.int .u64 t] t hsz rfl)
        have HS1 := hide (HU.out.is.src.keep HK1.out)
        by_cases htf : t = fr
        · subst htf
          rw [if_pos rfl] at hC2
          have HC2 := hide hC2
          clear hC2
          go_wp2_with (first
            | (at_builtin; go_must (refine wp_joinY layU _ rfl (.tmp 33) (.tmp 34) rfl w1.heap.size _ [t] rfl HN1.out va vn vc acc rfl HS1.out (by simp; omega) (by simp; omega) ?_); intro v5 w5 hown5 hg5 hat5; have HO5 := hide hown5; have HB5 := hide ((HK1.out.mono hsz).trans (HN1.out.grown hg5 (by simp; omega))); obtain ⟨xa, xn, xc, rfl⟩ := hown5.any3; clear hown5 hg5 hat5))
          go_ret
          exact ⟨_, rfl, by rw [← HC2.out]; exact HO5.out.mono hws, HB.out.trans ((HB1.out.trans HB5.out).mono hws), fun h => by rw [← HC2.out] at h; cases h⟩
        · rw [if_neg htf] at hC2
          have HC2 := hide hC2
          clear hC2
          go_wp2_with (first
            | (at_builtin; go_must (refine wp_joinY layU _ rfl (.tmp 33) (.tmp 34) rfl w1.heap.size _ [t] rfl HN1.out va vn vc acc rfl HS1.out (by simp; omega) (by simp; omega) ?_); intro v5 w5 hown5 hg5 hat5; have HO5 := hide hown5; have HB5 := hide ((HK1.out.mono hsz).trans (HN1.out.grown hg5 (by simp; omega))); obtain ⟨xa, xn, xc, rfl⟩ := hown5.any3; clear hown5 hg5 hat5))
          go_roundg k
          case measure => omega
          case rel => exact ⟨k, t, t :: acc, rfl, by go_num, by omega, rfl, HC2.out, by simp; omega, HO5.out, HB1.out.trans HB5.out⟩
      · rw [if_neg hsz1] at hC2
        have HC2 := hide hC2
        clear hC2
        go_wp2
        go_roundg k
        case measure => omega
        case rel => exact ⟨k, z, acc, rfl, by go_num, by omega, rfl, HC2.out, by omega, HU.out, HB1.out⟩

theorem cycle_any (a : Option Addr) (len cap : Nat) (l : List (Int × Int)) (fr : Int) (w : World) (h : IsY layE w a len cap l) (hl : len ≤ 100000) :
    Calls Tryd.prog 47 #[.slice a len cap, .int .u64 fr] w fun e w' => ∃ v, e = .returned v ∧ OwnY layU w' w.heap.size v (cycleW l fr) ∧ Below w.heap.size w w' :=
  (cycleN_any a len cap l fr w h hl).mono (fun e w' ⟨v, h1, h2, h3, _⟩ => ⟨v, h1, h2, h3⟩)

end Go.Proofs.YtbnojmaknlfphaaDoor
