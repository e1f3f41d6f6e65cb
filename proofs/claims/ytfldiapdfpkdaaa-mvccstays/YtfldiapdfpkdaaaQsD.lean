/- slices.Delete of versions from a place on; the cell's gc. The program's cell: gc. The program's store in memory: its map of cells. -/
import Derived.Test.YtfldiapdfpkdaaaQsC
import Derived.Maps.RangeWalk
import Derived.Sort.KeysCollected
namespace Go.Proofs.Ytfldiapdfpkdaaa
open Go.RowKit NumMath Go.ChangeShapes Go.WideShapes Go.Deep
set_option linter.unusedVariables false
set_option maxRecDepth 100000

/-- what Delete leaves -/
def DelPost (base : Nat) (w : World) (a : Option Addr) (n i c : Nat) (xs : List MV) (e : Ending) (w' : World) : Prop :=
  e = .returned (.slice a i c) ∧ OwnY layV w' base (.slice a i c) (xs.take i) ∧ w.grownBy w' (Value.slice a n c).ownBlock

set_option maxHeartbeats 1000000 in
theorem delete_none (base : Nat) (w : World) (a : Option Addr) (n c : Nat) (xs : List MV) (h : OwnY layV w base (.slice a n c) xs) :
    Calls Try.prog 60 #[.slice a n c, .int .i64 n, .int .i64 n] w fun e w' => DelPost base w a n n c xs e w' := by
  obtain ⟨hl, hnc, hcm⟩ := h.len
  have hcI : (c : Int) ≤ 9223372036854775807 := by unfold maxLen at hcm; omega
  have HF : Hid (DelPost base w a n n c xs (.returned (.slice a n c)) w) := ⟨rfl, by rw [List.take_of_length_le (by omega)]; exact h, ⟨rfl, rfl, rfl, Nat.le_refl _, fun _ _ _ => rfl⟩⟩
  clear h hcm
  by_cases h0 : n = 0
  · subst h0
    go_enter Try.func60, Try.ntmps60
    go_wp2
    go_ret
    exact HF.out
  · have hn0 : ¬ ((n : Int) = 0) := by omega
    go_enter Try.func60, Try.ntmps60
    go_wp2
    go_ret
    exact HF.out

set_option maxHeartbeats 4000000 in
theorem delete_some (base : Nat) (w : World) (g n cap : Nat) (xs : List MV) (h : OwnY layV w base (.slice (some ⟨g, 0, none⟩) n cap) xs) (i : Nat) (hi : i < n) :
    Calls Try.prog 60 #[.slice (some ⟨g, 0, none⟩) n cap, .int .i64 i, .int .i64 n] w fun e w' => DelPost base w (some ⟨g, 0, none⟩) n i cap xs e w' := by
  have HFr := hide (h.front i (by omega))
  obtain ⟨cur, rest, hg, hbg, hnc, hcm, hcur, hlen, hl⟩ := h.open
  have hcI : (cap : Int) ≤ 9223372036854775807 := by unfold maxLen at hcm; omega
  have hcs : cur.size = cap * 5 := by rw [← Array.length_toList, hcur, List.length_append]; exact hlen
  obtain ⟨i0, hi0, _, hz1, _⟩ := info_parts layV.info
  have hap : ∀ (W : World) ty sa c', W.heap[g]? = w.heap[g]? → (Builtin.append_ #[50, 50] ty #[.slice (some ⟨g, 0, none⟩) i cap, .slice sa 0 c']).run Try.prog W = .ok (.slice (some ⟨g, 0, none⟩) i cap) W := fun W ty sa c' hW => run_append_empty W base layV.t ty layV.e i0 layV.k layV.und hi0 _ _ _ (HFr.out.lies (fun k hk => by cases hk; exact hW)) sa c'
  obtain ⟨Z, hZl, hcl⟩ := run_clearR layV w.drew 0 g (i * 5) (n - i) (cap - i) (by omega) cur 36 hg (by rw [hcs]; show i * 5 + (n - i) * 5 ≤ _; omega) (by intro u hu; simp [layV, Value.cells] at hu; rcases hu with rfl | rfl | rfl | rfl | rfl <;> rfl)
  obtain ⟨C, hC⟩ : ∃ C : Array Value, C = (cur.toList.take (i * 5) ++ Z ++ cur.toList.drop (i * 5 + Z.length)).toArray := ⟨_, rfl⟩
  rw [← hC] at hcl
  have hZl' : Z.length = (n - i) * 5 := hZl
  have HSh : Hid (OwnY layV (w.drew.setRow g C) base (.slice (some ⟨g, 0, none⟩) i cap) (xs.take i)) := by
    have hln : (xs.take i).length = i := by rw [List.length_take]; omega
    have hA : cur.toList.take (i * 5) = flatY layV (xs.take i) := by
      rw [hcur, flatY_cut layV xs i, List.append_assoc]
      have : (flatY layV (xs.take i)).length = i * 5 := by rw [flatY_length, hln]; rfl
      rw [← this]
      exact List.take_left
    have hfl : (flatY layV (xs.take i)).length = i * 5 := by rw [flatY_length, hln]; rfl
    have hcs' : cur.toList.length = cap * 5 := by rw [Array.length_toList]; exact hcs
    have := OwnY.shut (L := layV) (w := w.drew.setRow g C) (xs := xs.take i) (cap := cap) (rest := Z ++ cur.toList.drop (i * 5 + Z.length)) (setRow_heap _ _ _ _ _ _ hg) hbg (by omega) hcm (by rw [hC, ← hA, ← List.append_assoc]) (by rw [hfl, List.length_append, List.length_drop, hcs']; show _ = cap * 5; omega)
    rw [hln] at this
    exact this
  have HGw : Hid (w.grownBy (w.drew.setRow g C) (some g)) := grown_then grown_drew (grown_setRow C)
  have ha := fun ty sa c' => hap w.drew ty sa c' rfl
  have hcl' : ∀ ty, (Builtin.clear_ #[50] ty #[.slice (some ⟨g, i * 5, none⟩) (n - i) (cap - i)]).run Try.prog w.drew = .ok (.tuple #[]) (w.drew.setRow g C) := fun ty => hcl
  clear h hcm hcur hlen hl hcs hap hC hZl hZl' hi0 hz1 hg hcl
  have h1 : ((i : Int) == (n : Int)) = false := by simp; omega
  have h2 : (i : Int) ≤ (n : Int) := by omega
  have h3 : (n : Int) ≤ (cap : Int) := by omega
  have h4 : (i : Int) ≤ (cap : Int) := by omega
  have h5 : ¬ ((i : Int) = (n : Int)) := by omega
  have h6 : ¬ (cap = i) := by omega
  have h7 : ¬ (n = i) := by omega
  by_cases h8 : cap = n
  · subst h8
    go_enter Try.func60, Try.ntmps60
    go_wp2_with fail
    go_region_law (first
      | (refine step_appR (by rfl) (.tmp 22) (.tmp 25) 50 50 (by rfl) (.slice (some ⟨g, 0, none⟩) i cap) _ (by rfl) (by rfl) (ha _ _ _) ?_))
    all_goals
      go_wp2
      go_ret
      exact ⟨rfl, HSh.out, HGw.out⟩
  · go_enter Try.func60, Try.ntmps60
    go_wp2_with fail
    go_region_law (first
      | (refine step_appR (by rfl) (.tmp 22) (.tmp 25) 50 50 (by rfl) (.slice (some ⟨g, 0, none⟩) i cap) _ (by rfl) (by rfl) (ha _ _ _) ?_))
    all_goals
      go_wp2
      go_ret
      exact ⟨rfl, HSh.out, HGw.out⟩

theorem delete_any (base : Nat) (w : World) (a : Option Addr) (n c : Nat) (xs : List MV) (h : OwnY layV w base (.slice a n c) xs) (i : Nat) (hi : i ≤ n) :
    Calls Try.prog 60 #[.slice a n c, .int .i64 i, .int .i64 n] w fun e w' => DelPost base w a n i c xs e w' := by
  by_cases he : i = n
  · subst he
    exact delete_none base w a i c xs h
  · rcases h.form with ⟨e, e0⟩ | ⟨g, cap, e, _⟩
    · simp only [Value.slice.injEq] at e; omega
    · simp only [Value.slice.injEq] at e
      obtain ⟨rfl, _, rfl⟩ := e
      exact delete_some base w g n c xs h i (by omega)

end Go.Proofs.Ytfldiapdfpkdaaa

namespace Go.Proofs.Ytfldiapdfpkdaaa
open Go.RowKit NumMath Go.ChangeShapes Go.WideShapes Go.Deep
set_option linter.unusedVariables false
set_option maxRecDepth 100000

/-- how many versions are kept -/
def gcK (ts : Int) (vs : List MV) : Nat := posV tsM ts vs + (match vs[posV tsM ts vs]? with
  | some x => if x.v.dd = true then 0 else 1
  | none => 0)

theorem gcK_le (ts : Int) (vs : List MV) : gcK ts vs ≤ vs.length := by
  unfold gcK
  have h := posV_le tsM ts vs
  cases hx : vs[posV tsM ts vs]? with
  | none => dsimp only; omega
  | some x =>
    have := (List.getElem?_eq_some_iff.1 hx).1
    dsimp only
    split <;> omega

theorem gcK_eq (ts : Int) (vs : List MV) (hd : Desc Ver.ts (vs.map MV.v)) : (vs.take (gcK ts vs)).map MV.v = gcV ts (vs.map MV.v) := by
  rw [gcV_eq ts _ hd]
  have hp : posV Ver.ts ts (vs.map MV.v) = posV tsM ts vs := posV_map MV.v tsM Ver.ts (fun _ => rfl) ts vs
  have h1 := take_pos Ver.ts ts (vs.map MV.v)
  have h2 := drop_pos Ver.ts ts (vs.map MV.v)
  rw [hp] at h1 h2
  rw [← h1, ← h2]
  unfold gcK
  cases hx : vs[posV tsM ts vs]? with
  | none =>
    have hl : vs.length ≤ posV tsM ts vs := List.getElem?_eq_none_iff.1 hx
    have hdn : (vs.map MV.v).drop (posV tsM ts vs) = [] := List.drop_of_length_le (by rw [List.length_map]; exact hl)
    rw [hdn]
    simp [List.map_take]
  | some x =>
    have hl := (List.getElem?_eq_some_iff.1 hx).1
    have hdn : (vs.map MV.v).drop (posV tsM ts vs) = x.v :: (vs.map MV.v).drop (posV tsM ts vs + 1) := by
      rw [List.drop_eq_getElem_cons (by rw [List.length_map]; exact hl)]
      congr 1
      rw [List.getElem_map]
      congr 1
      exact (List.getElem?_eq_some_iff.1 hx).2
    rw [hdn]
    dsimp only
    by_cases hdd : x.v.dd = true
    · rw [if_pos hdd, if_pos hdd]; simp [List.map_take]
    · rw [if_neg hdd, if_neg hdd, List.take_add_one, hx, List.map_append, List.map_take]
      rfl

theorem gcK_n (ts : Int) (vs : List MV) (hd : Desc Ver.ts (vs.map MV.v)) : vs.length - gcK ts vs = gcN ts (vs.map MV.v) := by
  have h := gc_len Ver.ts Ver.dd ts (vs.map MV.v) ([], false, 0)
  have h2 := congrArg List.length (gcK_eq ts vs hd)
  rw [List.length_map, List.length_take] at h2
  have h3 := gcK_le ts vs
  unfold gcV at h2
  unfold gcN
  unfold gcFold at h2 ⊢
  rw [List.length_map] at h
  simp only [List.length_nil, Nat.zero_add] at h
  omega

theorem desc_map {vs : List MV} (h : Desc tsM vs) : Desc Ver.ts (vs.map MV.v) := by
  unfold Desc at *
  rw [List.pairwise_map]
  exact h

theorem desc_of {vs : List MV} (h : Desc Ver.ts (vs.map MV.v)) : Desc tsM vs := by
  unfold Desc at *
  rw [List.pairwise_map] at h
  exact h

set_option maxHeartbeats 4000000 in
theorem pgc_any (base : Nat) (w : World) (m : PC) (h : m.is base w) (hb : base ≤ w.heap.size) (hd : Desc tsM m.vs) (hn : m.vs.length ≤ 100000) (ts : Int) :
    Calls Try.prog 46 #[.pointer (some ⟨m.b, 0, none⟩), .int .u64 ts] w fun e w' => e = .returned (.int .i64 ((m.vs.length - gcK ts m.vs : Nat) : Int)) ∧ ∃ vv', CPost base w m { m with vv := vv', vs := m.vs.take (gcK ts m.vs) } w' := by
  have HP := hide (pplace_any base w m h hd (by omega) ts)
  have hP := posV_le tsM ts m.vs
  obtain ⟨K, hK⟩ : ∃ K, K = gcK ts m.vs := ⟨_, rfl⟩
  have hKl : K ≤ m.vs.length := by rw [hK]; exact gcK_le ts m.vs
  have hK2 := hK
  unfold gcK at hK2
  rw [← hK]
  obtain ⟨a, n, c, hv, hl, hnc, hcm⟩ := h.own.any4
  have H := hide h
  have HV := hide hv
  have HL := hide hl
  have HK2 := hide hK2
  rw [hl] at hKl hP
  generalize posV tsM ts m.vs = P at *
  have hcI : (c : Int) ≤ 9223372036854775807 := by unfold maxLen at hcm; omega
  clear h hd hv hcm hK hK2
  go_enter Try.func46, Try.ntmps46
  go_upto_region 2 with (first
    | (go_at_call 53; go_must (refine HP.out.mono ?_); rintro e w1 ⟨rfl, hb1⟩; have HB1 := hide hb1; clear hb1))
  have HM1 := hide (H.out.keep HB1.out)
  have c0 := HM1.out.x.1
  rw [HV.out] at c0
  have HDel : Hid (∀ W, Below w1.heap.size w1 W → Calls Try.prog 60 #[.slice a n c, .int .i64 K, .int .i64 n] W fun e w' => DelPost base W a n K c m.vs e w') := fun W hW => delete_any base W a n c m.vs (by have := (HM1.out.keep hW).own; rw [HV.out] at this; exact this) K hKl
  have HCm : Hid (∀ W w3, Below w1.heap.size w1 W → W.grownBy w3 (Value.slice a n c).ownBlock → w3.cell? ⟨m.b, 0, none⟩ = some (.slice a n c) ∧ w3.frozen? ⟨m.b, 0, none⟩ = false) := by
    intro W w3 hW hg
    have h5 := HM1.out.keep hW
    have hmb := hg.block m.b h5.lt (fun e => h5.ne (by rw [HV.out]; exact e.symm))
    exact ⟨(World.cell?_of_block (a := ⟨m.b, 0, none⟩) hmb).trans (by have := h5.x.1; rw [HV.out] at this; exact this), (World.frozen?_of_block (a := ⟨m.b, 0, none⟩) hmb).trans (h5.fz 0)⟩
  have HEnd : Hid (∀ w3, OwnY layV w3 base (.slice a K c) (m.vs.take K) → w1.drew.grownBy w3 (Value.slice a n c).ownBlock → CPost base w m { m with vv := .slice a K c, vs := m.vs.take K } (w3.setCell ⟨m.b, 0, none⟩ (.slice a K c))) := by
    intro w3 ho hg
    rw [← HV.out] at hg
    refine ins_post H.out hb HB1.out (Below.refl _ w1).drew ho hg (.inl ?_)
    rw [HV.out]
    cases a <;> rfl
  have hKn : (K : Int) ≤ (n : Int) := by omega
  have hm0 := HM1.out.lt
  by_cases hin : P < n
  · obtain ⟨x, hx⟩ : ∃ x, m.vs[P]? = some x := ⟨_, List.getElem?_eq_getElem (by have := HL.out; omega)⟩
    obtain ⟨g, cap, e, hg1, hg2, -, -, hC, hfr⟩ : ∃ g cap, m.vv = .slice (some ⟨g, 0, none⟩) m.vs.length cap ∧ base ≤ g ∧ g < w1.heap.size ∧ m.vs.length ≤ cap ∧ cap ≤ maxLen ∧ CellsY layV w1 g 0 m.vs ∧ ∀ i, w1.frozen? ⟨g, i, none⟩ = false := by
      rcases HM1.out.own.form with ⟨e, e0⟩ | h
      · rw [e0] at hx; simp at hx
      · exact h
    have hga : a = some ⟨g, 0, none⟩ := by rw [HV.out] at e; simp only [Value.slice.injEq] at e; exact e.1
    subst hga
    have hcells : w1.rangeAt g (P * 5) (layV.cells x) := by have := hC P _ hx; rw [Nat.zero_add] at this; exact this
    have x2 := (rangeV hcells).2.2.1
    have hPi : (P : Int) < (n : Int) := by omega
    have hKx : K = P + (if x.v.dd = true then 0 else 1) := by rw [HK2.out, hx]
    clear hC e hcells hfr hx
    obtain ⟨z, hz⟩ : ∃ z, x.v.dd = z := ⟨_, rfl⟩
    rw [hz] at x2 hKx
    clear hz
    cases z
    · have hKp : (P : Int) + 1 = (K : Int) := by simp at hKx; omega
      clear hKx
      go_wp2_with fail
      go_region_with (first
        | (go_at_call 60; go_must (refine (HDel.out _ (by exact (Below.refl _ w1).drew)).mono ?_); rintro e w3 ⟨rfl, ho3, hg3⟩; obtain ⟨d0, d1⟩ := HCm.out _ w3 (by exact (Below.refl _ w1).drew) hg3; have HO3 := hide ho3; have HG3 := hide hg3; clear ho3 hg3))
      all_goals
        go_wp2
        go_ret
        exact ⟨by rw [HL.out]; simp; omega, _, HEnd.out w3 HO3.out HG3.out⟩
    · have hKp : P = K := by simp at hKx; omega
      subst hKp
      clear hKx
      go_wp2_with fail
      go_region_with (first
        | (go_at_call 60; go_must (refine (HDel.out _ (by exact (Below.refl _ w1).drew)).mono ?_); rintro e w3 ⟨rfl, ho3, hg3⟩; obtain ⟨d0, d1⟩ := HCm.out _ w3 (by exact (Below.refl _ w1).drew) hg3; have HO3 := hide ho3; have HG3 := hide hg3; clear ho3 hg3))
      all_goals
        go_wp2
        go_ret
        exact ⟨by rw [HL.out]; simp; omega, _, HEnd.out w3 HO3.out HG3.out⟩
  · have hKx : K = P := by
      have hx : m.vs[P]? = none := List.getElem?_eq_none (by have := HL.out; omega)
      rw [HK2.out, hx]; rfl
    have hPn : P = n := by omega
    subst hPn
    subst hKx
    go_wp2_with fail
    go_region_with (first
      | (go_at_call 60; go_must (refine (HDel.out _ (by exact (Below.refl _ w1).drew)).mono ?_); rintro e w3 ⟨rfl, ho3, hg3⟩; obtain ⟨d0, d1⟩ := HCm.out _ w3 (by exact (Below.refl _ w1).drew) hg3; have HO3 := hide ho3; have HG3 := hide hg3; clear ho3 hg3))
    all_goals
      go_wp2
      go_ret
      exact ⟨by rw [HL.out]; simp, _, HEnd.out w3 HO3.out HG3.out⟩

end Go.Proofs.Ytfldiapdfpkdaaa

namespace Go.Proofs.Ytfldiapdfpkdaaa
open Go.RowKit NumMath Go.ChangeShapes Go.WideShapes Go.Deep
set_option linter.unusedVariables false
set_option maxRecDepth 100000

/-- how a pointer to a cell reads -/
def ptrElem (v : Value) : Option (DataW Unit × List MemPlace) := match v with
  | .pointer none => some (.lit (.int .i64 (-1)), [])
  | .pointer (some ⟨b, 0, none⟩) => some (.lit (.int .i64 (b : Int)), [])
  | _ => none

def ptrV (x : Int) : Value := if x = -1 then .pointer none else .pointer (some ⟨x.toNat, 0, none⟩)

theorem ptrV_of (b : Nat) : ptrV (b : Int) = .pointer (some ⟨b, 0, none⟩) := by
  unfold ptrV
  rw [if_neg (by omega)]
  simp

theorem ptrElem_inv {v : Value} {d : DataW Unit} {ps : List MemPlace} (h : ptrElem v = some (d, ps)) : ∃ x : Int, v = ptrV x ∧ d = .lit (.int .i64 x) ∧ -1 ≤ x := by
  unfold ptrElem at h
  split at h
  · simp at h
    exact ⟨-1, rfl, h.1.symm, by omega⟩
  · rename_i b
    simp at h
    exact ⟨b, (ptrV_of b).symm, h.1.symm, by omega⟩
  · cases h

/-- bytes as numbers -/
def nb (x : List UInt8) : List Int := x.map (fun c => (c.toNat : Int))

def kb (key : List Int) : List UInt8 := (strB key).data.toList

theorem nb_kb {key : List Int} (h : ∀ c ∈ key, 0 ≤ c ∧ c < 256) : nb (kb key) = key := sb_strB key h

theorem nb_inj {x y : List UInt8} (h : nb x = nb y) : x = y := by
  have : (⟨x.toArray⟩ : ByteArray) = ⟨y.toArray⟩ := sb_inj (by simpa [sb, nb] using h)
  simpa using this

theorem kb_len {key : List Int} (h : ∀ c ∈ key, 0 ≤ c ∧ c < 256) : (strB key).size = key.length := by
  rw [← sb_length, sb_strB key h]

theorem strB_kb (key : List Int) : encStr (kb key) = .string (strB key) := by simp [encStr, kb]

/-- the map in block mb: which cell stands at a key (-1: none) -/
def MapF (w : World) (mb z : Nat) (f : List Int → Int) : Prop := ∃ D, w.ownsMap (H := Unit) Try.prog 9 ptrElem mb z D ∧ ∀ x : List UInt8, D.atKey (.string x) (.lit (.int .i64 (-1))) = .lit (.int .i64 (f (nb x))) ∧ (Maps.has D (.string x) = true ↔ f (nb x) ≠ -1)

theorem MapF.same {w w' : World} {mb z : Nat} {f : List Int → Int} (h : MapF w mb z f) (e : w'.heap[mb]? = w.heap[mb]?) : MapF w' mb z f := by
  obtain ⟨D, ⟨es, clock, hb, F, hs, hD⟩, hC⟩ := h
  exact ⟨D, ⟨es, clock, e.trans hb, F, hs, hD⟩, hC⟩

theorem MapF.lt {w : World} {mb z : Nat} {f : List Int → Int} (h : MapF w mb z f) : mb < w.heap.size := by
  obtain ⟨D, h, _⟩ := h
  exact h.lt

theorem MapF.more {w : World} {mb z z' : Nat} {f : List Int → Int} (h : MapF w mb z f) (hz : z ≤ z') : MapF w mb z' f := by
  obtain ⟨D, h, hC⟩ := h
  exact ⟨D, h.mono hz, hC⟩

theorem mapF_new (w : World) : MapF (w.alloc (.map #[] 0)) w.heap.size 0 (fun _ => -1) :=
  ⟨.map [], World.ownsMap_made w _ _ _, fun x => ⟨rfl, by simp [Maps.has_eq]⟩⟩

theorem keyS {key : List Int} (h : ∀ c ∈ key, 0 ≤ c ∧ c < 256) (hl : key.length ≤ 1000000) : keyOf Try.prog 9 (.string (strB key)) = some (.string (kb key)) := by
  have hs := kb_len h
  have hs' : (strB key).size ≤ maxLen := by rw [hs]; unfold maxLen; omega
  simp [keyOf, Try.underlying9, mapKey, hs', kb]

theorem zeroPt (w : World) : (zeroValue 65).run Try.prog w = .ok (.pointer none) w := Try.zeroValue65 w

theorem MapF.look {w : World} {mb z : Nat} {f : List Int → Int} (h : MapF w mb z f) {key : List Int} (hk : ∀ c ∈ key, 0 ≤ c ∧ c < 256) (hl : key.length ≤ 1000000) : ∀ W : World, W.heap[mb]? = w.heap[mb]? → (Instr.lookup 72 (.map (some mb)) (.string (strB key)) false).run Try.prog W = .ok (ptrV (f key)) W := by
  intro W hW
  obtain ⟨D, hD, hC⟩ := h.same hW
  obtain ⟨v, ps, h1, h2⟩ := hD.lookup (Maps.string_keyed Try.underlying9) Try.underlying72 (zeroPt W) (show ptrElem (.pointer none) = some (.lit (.int .i64 (-1)), []) from rfl) (keyS hk hl)
  rw [(hC (kb key)).1, nb_kb hk] at h2
  obtain ⟨x, rfl, e, _⟩ := ptrElem_inv h2
  rw [h1]
  have : f key = x := by simpa using e
  rw [this]

theorem kl_ne {key : List Int} (hk : ∀ c ∈ key, 0 ≤ c ∧ c < 256) {x : List UInt8} (e : ¬ nb x = key) : (Lit.string x) ≠ .string (kb key) := by
  intro h
  apply e
  have : x = kb key := by simpa using h
  rw [this, nb_kb hk]

/-- a cell laid at a key -/
theorem MapF.put {w : World} {mb z : Nat} {f : List Int → Int} (h : MapF w mb z f) (hz : z ≤ 1000000) {key : List Int} (hk : ∀ c ∈ key, 0 ≤ c ∧ c < 256) (hl : key.length ≤ 1000000) (b : Nat) :
    ∃ w', (Instr.mapUpdate 72 (.map (some mb)) (.string (strB key)) (.pointer (some ⟨b, 0, none⟩))).run Try.prog w = .ok () w' ∧ MapF w' mb (z + 1) (fun k => if k = key then (b : Int) else f k) ∧ w.grownBy w' (some mb) := by
  obtain ⟨D, hD, hC⟩ := h
  obtain ⟨w', h1, h2, h3⟩ := hD.update (Maps.string_keyed Try.underlying9) Try.underlying72 (by unfold maxLen; omega) (keyS hk hl) (show ptrElem (.pointer (some ⟨b, 0, none⟩)) = some (.lit (.int .i64 (b : Int)), []) from rfl)
  refine ⟨w', h1, ⟨_, h2, fun x => ?_⟩, h3⟩
  by_cases e : nb x = key
  · have ex : x = kb key := nb_inj (by rw [e, nb_kb hk])
    subst ex
    rw [Maps.atKey_put_same hD.isMap ((Maps.string_keyed Try.underlying9).key (keyS hk hl)), Maps.has_put_same hD.isMap ((Maps.string_keyed Try.underlying9).key (keyS hk hl))]
    simp only [if_pos e]
    simp
  · have hne : (Lit.string x) ≠ .string (kb key) := kl_ne hk e
    rw [Maps.atKey_put_other hne, Maps.has_put_other hne]
    simp only [if_neg e]
    exact hC x

/-- a key struck -/
theorem MapF.del {w : World} {mb z : Nat} {f : List Int → Int} (h : MapF w mb z f) {key : List Int} (hk : ∀ c ∈ key, 0 ≤ c ∧ c < 256) (hl : key.length ≤ 1000000) (ty : TypeId) :
    ∃ w', (Builtin.delete_ #[72, 9] ty #[.map (some mb), .string (strB key)]).run Try.prog w = .ok (.tuple #[]) w' ∧ MapF w' mb z (fun k => if k = key then -1 else f k) ∧ w.grownBy w' (some mb) := by
  obtain ⟨D, hD, hC⟩ := h
  obtain ⟨w', h1, h2, h3⟩ := hD.drop (Maps.string_keyed Try.underlying9) Try.underlying72 (keyS hk hl) ty
  refine ⟨w', h1, ⟨_, h2, fun x => ?_⟩, h3.grown⟩
  by_cases e : nb x = key
  · have ex : x = kb key := nb_inj (by rw [e, nb_kb hk])
    subst ex
    rw [Maps.atKey_del_same, Maps.has_del_same]
    simp only [if_pos e]
    simp
  · have hne : (Lit.string x) ≠ .string (kb key) := kl_ne hk e
    rw [Maps.atKey_del_other hne, Maps.has_del_other hne]
    simp only [if_neg e]
    exact hC x

end Go.Proofs.Ytfldiapdfpkdaaa
