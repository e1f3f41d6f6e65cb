/- The program's cell in memory; where a time stands among its versions. The program's cell: place, upTo, intended, taken, empty. Rows of things of any one kind: copy, append of zeros. -/
import Derived.Test.YtfldiapdfpkdaaaQsA
import Derived.Test.YtfldiapdfpkdaaaMvP
import Derived.Test.YtfldiapdfpkdaaaRwY
import Derived.Laws.CopyRow
import Derived.Lib.Overlaps
import Derived.Lib.AppendZerosOnto
namespace Go.Proofs.Ytfldiapdfpkdaaa
open Go.RowKit NumMath Go.ChangeShapes Go.WideShapes Go.Deep
set_option linter.unusedVariables false
set_option maxRecDepth 100000

/-- a key's cell of the program: its block, its list of versions, its intent -/
structure PC where
  key : List Int
  b : Nat
  vv : Value
  vs : List MV
  it : MV

def PC.c (m : PC) : Cel := ⟨m.key, m.vs.map MV.v, m.it.v⟩

/-- a cell lies in memory, from base on -/
structure PC.is (base : Nat) (w : World) (m : PC) : Prop where
  r : w.rangeAt m.b 0 (m.vv :: layV.cells m.it)
  fz : ∀ j, w.frozen? ⟨m.b, j, none⟩ = false
  lo : base ≤ m.b
  lt : m.b < w.heap.size
  own : OwnY layV w base m.vv m.vs
  ne : m.vv.ownBlock ≠ some m.b

theorem PC.is.keep {base : Nat} {w w' : World} {m : PC} (h : m.is base w) (hb : Below w.heap.size w w') : m.is base w' :=
  ⟨rangeY_same h.r (hb.block m.b h.lt), fun j => (hb.frozen (p := ⟨m.b, j, none⟩) h.lt).trans (h.fz j), h.lo, Nat.lt_of_lt_of_le h.lt hb.size, h.own.keep hb, h.ne⟩

theorem PC.is.x {base : Nat} {w : World} {m : PC} (h : m.is base w) : w.cell? ⟨m.b, 0, none⟩ = some m.vv ∧ w.cell? ⟨m.b, 1, none⟩ = some (.int .u64 m.it.v.ts) ∧ w.cell? ⟨m.b, 2, none⟩ = some (.int .u64 m.it.v.tx) ∧ w.cell? ⟨m.b, 3, none⟩ = some (.bool m.it.v.dd) ∧ w.cell? ⟨m.b, 4, none⟩ = some (.slice m.it.va m.it.vn m.it.vc) ∧ w.cell? ⟨m.b, 5, none⟩ = some (.slice m.it.ka m.it.kn m.it.kc) :=
  ⟨h.r 0 _ rfl, h.r 1 _ rfl, h.r 2 _ rfl, h.r 3 _ rfl, h.r 4 _ rfl, h.r 5 _ rfl⟩

/-- how many versions stand above a time -/
def posV {α : Type} (tv : α → Int) (ts : Int) (vs : List α) : Nat := (vs.takeWhile (fun x => decide (ts < tv x))).length

theorem posV_le {α : Type} (tv : α → Int) (ts : Int) (vs : List α) : posV tv ts vs ≤ vs.length := (List.takeWhile_sublist _).length_le

theorem posV_lt {α : Type} (tv : α → Int) (ts : Int) : ∀ (vs : List α) (i : Nat) (x : α), vs[i]? = some x → i < posV tv ts vs → ts < tv x := by
  intro vs
  induction vs with
  | nil => intro i x h; simp at h
  | cons a r ih =>
    intro i x h hi
    unfold posV at hi
    rw [List.takeWhile_cons] at hi
    split at hi
    · rename_i hc
      cases i with
      | zero => simp at h; subst h; simpa using hc
      | succ j => exact ih j x (by simpa using h) (by unfold posV; simpa using hi)
    · simp at hi

theorem posV_ge {α : Type} (tv : α → Int) (ts : Int) : ∀ (vs : List α), Desc tv vs → ∀ (i : Nat) (x : α), vs[i]? = some x → posV tv ts vs ≤ i → tv x ≤ ts := by
  intro vs
  induction vs with
  | nil => intro _ i x h; simp at h
  | cons a r ih =>
    intro hd i x h hi
    unfold Desc at hd
    rw [List.pairwise_cons] at hd
    unfold posV at hi
    rw [List.takeWhile_cons] at hi
    split at hi
    · cases i with
      | zero => simp at hi
      | succ j => exact ih hd.2 j x (by simpa using h) (by unfold posV; simpa using hi)
    · rename_i hc
      have ha : tv a ≤ ts := by simpa using hc
      cases i with
      | zero => simp at h; subst h; exact ha
      | succ j =>
        have hm : x ∈ r := List.mem_of_getElem? (by simpa using h)
        have := hd.1 x hm
        omega

theorem posV_map {α β : Type} (f : α → β) (ta : α → Int) (tb : β → Int) (h : ∀ x, tb (f x) = ta x) (ts : Int) (vs : List α) : posV tb ts (vs.map f) = posV ta ts vs := by
  unfold posV
  induction vs with
  | nil => rfl
  | cons a r ih =>
    rw [List.map_cons, List.takeWhile_cons, List.takeWhile_cons, h]
    split
    · simp only [List.length_cons, ih]
    · rfl

set_option maxHeartbeats 1000000 in
theorem place1_any (base : Nat) (w : World) (m : PC) (h : m.is base w) (i : Nat) (x : MV) (hx : m.vs[i]? = some x) (ts : Int) (B1 B2 : Nat) (h1 : w.cell? ⟨B1, 0, none⟩ = some (.pointer (some ⟨m.b, 0, none⟩))) (h2 : w.cell? ⟨B2, 0, none⟩ = some (.int .u64 ts)) :
    Calls Try.prog 65 #[.int .i64 i, .pointer (some ⟨B1, 0, none⟩), .pointer (some ⟨B2, 0, none⟩)] w fun e w' => e = .returned (.bool (decide (x.v.ts ≤ ts))) ∧ Below w.heap.size w w' := by
  have hlt := (List.getElem?_eq_some_iff.1 hx).1
  obtain ⟨g, cap, e, hg1, hg2, hcap, hmax, hC, hfr⟩ : ∃ g cap, m.vv = .slice (some ⟨g, 0, none⟩) m.vs.length cap ∧ base ≤ g ∧ g < w.heap.size ∧ m.vs.length ≤ cap ∧ cap ≤ maxLen ∧ CellsY layV w g 0 m.vs ∧ ∀ i, w.frozen? ⟨g, i, none⟩ = false := by
    rcases h.own.form with ⟨e, e0⟩ | h
    · rw [e0] at hlt; simp at hlt
    · exact h
  have hcells : w.rangeAt g (i * 5) (layV.cells x) := by have := hC i _ hx; rw [Nat.zero_add] at this; exact this
  obtain ⟨x0, x1, x2, x3, x4⟩ := rangeV hcells
  have c0 := h.x.1
  rw [e] at c0
  obtain ⟨n, hn⟩ : ∃ n, n = m.vs.length := ⟨_, rfl⟩
  rw [← hn] at c0 hlt
  have hiI : (i : Int) < (n : Int) := by omega
  clear h hC hfr e hcells hx x1 x2 x3 x4 hn hcap
  generalize m.b = mb at *
  go_enter Try.func65, Try.ntmps65
  go_wp2
  go_quiet (fail)
  go_wp2
  go_ret
  exact ⟨rfl, (by repeat (first | exact Below.refl _ _ | refine below_drewN ?_ _ | refine Below.drew ?_))⟩

end Go.Proofs.Ytfldiapdfpkdaaa

namespace Go.Proofs.Ytfldiapdfpkdaaa
open Go.RowKit NumMath Go.ChangeShapes Go.WideShapes Go.Deep
set_option linter.unusedVariables false
set_option maxRecDepth 100000

theorem OwnY.any4 {α : Type} {L : Lay α} {w : World} {base : Nat} {v : Value} {xs : List α} (h : OwnY L w base v xs) : ∃ a n c, v = .slice a n c ∧ xs.length = n ∧ n ≤ c ∧ c ≤ maxLen := by
  obtain ⟨a, n, c, rfl⟩ := h.any3
  exact ⟨a, n, c, rfl, h.len⟩

theorem undY {α : Type} (L : Lay α) : Try.prog.underlying L.t = some (.slice (Try.prog.elem L.t)) := by
  have he : Try.prog.elem L.t = L.e := by unfold Program.elem; rw [L.und]
  rw [he]; exact L.und

/-- x[l:] of a list of things of one kind -/
theorem cutFromY {α : Type} (L : Lay α) {w : World} {a : Option Addr} {n c : Nat} {xs : List α} (h : IsY L w a n c xs) (l k d : Nat) (h1 : l + k = n) (h3 : l + d = c) (kl : IntKind) (il : Int) (el : il = (l : Int)) :
    ∃ b, (∀ W, (Instr.sliceAt L.t (.slice a n c) (some (.int kl il)) none none).run Try.prog W = .ok (.slice b k d) W) ∧ IsY L w b k d (xs.drop l) ∧ ∀ W, IsY L W a n c xs → IsY L W b k d (xs.drop l) := by
  subst el
  have hlc := h.2.1
  have main : ∀ W, IsY L W a n c xs → IsY L W (if c = l then a else a.map (·.add (l * L.k))) k d (xs.drop l) := by
    intro W h
    refine ⟨by rw [List.length_drop, h.1]; omega, by omega, by have := h.2.2.1; omega, ?_⟩
    by_cases k0 : k = 0
    · exact .inl k0
    · right
      obtain ⟨g, off, rfl, hg, hC⟩ := h.at (j := 0) (by omega)
      refine ⟨g, off + l * L.k, ?_, hg, hC.drop l⟩
      rw [if_neg (by omega)]
      simp [Addr.add]
  refine ⟨_, fun W => ?_, main w h, main⟩
  rw [run_sliceAt_slice W L.t _ _ _ _ (undY L), run_slice_l W L.t a n c (undY L) _ _ (by omega) (by omega), sizeY L W]
  simp only [Result.andThen_ok, sliced, Int.toNat_natCast]
  congr 2 <;> omega

set_option maxHeartbeats 2000000 in
theorem search_any (base : Nat) (w : World) (m : PC) (h : m.is base w) (hd : Desc tsM m.vs) (hn : m.vs.length ≤ 1000000) (ts : Int) (B1 B2 : Nat) (l1 : B1 < w.heap.size) (l2 : B2 < w.heap.size) (h1 : w.cell? ⟨B1, 0, none⟩ = some (.pointer (some ⟨m.b, 0, none⟩))) (h2 : w.cell? ⟨B2, 0, none⟩ = some (.int .u64 ts)) :
    Calls Try.prog 64 #[.int .i64 m.vs.length, .func (.func 65) #[] #[.pointer (some ⟨B1, 0, none⟩), .pointer (some ⟨B2, 0, none⟩)]] w fun e w' => e = .returned (.int .i64 (posV tsM ts m.vs)) ∧ Below w.heap.size w w' := by
  have H := hide h
  have HLt := hide (posV_lt tsM ts m.vs)
  have HGe := hide (posV_ge tsM ts m.vs hd)
  have hP := posV_le tsM ts m.vs
  have H1 := hide h1
  have H2 := hide h2
  generalize posV tsM ts m.vs = P at *
  obtain ⟨n, hN⟩ : ∃ n, n = m.vs.length := ⟨_, rfl⟩
  rw [← hN] at hP hn ⊢
  have HN := hide hN
  clear h hd h1 h2 hN
  go_enter Try.func64, Try.ntmps64
  go_wp2
  go_loopw [5, 6] (fun i j wr => ∃ (a b : Nat), i = .int .i64 a ∧ j = .int .i64 b ∧ a ≤ P ∧ P ≤ b ∧ b ≤ n ∧ Below w.heap.size w wr) (fun i j _ => (intOf j).toNat - (intOf i).toNat)
  case atStart => exact ⟨0, n, rfl, rfl, Nat.zero_le _, hP, Nat.le_refl _, Below.refl _ _⟩
  case round =>
    obtain ⟨a, b, rfl, rfl, ha, hb, hbn, hB⟩ := hrel
    have HB := hide hB
    clear hB
    by_cases hab : a < b
    · have habI : (a : Int) < (b : Int) := by omega
      obtain ⟨q, hq⟩ : ∃ q, q = (a + b) / 2 := ⟨_, rfl⟩
      have hq1 : a ≤ q := by omega
      have hq2 : q < b := by omega
      have hql : q < m.vs.length := by rw [← HN.out]; omega
      obtain ⟨x, hx⟩ : ∃ x, m.vs[q]? = some x := ⟨_, List.getElem?_eq_getElem hql⟩
      have HC := hide (fun W (hW : Below w.heap.size w W) => place1_any base W m (H.out.keep hW) q x hx ts B1 B2 ((hW.cell (p := ⟨B1, 0, none⟩) l1).trans H1.out) ((hW.cell (p := ⟨B2, 0, none⟩) l2).trans H2.out))
      have HX := hide hx
      have hqI : ((a : Int) + (b : Int)) / 2 = (q : Int) := by omega
      clear hx hql hq
      obtain ⟨z, hz⟩ : ∃ z : Bool, decide (x.v.ts ≤ ts) = z := ⟨_, rfl⟩
      have HZ := hide hz
      rw [hz] at HC
      clear hz
      go_wp2_with (first
        | (go_at_call 65; go_must (refine (HC.out _ HB.out).mono ?_); rintro e w1 ⟨rfl, hb1⟩; have HB1 := hide hb1; clear hb1; cases z))
      · go_roundw
        case rel => exact ⟨q + 1, b, by go_num, rfl, by
          have h0 : ¬ x.v.ts ≤ ts := by simpa using HZ.out
          rcases Nat.lt_or_ge q P with h | h
          · exact h
          · exact absurd (HGe.out q x HX.out h) h0, hb, hbn, HB.out.trans (HB1.out.mono HB.out.size)⟩
        case measure => simp [intOf]; omega
      · go_roundw
        case rel => exact ⟨a, q, rfl, rfl, ha, by
          have h0 : x.v.ts ≤ ts := by simpa using HZ.out
          rcases Nat.lt_or_ge q P with h | h
          · have := HLt.out q x HX.out h; unfold tsM at this; omega
          · exact h, by omega, HB.out.trans (HB1.out.mono HB.out.size)⟩
        case measure => simp [intOf]; omega
    · obtain rfl : a = b := by omega
      obtain rfl : a = P := by omega
      go_wp2
      go_ret
      exact ⟨rfl, HB.out⟩

theorem pplace_any (base : Nat) (w : World) (m : PC) (h : m.is base w) (hd : Desc tsM m.vs) (hn : m.vs.length ≤ 1000000) (ts : Int) :
    Calls Try.prog 53 #[.pointer (some ⟨m.b, 0, none⟩), .int .u64 ts] w fun e w' => e = .returned (.int .i64 (posV tsM ts m.vs)) ∧ Below w.heap.size w w' := by
  obtain ⟨W, hW⟩ : ∃ W, W = (w.alloc (.cells #[.pointer (some ⟨m.b, 0, none⟩)] 65)).alloc (.cells #[.int .u64 ts] 24) := ⟨_, rfl⟩
  have hb : Below w.heap.size w W := by rw [hW]; exact belY (belY (Below.refl _ _) _) _
  have h1 : W.cell? ⟨w.heap.size, 0, none⟩ = some (.pointer (some ⟨m.b, 0, none⟩)) := by
    rw [hW]; exact ((new_below _ _).cell (p := ⟨w.heap.size, 0, none⟩) (by simp)).trans (rangeY_new w w.heap.size _ _ rfl 0 _ rfl)
  have h2 : W.cell? ⟨w.heap.size + 1, 0, none⟩ = some (.int .u64 ts) := by rw [hW]; exact rangeY_new _ _ _ _ (by simp) 0 _ rfl
  have hs : W.heap.size = w.heap.size + 2 := by rw [hW]; simp
  have HS := hide (search_any base W m (h.keep hb) hd hn ts w.heap.size (w.heap.size + 1) (by omega) (by omega) h1 h2)
  have c0 := (h.keep hb).x.1
  obtain ⟨a, n, c, hv, hl, -⟩ := h.own.any4
  rw [hv] at c0
  rw [hl] at HS
  rw [hW] at HS h1 h2 c0
  have HB := hide hb
  have HW := hide hW
  have HLs := hide hs
  clear h hb hW hs hl hv hd hn
  generalize posV tsM ts m.vs = P at *
  go_enter Try.func53, Try.ntmps53
  go_wp2_with (first
    | (go_at_call 64; go_must (refine HS.out.mono ?_); rintro e w1 ⟨rfl, hb1⟩; have HB1 := hide hb1; clear hb1))
  go_ret
  exact ⟨rfl, HB.out.trans (by have := HB1.out; rw [← HW.out] at this; exact this.mono (by rw [HLs.out]; omega))⟩

theorem upTo_nil (w : World) (ts : Int) :
    Calls Try.prog 36 #[.pointer none, .int .u64 ts] w fun e w' => e = .returned (.slice none 0 0) ∧ w' = w := by
  go_enter Try.func36, Try.ntmps36
  go_wp2
  go_ret
  exact ⟨rfl, rfl⟩

/-- the versions from a time on, still the cell's -/
def UpPost (w : World) (m : PC) (ts : Int) (e : Ending) (w' : World) : Prop :=
  ∃ a n c, e = .returned (.slice a n c) ∧ (m.vs.drop (posV tsM ts m.vs)).length = n ∧ (∀ W, Below w.heap.size w W → IsY layV W a n c (m.vs.drop (posV tsM ts m.vs))) ∧ Below w.heap.size w w'

set_option maxHeartbeats 1000000 in
theorem pupTo_any (base : Nat) (w : World) (m : PC) (h : m.is base w) (hd : Desc tsM m.vs) (hn : m.vs.length ≤ 1000000) (ts : Int) :
    Calls Try.prog 36 #[.pointer (some ⟨m.b, 0, none⟩), .int .u64 ts] w fun e w' => UpPost w m ts e w' := by
  have HP := hide (pplace_any base w.drew m (h.keep (Below.refl _ w).drew) hd hn ts)
  have hP := posV_le tsM ts m.vs
  obtain ⟨a, n, c, hv, hl, hnc, hcm⟩ := h.own.any4
  have hI : IsY layV w a n c m.vs := by have := h.own; rw [hv] at this; exact this.is
  unfold UpPost
  generalize posV tsM ts m.vs = P at *
  obtain ⟨b, hrun, -, hW⟩ := cutFromY layV hI P (n - P) (c - P) (by omega) (by omega) .i64 (P : Int) rfl
  have hrun' : ∀ W, (Instr.sliceAt 50 (.slice a n c) (some (.int .i64 (P : Int))) none none).run Try.prog W = .ok (.slice b (n - P) (c - P)) W := hrun
  have c0 := h.x.1
  rw [hv] at c0
  have c0d : w.drew.cell? ⟨m.b, 0, none⟩ = some (.slice a n c) := c0
  have HK := hide (fun W (hb : Below w.drew.heap.size w.drew W) => (hb.cell (p := ⟨m.b, 0, none⟩) h.lt).trans c0d)
  have HW := hide hW
  have HI := hide hI
  have HL := hide hl
  clear h hrun hW hI hv hd hl
  generalize m.b = mb at *
  go_enter Try.func36, Try.ntmps36
  go_wp2_with fail
  go_region_held3 (fun W => W.cell? ⟨mb, 0, none⟩ = some (.slice a n c)) (first | exact HK.out _ HB1.out | exact c0d) (first
    | (go_at_call 53; go_must (refine HP.out.mono ?_); rintro e w1 ⟨rfl, hb1⟩; have HB1 := hide hb1; clear hb1))
  all_goals
    go_wp2
    go_ret
    refine ⟨b, n - P, c - P, rfl, by rw [List.length_drop, HL.out], fun W hb => HW.out W (HI.out.keep hb), below_undrew HB1.out⟩

theorem pintended_nil (w : World) :
    Calls Try.prog 35 #[.pointer none] w fun e w' => e = .returned (.bool false) ∧ w' = w := by
  go_enter Try.func35, Try.ntmps35
  go_wp2
  go_ret
  exact ⟨rfl, rfl⟩

theorem pintended_any (base : Nat) (w : World) (m : PC) (h : m.is base w) :
    Calls Try.prog 35 #[.pointer (some ⟨m.b, 0, none⟩)] w fun e w' => e = .returned (.bool (m.it.v.tx != 0)) ∧ w' = w := by
  have c2 := h.x.2.2.1
  clear h
  go_enter Try.func35, Try.ntmps35
  go_wp2
  go_ret
  exact ⟨rfl, rfl⟩

theorem ptaken_nil (w : World) (tx : Int) :
    Calls Try.prog 51 #[.pointer none, .int .u64 tx] w fun e w' => e = .returned (.bool false) ∧ w' = w := by
  have HI := hide (pintended_nil w)
  go_enter Try.func51, Try.ntmps51
  go_wp2_with (first
    | (go_at_call 35; go_must (refine HI.out.mono ?_); rintro e w1 ⟨rfl, hw⟩; have hw := hw.symm; subst hw))
  go_ret
  exact ⟨rfl, rfl⟩

theorem ptaken_any (base : Nat) (w : World) (m : PC) (h : m.is base w) (tx : Int) :
    Calls Try.prog 51 #[.pointer (some ⟨m.b, 0, none⟩), .int .u64 tx] w fun e w' => e = .returned (.bool (m.it.v.tx != 0 && m.it.v.tx != tx)) ∧ w' = w := by
  have HI := hide (pintended_any base w m h)
  have c2 := h.x.2.2.1
  clear h
  obtain ⟨z, hz⟩ : ∃ z : Bool, (m.it.v.tx != 0) = z := ⟨_, rfl⟩
  rw [hz] at HI ⊢
  clear hz
  cases z
  · go_enter Try.func51, Try.ntmps51
    go_wp2_with (first
      | (go_at_call 35; go_must (refine HI.out.mono ?_); rintro e w1 ⟨rfl, hw⟩; have hw := hw.symm; subst hw))
    go_ret
    exact ⟨rfl, rfl⟩
  · go_enter Try.func51, Try.ntmps51
    go_wp2_with (first
      | (go_at_call 35; go_must (refine HI.out.mono ?_); rintro e w1 ⟨rfl, hw⟩; have hw := hw.symm; subst hw))
    go_ret
    exact ⟨rfl, rfl⟩

theorem pempty_any (base : Nat) (w : World) (m : PC) (h : m.is base w) :
    Calls Try.prog 61 #[.pointer (some ⟨m.b, 0, none⟩)] w fun e w' => e = .returned (.bool (decide (m.vs.length = 0) && !(m.it.v.tx != 0))) ∧ w' = w := by
  have HI := hide (pintended_any base w m h)
  have c0 := h.x.1
  obtain ⟨a, n, c, hv, hl, hnc, hcm⟩ := h.own.any4
  rw [hv] at c0
  rw [hl]
  clear h hv hl hnc hcm
  by_cases hn : n = 0
  · subst hn
    go_enter Try.func61, Try.ntmps61
    go_wp2_with (first
      | (go_at_call 35; go_must (refine HI.out.mono ?_); rintro e w1 ⟨rfl, hw⟩; have hw := hw.symm; subst hw))
    go_ret
    exact ⟨rfl, rfl⟩
  · have hd : decide (n = 0) = false := by simp [hn]
    rw [hd]
    have hz : ((n : Int) == 0) = false := by simp; omega
    go_enter Try.func61, Try.ntmps61
    go_wp2_with (first
      | (go_at_call 35; go_must (refine HI.out.mono ?_); rintro e w1 ⟨rfl, hw⟩; have hw := hw.symm; subst hw))
    go_ret
    exact ⟨rfl, rfl⟩

end Go.Proofs.Ytfldiapdfpkdaaa
