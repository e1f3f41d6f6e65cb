/- Rows of numbers that are sorted in place: what stays, what is in order. slices.Sort of few numbers: cmp.Less, insertionSortOrdered. Heaps: what sifting keeps. siftDownOrdered, heapSortOrdered at numbers. -/
import Derived.Test.YtodmieehdleohaaGreatEnA
import Derived.Test.YtodmieehdleohaaGreatRwA
import Derived.BigQuiet
import Derived.BigRegion
namespace Go.Proofs.YtodmieehdleohaaGreat
open Go.RowKit NumMath
set_option linter.unusedVariables false

/-- the row at block g, its slice of n elements, the numbers xs -/
structure RU (w : World) (g n cap : Nat) (xs : List Int) : Prop where
  len : xs.length = n
  own : OwnU w g (.slice (some ⟨g, 0, none⟩) n cap) xs

theorem RU.cell {w : World} {g n cap : Nat} {xs : List Int} (h : RU w g n cap xs) {i : Nat} (hi : i < n) : w.cell? ⟨g, i, none⟩ = some (.int .u64 (xs.getD i 0)) := by
  rcases h.own.form with ⟨h0, _⟩ | ⟨g', cap', h0, hg, _, _, _, hB⟩
  · simp at h0
  · simp only [Value.slice.injEq, Option.some.injEq, Addr.mk.injEq, and_true] at h0
    obtain ⟨rfl, _, rfl⟩ := h0
    have := hB i (by rw [h.len]; exact hi)
    rwa [Nat.zero_add] at this

theorem RU.frozen {w : World} {g n cap : Nat} {xs : List Int} (h : RU w g n cap xs) (i : Nat) : w.frozen? ⟨g, i, none⟩ = false := by
  obtain ⟨hl, ho⟩ := h
  subst hl
  exact World.ownsRow.frozenAt ho i

theorem RU.set {w : World} {g n cap : Nat} {xs : List Int} (h : RU w g n cap xs) (m : Nat) (u : Int) : RU (w.setCell ⟨g, m, none⟩ (.int .u64 u)) g n cap (xs.set m u) := by
  obtain ⟨hl, ho⟩ := h
  refine ⟨by rw [List.length_set]; exact hl, ?_⟩
  subst hl
  unfold OwnU at *
  have hs := (World.ownsRow.stored ho m (.int .u64 u)).1
  rw [List.length_set, List.map_set]
  exact hs

theorem RU.lt {w : World} {g n cap : Nat} {xs : List Int} (h : RU w g n cap xs) : g < w.heap.size := (h.own.lt g rfl).2

theorem RU.keep {w w' : World} {g n cap : Nat} {xs : List Int} (h : RU w g n cap xs) (hb : Below w.heap.size w w') : RU w' g n cap xs := ⟨h.len, h.own.keep hb⟩

theorem RU.lies {w w' : World} {g n cap : Nat} {xs : List Int} (h : RU w g n cap xs) (e : w'.heap[g]? = w.heap[g]?) : RU w' g n cap xs := ⟨h.len, h.own.lies (fun k hk => by cases hk; exact e)⟩

theorem RU.drew {w : World} {g n cap : Nat} {xs : List Int} (h : RU w g n cap xs) : RU w.drew g n cap xs := h.keep (Below.refl _ _).drew

theorem RU.drewN {w : World} {g n cap : Nat} {xs : List Int} (h : RU w g n cap xs) (k : Nat) : RU (w.drewN k) g n cap xs := h.keep ⟨rfl, rfl, rfl, Nat.le_refl _, fun _ _ => rfl⟩

theorem Keeps.drN {M : Nat → Prop} {w w1 : World} (h : Keeps M w w1) (k : Nat) : Keeps M w (w1.drewN k) := ⟨h.os, h.tape, h.output, h.size, h.block⟩

theorem Keeps.dr {M : Nat → Prop} {w w1 : World} (h : Keeps M w w1) : Keeps M w w1.drew := ⟨h.os, h.tape, h.output, h.size, h.block⟩

theorem Keeps.set2 {g i j : Nat} {w w1 : World} (h : Keeps (fun k => k = g) w w1) (u v : Value) : Keeps (fun k => k = g) w ((w1.setCell ⟨g, i, none⟩ u).setCell ⟨g, j, none⟩ v) := (h.trans (Keeps.set u)).trans (Keeps.set v)

def swapL (xs : List Int) (i j : Nat) : List Int := (xs.set i (xs.getD j 0)).set j (xs.getD i 0)

theorem RU.swap {w : World} {g n cap : Nat} {xs : List Int} (h : RU w g n cap xs) (i j : Nat) : RU ((w.setCell ⟨g, i, none⟩ (.int .u64 (xs.getD j 0))).setCell ⟨g, j, none⟩ (.int .u64 (xs.getD i 0))) g n cap (swapL xs i j) := (h.set i _).set j _

theorem swap_len (xs : List Int) (i j : Nat) : (swapL xs i j).length = xs.length := by unfold swapL; rw [List.length_set, List.length_set]

theorem swap_get (xs : List Int) (i j k : Nat) (hi : i < xs.length) (hj : j < xs.length) : (swapL xs i j).getD k 0 = if k = j then xs.getD i 0 else if k = i then xs.getD j 0 else xs.getD k 0 := by
  unfold swapL
  simp only [List.getD, List.getElem?_set, List.length_set]
  by_cases h1 : j = k
  · subst h1; simp [hj]
  · have h1' : ¬ k = j := fun e => h1 e.symm
    by_cases h2 : i = k
    · subst h2; simp [h1, h1', hi]
    · have h2' : ¬ k = i := fun e => h2 e.symm
      simp [h1, h1', h2, h2']

theorem swap_perm (xs : List Int) (i j : Nat) (hi : i < xs.length) (hj : j < xs.length) : (swapL xs i j).Perm xs := by
  unfold swapL
  have e1 : xs.getD j 0 = xs[j] := by simp [List.getD, List.getElem?_eq_getElem hj]
  have e2 : xs.getD i 0 = xs[i] := by simp [List.getD, List.getElem?_eq_getElem hi]
  rw [e1, e2]
  exact List.set_set_perm hi hj

/-- ys has what xs has, and outside of a to b at the same places -/
structure Sh (a b : Nat) (xs ys : List Int) : Prop where
  len : ys.length = xs.length
  out : ∀ k, (k < a ∨ b ≤ k) → ys.getD k 0 = xs.getD k 0
  perm : ys.Perm xs

theorem Sh.refl (a b : Nat) (xs : List Int) : Sh a b xs xs := ⟨rfl, fun _ _ => rfl, List.Perm.refl _⟩

theorem Sh.trans {a b : Nat} {xs ys zs : List Int} (h : Sh a b xs ys) (k : Sh a b ys zs) : Sh a b xs zs := ⟨k.len.trans h.len, fun i hi => (k.out i hi).trans (h.out i hi), k.perm.trans h.perm⟩

theorem Sh.mono {a b a' b' : Nat} {xs ys : List Int} (h : Sh a b xs ys) (ha : a' ≤ a) (hb : b ≤ b') : Sh a' b' xs ys := ⟨h.len, fun i hi => h.out i (by omega), h.perm⟩

theorem Sh.swap {a b : Nat} {xs : List Int} {i j : Nat} (hb : b ≤ xs.length) (hi : a ≤ i ∧ i < b) (hj : a ≤ j ∧ j < b) : Sh a b xs (swapL xs i j) :=
  ⟨swap_len xs i j, fun k hk => by rw [swap_get xs i j k (by omega) (by omega), if_neg (by omega), if_neg (by omega)], swap_perm xs i j (by omega) (by omega)⟩

theorem getD_mem_mid {xs : List Int} {a b k : Nat} (hb : b ≤ xs.length) (h1 : a ≤ k) (h2 : k < b) : xs.getD k 0 ∈ (xs.drop a).take (b - a) := by
  have hk : k < xs.length := by omega
  have e : xs.getD k 0 = xs[k] := by simp [List.getD, List.getElem?_eq_getElem hk]
  rw [e, List.mem_take_iff_getElem]
  refine ⟨k - a, by rw [List.length_drop]; omega, ?_⟩
  rw [List.getElem_drop]
  congr 1
  omega

theorem mid_getD {xs : List Int} {a b : Nat} {x : Int} (hb : b ≤ xs.length) (h : x ∈ (xs.drop a).take (b - a)) : ∃ k, a ≤ k ∧ k < b ∧ xs.getD k 0 = x := by
  rw [List.mem_take_iff_getElem] at h
  obtain ⟨i, hi, e⟩ := h
  rw [List.length_drop] at hi
  refine ⟨a + i, by omega, by omega, ?_⟩
  rw [List.getElem_drop] at e
  simp [List.getD, List.getElem?_eq_getElem (show a + i < xs.length by omega)]
  exact e

theorem Sh.mid {a b : Nat} {xs ys : List Int} (h : Sh a b xs ys) (hab : a ≤ b) (hb : b ≤ xs.length) : ((ys.drop a).take (b - a)).Perm ((xs.drop a).take (b - a)) := by
  have split : ∀ zs : List Int, zs = zs.take a ++ ((zs.drop a).take (b - a) ++ zs.drop b) := fun zs => by
    have e : (zs.drop a).take (b - a) ++ zs.drop b = zs.drop a := by
      have := List.take_append_drop (b - a) (zs.drop a)
      rw [List.drop_drop, show a + (b - a) = b by omega] at this
      exact this
    rw [e, List.take_append_drop]
  have ext : ∀ {us vs : List Int}, us.length = vs.length → (∀ k, k < us.length → us.getD k 0 = vs.getD k 0) → us = vs := fun {us vs} hl hk => by
    apply List.ext_getElem hl
    intro i h1 h2
    have := hk i h1
    simpa [List.getD, List.getElem?_eq_getElem h1, List.getElem?_eq_getElem h2] using this
  have e1 : ys.take a = xs.take a := ext (by rw [List.length_take, List.length_take, h.len]) (fun k hk => by
    rw [List.length_take] at hk
    have := h.out k (.inl (by omega))
    simpa [List.getD, List.getElem?_take, show k < a by omega] using this)
  have e2 : ys.drop b = xs.drop b := ext (by rw [List.length_drop, List.length_drop, h.len]) (fun k hk => by
    have := h.out (b + k) (.inr (by omega))
    simpa [List.getD, List.getElem?_drop] using this)
  have p := h.perm
  rw [split ys, split xs, e1, e2] at p
  exact (List.perm_append_right_iff _).1 ((List.perm_append_left_iff _).1 p)

/-- what holds of all between a and b holds of them in another order -/
theorem Sh.all {a b : Nat} {xs ys : List Int} (h : Sh a b xs ys) (hb : b ≤ xs.length) {P : Int → Prop} (hp : ∀ k, a ≤ k → k < b → P (xs.getD k 0)) : ∀ k, a ≤ k → k < b → P (ys.getD k 0) := by
  intro k h1 h2
  have m := (h.mid (by omega) hb).mem_iff.1 (getD_mem_mid (by rw [h.len]; exact hb) h1 h2)
  obtain ⟨j, j1, j2, e⟩ := mid_getD hb m
  rw [← e]
  exact hp j j1 j2

/-- in order from a to b -/
def Srt (a b : Nat) (ys : List Int) : Prop := ∀ p q, a ≤ p → p < q → q < b → ys.getD p 0 ≤ ys.getD q 0

/-- insertion: all in order up to i but for what stands at j, which is no greater than what stands behind it -/
def Ins (a i j : Nat) (ys : List Int) : Prop := ∀ p q, a ≤ p → p < q → q ≤ i → q ≠ j → ys.getD p 0 ≤ ys.getD q 0

theorem ins_start {a i : Nat} {ys : List Int} (h : Srt a i ys) : Ins a i i ys := fun p q h1 h2 h3 h4 => h p q h1 h2 (by omega)

theorem ins_step {a i j : Nat} {ys : List Int} (h : Ins a i (j + 1) ys) (hj : a ≤ j) (hi : j + 1 ≤ i) (hl : i < ys.length) (hlt : ys.getD (j + 1) 0 < ys.getD j 0) : Ins a i j (swapL ys (j + 1) j) := by
  intro p q h1 h2 h3 h4
  rw [swap_get ys (j + 1) j p (by omega) (by omega), swap_get ys (j + 1) j q (by omega) (by omega), if_neg h4]
  by_cases q1 : q = j + 1
  · subst q1
    rw [if_pos rfl]
    by_cases p1 : p = j
    · subst p1; rw [if_pos rfl]; omega
    · rw [if_neg p1, if_neg (by omega)]
      exact h p j h1 (by omega) (by omega) (by omega)
  · rw [if_neg q1]
    by_cases p1 : p = j
    · subst p1
      rw [if_pos rfl]
      exact h (p + 1) q (by omega) (by omega) h3 q1
    · rw [if_neg p1]
      by_cases p2 : p = j + 1
      · subst p2
        rw [if_pos rfl]
        exact h j q hj (by omega) h3 q1
      · rw [if_neg p2]
        exact h p q h1 h2 h3 q1

theorem ins_done {a i j : Nat} {ys : List Int} (h : Ins a i j ys) (hs : j = a ∨ ∃ k, j = k + 1 ∧ ¬ ys.getD j 0 < ys.getD k 0) (hj : a ≤ j) : Srt a (i + 1) ys := by
  intro p q h1 h2 h3
  by_cases q1 : q = j
  · subst q1
    rcases hs with hs | ⟨k, rfl, hk⟩
    · omega
    · by_cases p1 : p = k
      · subst p1; omega
      · have := h p k h1 (by omega) (by omega) (by omega)
        omega
  · exact h p q h1 h2 (by omega) q1

end Go.Proofs.YtodmieehdleohaaGreat

namespace Go.Proofs.YtodmieehdleohaaGreat
open Go.RowKit NumMath
set_option linter.unusedVariables false
set_option maxRecDepth 100000

theorem isNaN_any (x : Int) (w : World) : Calls Tryz.prog 190 #[.int .u64 x] w fun e w' => e = .returned (.bool false) ∧ w' = w := by
  go_enter Tryz.func190, Tryz.ntmps190
  go_wp2
  go_ret
  exact ⟨by simp, rfl⟩

theorem less_any (x y : Int) (w : World) : Calls Tryz.prog 175 #[.int .u64 x, .int .u64 y] w fun e w' => e = .returned (.bool (decide (x < y))) ∧ w' = w := by
  go_enter Tryz.func175, Tryz.ntmps175
  go_wp2_with (go_at_call 190; refine (isNaN_any _ _).mono ?_; rintro e w' ⟨rfl, hw⟩; have hw := hw.symm; subst hw)
  go_ret
  exact ⟨by simp, rfl⟩

/-- what a sort of a part leaves -/
def SortPost (w : World) (g n cap a b : Nat) (xs : List Int) (e : Ending) (w' : World) : Prop :=
  e = .returned (.tuple #[]) ∧ ∃ ys, RU w' g n cap ys ∧ Sh a b xs ys ∧ Srt a b ys ∧ Keeps (fun k => k = g) w w'

set_option maxHeartbeats 1000000 in
theorem insert_any (g n cap a b : Nat) (xs : List Int) (w : World) (h : RU w g n cap xs) (hab : a ≤ b) (hb : b ≤ n) (hn : n ≤ 1000000) :
    Calls Tryz.prog 169 #[.slice (some ⟨g, 0, none⟩) n cap, .int .i64 a, .int .i64 b] w fun e w' => SortPost w g n cap a b xs e w' := by
  have H := hide h
  have hlx := h.len
  clear h
  go_enter Tryz.func169, Tryz.ntmps169
  go_wp2
  go_loopw [6] (fun i wr => ∃ (k : Nat) (ys : List Int), a + 1 ≤ k ∧ (k ≤ b ∨ k = a + 1) ∧ i = .int .i64 k ∧ RU wr g n cap ys ∧ Sh a b xs ys ∧ Srt a k ys ∧ Keeps (fun k => k = g) w wr) (fun i _ => b - (intOf i).toNat)
  case atStart => exact ⟨a + 1, xs, Nat.le_refl _, .inr rfl, by go_num, H.out, Sh.refl _ _ _, (fun p q h1 h2 h3 => by omega), Keeps.refl _ _⟩
  case round =>
    obtain ⟨k, ys, hk1, hk2, rfl, hR, hS, hO, hK⟩ := hrel
    have HR := hide hR
    have HS := hide hS
    have HO := hide hO
    have HK := hide hK
    clear hR hS hO hK
    by_cases hlt : (k : Int) < (b : Int)
    · go_wp2
      go_loopw [7] (fun j wr2 => ∃ (m : Nat) (zs : List Int), a ≤ m ∧ m ≤ k ∧ j = .int .i64 m ∧ RU wr2 g n cap zs ∧ Sh a b xs zs ∧ Ins a k m zs ∧ Keeps (fun k => k = g) w wr2) (fun j _ => (intOf j).toNat)
      case atStart => exact ⟨k, ys, by omega, Nat.le_refl _, rfl, HR.out, HS.out, ins_start HO.out, HK.out⟩
      case round =>
        obtain ⟨m, zs, hm1, hm2, rfl, hR, hS, hI, hK⟩ := hrel
        clear HR HS HO HK
        have HR := hide hR
        have HS := hide hS
        have HI := hide hI
        have HK := hide hK
        have hzl := hR.len
        clear hR hS hI hK
        by_cases hma : a < m
        · obtain ⟨j, rfl⟩ : ∃ j, m = j + 1 := ⟨m - 1, by omega⟩
          have hgd : decide ((a : Int) < ((j + 1 : Nat) : Int)) = true := by simp; omega
          have hgd2 : decide (a < j + 1) = true := by simp; omega
          have hgd3 : decide ((a : Int) < (j : Int) + 1) = true := by simp; omega
          have c1 := HR.out.cell (i := j + 1) (by omega)
          have c0 := HR.out.cell (i := j) (by omega)
          have f1 := HR.out.frozen (j + 1)
          have f0 := HR.out.frozen j
          have HSw := hide (fun k => (HR.out.drewN k).swap (j + 1) j)
          have HSt := hide (fun h => ins_step (j := j) HI.out (by omega) (by omega) (by omega) h)
          have HDn := hide (fun h => ins_done (j := j + 1) HI.out (.inr ⟨j, rfl, h⟩) (by omega))
          have HS2 := hide (HS.out.trans (Sh.swap (xs := zs) (i := j + 1) (j := j) (by omega) ⟨by omega, by omega⟩ ⟨by omega, by omega⟩))
          generalize zs.getD (j + 1) 0 = X at *
          generalize zs.getD j 0 = Y at *
          obtain ⟨z, hz⟩ : ∃ z : Bool, decide (X < Y) = z := ⟨_, rfl⟩
          have HLs := hide (less_any X Y)
          rw [hz] at HLs
          have hjn : (j : Int) < (n : Int) := by omega
          have hjn1 : (j : Int) + 1 < (n : Int) := by omega
          go_wp2
          go_quiet (first | (go_at_call 175; refine Calls.quiet_of_same (HLs.out _)))
          cases z
          · have hXY : ¬ X < Y := by simpa using hz
            have HSrt := hide (HDn.out (by first | exact hXY | omega))
            clear HSw HSt HDn HS2
            go_wp2
            go_roundw
            case rel => exact ⟨k + 1, zs, by omega, .inl (by omega), by go_num, HR.out.drewN _, HS.out, HSrt.out, HK.out.drN _⟩
            case measure => simp [intOf]; omega
          · have hXY : X < Y := by simpa using hz
            have HIn := hide (HSt.out (by first | exact hXY | omega))
            clear HSt HDn
            go_wp2
            go_region
            all_goals
              go_wp2
              go_roundw
              case rel => exact ⟨j, swapL zs (j + 1) j, by omega, by omega, by go_num, HSw.out _, HS2.out, HIn.out, (HK.out.drN _).set2 _ _⟩
              case measure => simp [intOf]
        · have hgd : decide ((a : Int) < (m : Int)) = false := by simp; omega
          have hgd2 : decide (a < m) = false := by simp; omega
          have HDn := hide (ins_done HI.out (.inl (by omega)) hm1)
          go_wp2
          go_quiet (first | fail)
          go_wp2
          go_roundw
          case rel => exact ⟨k + 1, zs, by omega, .inl (by omega), by go_num, HR.out.drewN _, HS.out, HDn.out, HK.out.drN _⟩
          case measure => simp [intOf]; omega
    · go_wp2
      go_end0
      exact ⟨rfl, ys, HR.out, HS.out, fun p q h1 h2 h3 => HO.out p q h1 h2 (by omega), HK.out⟩

end Go.Proofs.YtodmieehdleohaaGreat

namespace Go.Proofs.YtodmieehdleohaaGreat
open Go.RowKit NumMath
set_option linter.unusedVariables false
set_option maxRecDepth 100000

def Kid (i c : Nat) : Prop := c = 2 * i + 1 ∨ c = 2 * i + 2

/-- from lo on no child, up to hi, is greater than its parent -/
def Hp (lo hi : Nat) (f : Nat → Int) : Prop := ∀ i c, lo ≤ i → Kid i c → c < hi → f c ≤ f i

/-- .. but for the children of r, which are no greater than r's parent -/
def Sft (lo hi r : Nat) (f : Nat → Int) : Prop := (∀ i c, lo ≤ i → i ≠ r → Kid i c → c < hi → f c ≤ f i) ∧ ∀ p c, lo ≤ p → Kid p r → Kid r c → c < hi → f c ≤ f p

def swF (f : Nat → Int) (r c : Nat) : Nat → Int := fun k => if k = c then f r else if k = r then f c else f k

theorem swF_eq (ys : List Int) (first r c : Nat) (hr : first + r < ys.length) (hc : first + c < ys.length) : (fun k => (swapL ys (first + r) (first + c)).getD (first + k) 0) = swF (fun k => ys.getD (first + k) 0) r c := by
  funext k
  rw [swap_get ys _ _ _ hr hc]
  unfold swF
  by_cases h1 : k = c
  · rw [if_pos (by omega), if_pos h1]
  · rw [if_neg (by omega), if_neg h1]
    by_cases h2 : k = r
    · rw [if_pos (by omega), if_pos h2]
    · rw [if_neg (by omega), if_neg h2]

theorem sft_start {lo hi : Nat} {f : Nat → Int} (h : Hp (lo + 1) hi f) : Sft lo hi lo f :=
  ⟨fun i c h1 h2 h3 h4 => h i c (by omega) h3 h4, fun p c h1 h2 => by unfold Kid at h2; omega⟩

theorem sft_leaf {lo hi r : Nat} {f : Nat → Int} (h : Sft lo hi r f) (hl : hi ≤ 2 * r + 1) : Hp lo hi f := fun i c h1 h2 h3 => by
  by_cases e : i = r
  · subst e; unfold Kid at h2; omega
  · exact h.1 i c h1 e h2 h3

theorem sft_done {lo hi r c : Nat} {f : Nat → Int} (h : Sft lo hi r f) (hm : ∀ d, Kid r d → d < hi → f d ≤ f c) (hd : ¬ f r < f c) : Hp lo hi f := fun i d h1 h2 h3 => by
  by_cases e : i = r
  · subst e; have := hm d h2 h3; omega
  · exact h.1 i d h1 e h2 h3

theorem sft_step {lo hi r c : Nat} {f : Nat → Int} (h : Sft lo hi r f) (hlo : lo ≤ r) (hk : Kid r c) (hc : c < hi) (hm : ∀ d, Kid r d → d < hi → f d ≤ f c) (hd : f r < f c) : Sft lo hi c (swF f r c) := by
  have hrc : r < c := by unfold Kid at hk; omega
  constructor
  · intro i d h1 h2 h3 h4
    unfold swF
    by_cases e : i = r
    · subst e
      rw [if_neg h2, if_pos rfl]
      by_cases e2 : d = c
      · rw [if_pos e2]; omega
      · rw [if_neg e2, if_neg (by unfold Kid at h3; omega)]
        exact hm d h3 h4
    · rw [if_neg h2, if_neg e]
      by_cases e2 : d = c
      · exfalso; subst e2; unfold Kid at h3 hk; omega
      · rw [if_neg e2]
        by_cases e3 : d = r
        · rw [if_pos e3]
          subst e3
          exact h.2 i c h1 h3 hk hc
        · rw [if_neg e3]
          exact h.1 i d h1 e h3 h4
  · intro p d h1 h2 h3 h4
    have e : p = r := by unfold Kid at h2 hk; omega
    subst e
    have hdc : c < d := by unfold Kid at h3; omega
    unfold swF
    rw [if_neg (by omega), if_neg (by omega), if_neg (by omega), if_pos rfl]
    exact h.1 c d (by omega) (by omega) h3 h4

theorem hp_max {hi : Nat} {f : Nat → Int} (h : Hp 0 hi f) : ∀ j, j < hi → f j ≤ f 0 := by
  intro j
  induction j using Nat.strongRecOn with
  | _ j ih =>
    intro hj
    by_cases h0 : j = 0
    · subst h0; exact Int.le_refl _
    · have k : Kid ((j - 1) / 2) j := by unfold Kid; omega
      have := h ((j - 1) / 2) j (Nat.zero_le _) k hj
      have := ih ((j - 1) / 2) (by omega) (by omega)
      omega

/-- all from i on stand in order, and above all ahead of them -/
def Tail (i hi : Nat) (f : Nat → Int) : Prop := ∀ p q, p < q → i ≤ q → q < hi → f p ≤ f q

theorem hp_swap {i : Nat} {f : Nat → Int} (h : Hp 0 (i + 1) f) : Hp 1 i (swF f 0 i) := fun p c h1 h2 h3 => by
  have := h2
  unfold Kid at this
  unfold swF
  rw [if_neg (by omega), if_neg (by omega), if_neg (by omega), if_neg (by omega)]
  exact h p c (Nat.zero_le _) h2 (by omega)

theorem tail_swap {i hi : Nat} {f : Nat → Int} (h : Hp 0 (i + 1) f) (ht : Tail (i + 1) hi f) (hi' : i < hi) : Tail i hi (swF f 0 i) := by
  intro p q h1 h2 h3
  unfold swF
  by_cases e : q = i
  · subst e
    rw [if_pos rfl, if_neg (by omega)]
    by_cases e2 : p = 0
    · rw [if_pos e2]; exact hp_max h q (by omega)
    · rw [if_neg e2]; exact hp_max h p (by omega)
  · rw [if_neg e, if_neg (show ¬ q = 0 by omega)]
    by_cases e2 : p = i
    · rw [if_pos e2]; exact ht 0 q (by omega) (by omega) h3
    · rw [if_neg e2]
      by_cases e3 : p = 0
      · rw [if_pos e3]; exact ht i q (by omega) (by omega) h3
      · rw [if_neg e3]; exact ht p q h1 (by omega) h3

/-- what was sifted below i leaves what stands from i on in order -/
theorem tail_sh {first i hi : Nat} {xs ys : List Int} (ht : Tail i hi (fun k => xs.getD (first + k) 0)) (hs : Sh first (first + i) xs ys) (hl : first + hi ≤ xs.length) (hi' : i ≤ hi) : Tail i hi (fun k => ys.getD (first + k) 0) := by
  intro p q h1 h2 h3
  dsimp only
  rw [hs.out (first + q) (by omega)]
  by_cases hp : p < i
  · refine hs.all (by omega) (P := fun v => v ≤ xs.getD (first + q) 0) (fun k k1 k2 => ?_) (first + p) (by omega) (by omega)
    have := ht (k - first) q (by omega) h2 h3
    dsimp only at this
    rw [show first + (k - first) = k by omega] at this
    exact this
  · rw [hs.out (first + p) (by omega)]
    exact ht p q h1 h2 h3

theorem tail_srt {a b : Nat} {ys : List Int} (hab : a ≤ b) (h : Tail 0 (b - a) (fun k => ys.getD (a + k) 0)) : Srt a b ys := fun p q h1 h2 h3 => by
  have := h (p - a) (q - a) (by omega) (by omega) (by omega)
  dsimp only at this
  rw [show a + (p - a) = p by omega, show a + (q - a) = q by omega] at this
  exact this

end Go.Proofs.YtodmieehdleohaaGreat

namespace Go.Proofs.YtodmieehdleohaaGreat
open Go.RowKit NumMath
set_option linter.unusedVariables false
set_option maxRecDepth 100000

theorem kw_nat (n : Nat) (h : n ≤ 9000000000) : IntKind.i64.wrap (n : Int) = (n : Int) := by simp [IntKind.wrap, IntKind.bits, IntKind.signed]; omega

abbrev fn (ys : List Int) (first : Nat) : Nat → Int := fun k => ys.getD (first + k) 0

set_option maxHeartbeats 1000000 in
theorem sift_any (g n cap lo hi first : Nat) (xs : List Int) (w : World) (h : RU w g n cap xs) (hl : lo ≤ hi) (hb : first + hi ≤ n) (hn : n ≤ 1000000) (hH : Hp (lo + 1) hi (fn xs first)) :
    Calls Tryz.prog 185 #[.slice (some ⟨g, 0, none⟩) n cap, .int .i64 lo, .int .i64 hi, .int .i64 first] w fun e w' => e = .returned (.tuple #[]) ∧ ∃ ys, RU w' g n cap ys ∧ Sh first (first + hi) xs ys ∧ Hp lo hi (fn ys first) ∧ Keeps (fun k => k = g) w w' := by
  have H := hide h
  have HH := hide hH
  clear h hH
  go_enter Tryz.func185, Tryz.ntmps185
  go_wp2
  go_loopw [8] (fun i wr => ∃ (r : Nat) (ys : List Int), lo ≤ r ∧ r ≤ n ∧ i = .int .i64 r ∧ RU wr g n cap ys ∧ Sh first (first + hi) xs ys ∧ Sft lo hi r (fn ys first) ∧ Keeps (fun k => k = g) w wr) (fun i _ => n - (intOf i).toNat)
  case atStart => exact ⟨lo, xs, Nat.le_refl _, by omega, rfl, H.out, Sh.refl _ _ _, sft_start HH.out, Keeps.refl _ _⟩
  case round =>
    obtain ⟨r, ys, hr1, hr2, rfl, hR, hS, hF, hK⟩ := hrel
    have HR := hide hR
    have HS := hide hS
    have HF := hide hF
    have HK := hide hK
    have hyl := hR.len
    clear hR hS hF hK H HH
    by_cases hleaf : (hi : Int) ≤ 2 * (r : Int) + 1
    · have HD := hide (sft_leaf HF.out (by omega))
      go_wp2
      go_end0
      exact ⟨rfl, ys, HR.out, HS.out, HD.out, HK.out⟩
    · obtain ⟨c, hc⟩ : ∃ c : Nat, c = 2 * r + 1 := ⟨_, rfl⟩
      have he : 2 * (r : Int) + 1 = (c : Int) := by omega
      obtain ⟨s, hs⟩ : ∃ s : Nat, s = first + c := ⟨_, rfl⟩
      have hes : (first : Int) + (c : Int) = (s : Int) := by omega
      obtain ⟨t, ht⟩ : ∃ t : Nat, t = first + r := ⟨_, rfl⟩
      have het : (first : Int) + (r : Int) = (t : Int) := by omega
      obtain ⟨u, hu⟩ : ∃ u : Nat, u = first + (c + 1) := ⟨_, rfl⟩
      have heu : (first : Int) + ((c : Int) + 1) = (u : Int) := by omega
      have hwt : IntKind.i64.wrap (t : Int) = (t : Int) := kw_nat t (by omega)
      have hws : IntKind.i64.wrap (s : Int) = (s : Int) := kw_nat s (by omega)
      have hwu : IntKind.i64.wrap (u : Int) = (u : Int) := kw_nat u (by omega)
      have HC := hide hc
      have Hs := hide hs
      have HT := hide ht
      have Hu := hide hu
      have hchi : c < hi := by omega
      have hchi' : ¬ (hi : Int) ≤ (c : Int) := by omega
      have hsn : s < n := by omega
      have hsn' : (s : Int) < (n : Int) := by omega
      have htn : t < n := by omega
      have htn' : (t : Int) < (n : Int) := by omega
      have cs := HR.out.cell (i := s) hsn
      have ct := HR.out.cell (i := t) htn
      have fs := HR.out.frozen s
      have ft := HR.out.frozen t
      obtain ⟨FR, hvR⟩ : ∃ v, ys.getD t 0 = v := ⟨_, rfl⟩
      obtain ⟨FC, hvC⟩ : ∃ v, ys.getD s 0 = v := ⟨_, rfl⟩
      have HvR := hide hvR
      have HvFC := hide hvC
      rw [hvR] at ct
      rw [hvC] at cs
      clear hc hs ht hu hvR hvC hleaf
      by_cases g2 : c + 1 < hi
      · have hgd : decide ((c : Int) + 1 < (hi : Int)) = true := by simp; omega
        have hgd2 : decide (c + 1 < hi) = true := by simp; omega
        have hun : u < n := by have := Hu.out; omega
        have hun' : (u : Int) < (n : Int) := by omega
        have hsn1 : (s : Int) + 1 < (n : Int) := by have := Hu.out; have := Hs.out; omega
        have cu := HR.out.cell (i := u) hun
        have fu := HR.out.frozen u
        obtain ⟨FU, hvU⟩ : ∃ v, ys.getD u 0 = v := ⟨_, rfl⟩
        have HvFU := hide hvU
        rw [hvU] at cu
        have cs1 : wr.cell? ⟨g, s + 1, none⟩ = some (.int .u64 FU) := by rw [← cu, Hu.out, Hs.out]; rfl
        clear hvU
        obtain ⟨z, hz⟩ : ∃ z : Bool, decide (FC < FU) = z := ⟨_, rfl⟩
        have HL1 := hide (less_any FC FU)
        rw [hz] at HL1
        cases z
        · have hlt1 : ¬ FC < FU := by simpa using hz
          have HMx : Hid (∀ d, Kid r d → d < hi → fn ys first d ≤ fn ys first c) := fun d hd _ => by
            show ys.getD (first + d) 0 ≤ ys.getD (first + c) 0
            rw [← Hs.out, HvFC.out]
            unfold Kid at hd
            rcases hd with hd | hd
            · rw [show first + d = s by have := Hs.out; have := HC.out; omega, HvFC.out]; omega
            · rw [show first + d = u by have := Hu.out; have := HC.out; omega, HvFU.out]; omega
          have HKid : Hid (Kid r (c)) := by show Kid _ _; unfold Kid; have := HC.out; omega
          have HSw := hide (fun k => (HR.out.drewN k).swap t s)
          have HS2 := hide (HS.out.trans (Sh.swap (xs := ys) (i := t) (j := s) (by omega) ⟨by have := HT.out; omega, by have := HT.out; have := HC.out; omega⟩ ⟨by have := Hs.out; omega, by have := Hs.out; omega⟩))
          have HDn : Hid (¬ FR < FC → Hp lo hi (fn ys first)) := fun h => sft_done (c := c) HF.out HMx.out (by show ¬ ys.getD (first + r) 0 < ys.getD (first + (c)) 0; rw [← HT.out, ← Hs.out, HvR.out, HvFC.out]; exact h)
          have HSt : Hid (FR < FC → Sft lo hi (c) (fn (swapL ys t s) first)) := fun h => by
            have e := swF_eq ys first r (c) (by have := HT.out; have := HC.out; omega) (by have := Hs.out; omega)
            rw [← HT.out, ← Hs.out] at e
            show Sft lo hi (c) (fun k => (swapL ys t s).getD (first + k) 0)
            rw [e]
            exact sft_step HF.out hr1 HKid.out (by omega) HMx.out (by show ys.getD (first + r) 0 < ys.getD (first + (c)) 0; rw [← HT.out, ← Hs.out, HvR.out, HvFC.out]; exact h)
          rw [HvR.out, HvFC.out] at HSw
          obtain ⟨z2, hz2⟩ : ∃ z : Bool, decide (FR < FC) = z := ⟨_, rfl⟩
          have HL2 := hide (less_any FR FC)
          rw [hz2] at HL2
          go_wp2
          go_quiet (first | (go_at_call 175; refine Calls.quiet_of_same (HL1.out _)))
          go_wp2
          go_quiet (first | (go_at_call 175; refine (HL2.out _).mono ?_; rintro e w2 ⟨rfl, rfl⟩; exact ⟨rfl, _, rfl⟩))
          cases z2
          · have hlt2 : ¬ FR < FC := by simpa using hz2
            have HD := hide (HDn.out (by first | exact hlt2 | omega))
            go_wp2
            refine bodyPost_ret (results_none rfl _ _ _) rfl ?_
            exact ⟨rfl, ys, HR.out.drewN _, HS.out, HD.out, HK.out.drN _⟩
          · have hlt2 : FR < FC := by simpa using hz2
            have HD := hide (HSt.out (by first | exact hlt2 | omega))
            go_wp2
            go_region
            all_goals
              go_wp2
              go_roundw
              case rel => exact ⟨c, swapL ys t s, by have := HC.out; omega, by have := HC.out; omega, by go_num, HSw.out _, HS2.out, HD.out, (HK.out.drN _).set2 _ _⟩
              case measure => have := HC.out; simp [intOf]; omega
        · have hlt1 : FC < FU := by simpa using hz
          have HMx : Hid (∀ d, Kid r d → d < hi → fn ys first d ≤ fn ys first (c + 1)) := fun d hd _ => by
            show ys.getD (first + d) 0 ≤ ys.getD (first + (c + 1)) 0
            rw [← Hu.out, HvFU.out]
            unfold Kid at hd
            rcases hd with hd | hd
            · rw [show first + d = s by have := Hs.out; have := HC.out; omega, HvFC.out]; omega
            · rw [show first + d = u by have := Hu.out; have := HC.out; omega, HvFU.out]; omega
          have HKid : Hid (Kid r (c + 1)) := by show Kid _ _; unfold Kid; have := HC.out; omega
          have HSw := hide (fun k => (HR.out.drewN k).swap t u)
          have HS2 := hide (HS.out.trans (Sh.swap (xs := ys) (i := t) (j := u) (by omega) ⟨by have := HT.out; omega, by have := HT.out; have := HC.out; omega⟩ ⟨by have := Hu.out; omega, by have := Hu.out; omega⟩))
          have HDn : Hid (¬ FR < FU → Hp lo hi (fn ys first)) := fun h => sft_done (c := c + 1) HF.out HMx.out (by show ¬ ys.getD (first + r) 0 < ys.getD (first + (c + 1)) 0; rw [← HT.out, ← Hu.out, HvR.out, HvFU.out]; exact h)
          have HSt : Hid (FR < FU → Sft lo hi (c + 1) (fn (swapL ys t u) first)) := fun h => by
            have e := swF_eq ys first r (c + 1) (by have := HT.out; have := HC.out; omega) (by have := Hu.out; omega)
            rw [← HT.out, ← Hu.out] at e
            show Sft lo hi (c + 1) (fun k => (swapL ys t u).getD (first + k) 0)
            rw [e]
            exact sft_step HF.out hr1 HKid.out (by omega) HMx.out (by show ys.getD (first + r) 0 < ys.getD (first + (c + 1)) 0; rw [← HT.out, ← Hu.out, HvR.out, HvFU.out]; exact h)
          rw [HvR.out, HvFU.out] at HSw
          obtain ⟨z2, hz2⟩ : ∃ z : Bool, decide (FR < FU) = z := ⟨_, rfl⟩
          have HL2 := hide (less_any FR FU)
          rw [hz2] at HL2
          go_wp2
          go_quiet (first | (go_at_call 175; refine Calls.quiet_of_same (HL1.out _)))
          go_wp2
          go_quiet (first | (go_at_call 175; refine (HL2.out _).mono ?_; rintro e w2 ⟨rfl, rfl⟩; exact ⟨rfl, _, rfl⟩))
          cases z2
          · have hlt2 : ¬ FR < FU := by simpa using hz2
            have HD := hide (HDn.out (by first | exact hlt2 | omega))
            go_wp2
            refine bodyPost_ret (results_none rfl _ _ _) rfl ?_
            exact ⟨rfl, ys, HR.out.drewN _, HS.out, HD.out, HK.out.drN _⟩
          · have hlt2 : FR < FU := by simpa using hz2
            have HD := hide (HSt.out (by first | exact hlt2 | omega))
            go_wp2
            go_region
            all_goals
              go_wp2
              go_roundw
              case rel => exact ⟨c + 1, swapL ys t u, by have := HC.out; omega, by have := HC.out; omega, by go_num, HSw.out _, HS2.out, HD.out, (HK.out.drN _).set2 _ _⟩
              case measure => have := HC.out; simp [intOf]; omega
      · have hgd : decide ((c : Int) + 1 < (hi : Int)) = false := by simp; omega
        have hgd2 : decide (c + 1 < hi) = false := by simp; omega
        have HMx : Hid (∀ d, Kid r d → d < hi → fn ys first d ≤ fn ys first c) := fun d hd hh => by
          show ys.getD (first + d) 0 ≤ ys.getD (first + c) 0
          unfold Kid at hd
          rw [show d = c by have := HC.out; omega]
          exact Int.le_refl _
        have HKid : Hid (Kid r (c)) := by show Kid _ _; unfold Kid; have := HC.out; omega
        have HSw := hide (fun k => (HR.out.drewN k).swap t s)
        have HS2 := hide (HS.out.trans (Sh.swap (xs := ys) (i := t) (j := s) (by omega) ⟨by have := HT.out; omega, by have := HT.out; have := HC.out; omega⟩ ⟨by have := Hs.out; omega, by have := Hs.out; omega⟩))
        have HDn : Hid (¬ FR < FC → Hp lo hi (fn ys first)) := fun h => sft_done (c := c) HF.out HMx.out (by show ¬ ys.getD (first + r) 0 < ys.getD (first + (c)) 0; rw [← HT.out, ← Hs.out, HvR.out, HvFC.out]; exact h)
        have HSt : Hid (FR < FC → Sft lo hi (c) (fn (swapL ys t s) first)) := fun h => by
          have e := swF_eq ys first r (c) (by have := HT.out; have := HC.out; omega) (by have := Hs.out; omega)
          rw [← HT.out, ← Hs.out] at e
          show Sft lo hi (c) (fun k => (swapL ys t s).getD (first + k) 0)
          rw [e]
          exact sft_step HF.out hr1 HKid.out (by omega) HMx.out (by show ys.getD (first + r) 0 < ys.getD (first + (c)) 0; rw [← HT.out, ← Hs.out, HvR.out, HvFC.out]; exact h)
        rw [HvR.out, HvFC.out] at HSw
        obtain ⟨z2, hz2⟩ : ∃ z : Bool, decide (FR < FC) = z := ⟨_, rfl⟩
        have HL2 := hide (less_any FR FC)
        rw [hz2] at HL2
        go_wp2
        go_quiet (first | fail)
        go_wp2
        go_quiet (first | (go_at_call 175; refine (HL2.out _).mono ?_; rintro e w2 ⟨rfl, rfl⟩; exact ⟨rfl, _, rfl⟩))
        cases z2
        · have hlt2 : ¬ FR < FC := by simpa using hz2
          have HD := hide (HDn.out (by first | exact hlt2 | omega))
          go_wp2
          refine bodyPost_ret (results_none rfl _ _ _) rfl ?_
          exact ⟨rfl, ys, HR.out.drewN _, HS.out, HD.out, HK.out.drN _⟩
        · have hlt2 : FR < FC := by simpa using hz2
          have HD := hide (HSt.out (by first | exact hlt2 | omega))
          go_wp2
          go_region
          all_goals
            go_wp2
            go_roundw
            case rel => exact ⟨c, swapL ys t s, by have := HC.out; omega, by have := HC.out; omega, by go_num, HSw.out _, HS2.out, HD.out, (HK.out.drN _).set2 _ _⟩
            case measure => have := HC.out; simp [intOf]; omega

end Go.Proofs.YtodmieehdleohaaGreat
