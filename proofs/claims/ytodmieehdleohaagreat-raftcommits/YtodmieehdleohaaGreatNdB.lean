/- Lists of numbers: slices.Index, Contains; a node's members, each once. slices.DeleteFunc, of the node itself; the other members. What a node keeps to, whatever it is given; its two maps. -/
import Derived.Test.YtodmieehdleohaaGreatNdA
import Derived.Test.YtodmieehdleohaaGreatRl7
import Derived.Test.YtodmieehdleohaaGreatRpB
import Derived.Test.YtodmieehdleohaaGreatSuD
import Derived.Deep.LoopGhost
namespace Go.Proofs.YtodmieehdleohaaGreat
open Go.RowKit NumMath
set_option linter.unusedVariables false
set_option maxRecDepth 100000

theorem getD_mem (l : List Int) (k : Nat) (h : k < l.length) : l.getD k 0 ∈ l := by
  simp [List.getD, List.getElem?_eq_getElem h]

theorem mem_getD {l : List Int} {x : Int} (h : x ∈ l) : ∃ k, k < l.length ∧ l.getD k 0 = x := by
  obtain ⟨k, hk, e⟩ := List.mem_iff_getElem.1 h
  exact ⟨k, hk, by simp [List.getD, List.getElem?_eq_getElem hk, e]⟩

set_option maxHeartbeats 400000 in
theorem index_any (a : Option Addr) (n c : Nat) (l : List Int) (x : Int) (w : World) (h : IsNums w a n c l) :
    Calls Tryz.prog 138 #[.slice a n c, .int .u64 x] w fun e w' => (∃ r : Int, e = .returned (.int .i64 r) ∧ ((0 ≤ r ∧ x ∈ l) ∨ (r = -1 ∧ x ∉ l))) ∧ w' = w := by
  have H := hide h
  have HL := hide h.1
  have hm := h.2.2.1
  have hnc := h.2.1
  unfold maxLen at hm
  clear h
  go_enter Tryz.func138, Tryz.ntmps138
  go_wp2
  go_loopw [8] (fun i wr => ∃ k : Nat, k ≤ n ∧ i = .int .i64 k ∧ (∀ j, j < k → l.getD j 0 ≠ x) ∧ wr = w) (fun i _ => n - (intOf i).toNat)
  case atStart => exact ⟨0, Nat.zero_le _, rfl, fun j hj => by omega, rfl⟩
  case round =>
    obtain ⟨k, hk, rfl, hJ, hw⟩ := hrel
    subst hw
    have HJ := hide hJ
    clear hJ
    by_cases hlt : k < n
    · obtain ⟨g, off, rfl, hg, hB⟩ := H.out.at hlt
      have hk' : k < l.length := by rw [HL.out]; exact hlt
      have hc := hB k hk'
      have HM := hide (getD_mem l k hk')
      obtain ⟨v, hv⟩ : ∃ v, l.getD k 0 = v := ⟨_, rfl⟩
      rw [hv] at hc HM
      have HV := hide hv
      clear hv hB hk'
      by_cases hx : x = v
      · subst hx
        go_wp2
        go_ret
        exact ⟨⟨k, rfl, .inl ⟨by omega, HM.out⟩⟩, rfl⟩
      · have hx2 : ¬ v = x := fun e => hx e.symm
        go_wp2
        go_roundw
        case rel => exact ⟨k + 1, by omega, by go_num, fun j hj => by rcases Nat.lt_succ_iff_lt_or_eq.1 hj with h1 | h1; exact HJ.out j h1; (rw [h1, HV.out]; exact fun e => hx e.symm), by simp⟩
        case measure => simp [intOf]; omega
    · have hkn : k = n := by omega
      subst hkn
      go_wp2
      go_ret
      refine ⟨⟨-1, rfl, .inr ⟨rfl, fun hm => ?_⟩⟩, rfl⟩
      obtain ⟨j, hj, e⟩ := mem_getD hm
      exact HJ.out j (by rw [HL.out] at hj; exact hj) e

theorem contains_any (a : Option Addr) (n c : Nat) (l : List Int) (x : Int) (w : World) (h : IsNums w a n c l) :
    Calls Tryz.prog 105 #[.slice a n c, .int .u64 x] w fun e w' => e = .returned (.bool (decide (x ∈ l))) ∧ w' = w := by
  have HI := hide (fun W (hW : IsNums W a n c l) => index_any a n c l x W hW)
  have H := hide h
  clear h
  go_enter Tryz.func105, Tryz.ntmps105
  go_wp2_with (first
    | (go_at_call 138; go_must (refine (HI.out _ (by exact H.out)).mono ?_); rintro e w2 ⟨⟨r, rfl, hr⟩, hw⟩; have hw := hw.symm; subst hw; have HR := hide hr; clear hr))
  go_ret
  refine ⟨?_, rfl⟩
  rcases HR.out with ⟨h1, h2⟩ | ⟨h1, h2⟩
  · simp [h1, h2]
  · subst h1
    simp [h2]

/-- each once, in the order of the first ones -/
def dedStep (acc : List Int) (m : Int) : List Int := if m ∈ acc then acc else acc ++ [m]
def dedL (l : List Int) : List Int := l.foldl dedStep []

theorem ded_take (l : List Int) (k : Nat) (h : k < l.length) : dedL (l.take (k + 1)) = dedStep (dedL (l.take k)) (l.getD k 0) := by
  unfold dedL
  rw [List.take_succ_eq_append_getElem h, List.foldl_append]
  simp [List.getD, List.getElem?_eq_getElem h]

theorem dedStep_len (acc : List Int) (m : Int) : (dedStep acc m).length ≤ acc.length + 1 ∧ ∀ x ∈ dedStep acc m, x ∈ acc ∨ x = m := by
  unfold dedStep
  split
  · exact ⟨Nat.le_succ _, fun x h => .inl h⟩
  · exact ⟨by simp, fun x h => by simpa using h⟩

theorem dedFold_len : ∀ (l acc : List Int), (l.foldl dedStep acc).length ≤ acc.length + l.length ∧ ∀ x ∈ l.foldl dedStep acc, x ∈ acc ∨ x ∈ l
  | [], acc => ⟨Nat.le_refl _, fun x h => .inl h⟩
  | m :: r, acc => by
    have h1 := dedStep_len acc m
    have h2 := dedFold_len r (dedStep acc m)
    refine ⟨by simp only [List.foldl_cons, List.length_cons]; omega, fun x hx => ?_⟩
    rcases h2.2 x hx with h | h
    · rcases h1.2 x h with h | h
      · exact .inl h
      · exact .inr (by simp [h])
    · exact .inr (by simp [h])

theorem ded_len (l : List Int) : (dedL l).length ≤ l.length := by
  have := (dedFold_len l []).1
  simpa [dedL] using this

theorem ded_sub (l : List Int) : ∀ x ∈ dedL l, x ∈ l := by
  intro x hx
  rcases (dedFold_len l []).2 x hx with h | h
  · cases h
  · exact h

theorem mem_take_nth {l : List Int} {x : Int} {k : Nat} (h : ∀ j, j < k → l.getD j 0 ≠ x) (hk : k = l.length) : x ∉ l := by
  intro hm
  obtain ⟨j, hj, e⟩ := mem_getD hm
  exact h j (by omega) e

/-- the members of a node -/
def Nd.mem (N : Nd) : List Int := dedL (toldL N.L.s N.L.es).1
def Nd.at_ (N : Nd) : Int := (toldL N.L.s N.L.es).2

set_option maxHeartbeats 1000000 in
theorem members_any (X : Nat → Prop) (base p z : Nat) (N : Nd) (w : World) (h : IsNd X w base p z N) (hG : N.L.Good) :
    Calls Tryz.prog 70 #[.pointer (some ⟨p, 0, none⟩)] w fun e w' => ∃ v, e = .returned (.tuple #[v, .int .u64 N.at_]) ∧ OwnU w' w.heap.size v N.mem ∧ (∀ x ∈ N.mem, 0 ≤ x ∧ x ≤ 18446744073709551615) ∧ Below w.heap.size w w' := by
  obtain ⟨q, c3, hL⟩ := h.log
  have HMm := hide (fun W (hb : Below w.heap.size w W) => mem_any X base q N.L W (hL.keep hb) hG)
  have hto := told_ok N.L.s N.L.es ⟨hG.m1, hG.m0⟩
  clear h hL hG
  unfold Nd.mem Nd.at_
  generalize toldL N.L.s N.L.es = tl at *
  obtain ⟨ts, ta⟩ := tl
  dsimp only at *
  have HTn := hide hto.1
  have HSub := hide (fun x hx => hto.2 x (ded_sub ts x hx))
  clear hto
  go_enter Tryz.func70, Tryz.ntmps70
  go_wp2
  go_step3
  go_wp2_with (first
    | (go_at_call 102; go_must (refine (HMm.out _ (Below.refl _ _)).mono ?_); rintro e w1 ⟨b, n, c, rfl, hown1, hok1, hb1⟩; have HO1 := hide hown1; have HK1 := hide hok1; have HB1 := hide hb1; clear hown1 hok1 hb1))
  obtain ⟨a1, n1, d1, h3, hI1, hy1⟩ := HO1.out.is HK1.out
  cases h3
  have HI1 := hide hI1
  have HLn := hide hI1.1
  have hm1 := hI1.2.2.1
  have hn1 := hI1.2.1
  unfold maxLen at hm1
  have hw1 := HB1.out.size
  clear hI1 hy1
  go_step3
  go_wp2
  go_loopg [6, 21] n (fun gk v i wr => ∃ k : Nat, gk = n - k ∧ k ≤ n ∧ i = .int .i64 k ∧ OwnU wr w1.heap.size v (dedL (ts.take k)) ∧ Below w1.heap.size w1 wr)
  case atStart => exact ⟨0, rfl, Nat.zero_le _, rfl, ownU_nil _ _, Below.refl _ _⟩
  case round =>
    obtain ⟨k, rfl, hk, rfl, hO, hb⟩ := hrel
    have HO := hide hO
    have HB := hide hb
    have hwr := hb.size
    clear hO hb
    by_cases hlt : k < n
    · have hk' : k < ts.length := by rw [HLn.out]; exact hlt
      obtain ⟨g, off, rfl, hg, hN⟩ := HI1.out.at hlt
      have hc := (HB.out.cell (p := ⟨g, off + k, none⟩) hg).trans (hN k hk')
      have HSt := hide (ded_take ts k hk')
      have hmr := HK1.out _ (getD_mem ts k hk')
      obtain ⟨m, hm⟩ : ∃ m, ts.getD k 0 = m := ⟨_, rfl⟩
      rw [hm] at hc HSt hmr
      have HMr := hide hmr
      clear hN hk' hm hmr
      obtain ⟨S, hS⟩ : ∃ S, dedL (ts.take k) = S := ⟨_, rfl⟩
      rw [hS] at HO HSt
      have hSr : ∀ x ∈ S, 0 ≤ x ∧ x ≤ 18446744073709551615 := fun x hx => HK1.out x (List.mem_of_mem_take (ded_sub _ x (hS ▸ hx)))
      have hSl : S.length ≤ n := by
        have := ded_len (ts.take k)
        rw [hS, List.length_take] at this
        omega
      obtain ⟨la, ln, lc, rfl, hIl, -⟩ := HO.out.is hSr
      have HIl := hide hIl
      have HLl := hide hIl.1
      have hlm := hIl.2.2.1
      have hlc := hIl.2.1
      unfold maxLen at hlm
      have hln : ln ≤ n := by rw [← hIl.1]; exact hSl
      have hn9 : n ≤ 1000 := by rw [← HLn.out]; exact HTn.out
      clear hS hSr hIl
      go_wp2
      go_loopg [27] ln (fun gk i wx => wr = wx ∧ ∃ j : Nat, gk = ln - j ∧ j ≤ ln ∧ i = .int .i64 j ∧ ∀ x, x < j → S.getD x 0 ≠ m)
      case atStart => exact ⟨rfl, 0, rfl, Nat.zero_le _, rfl, fun x hx => by omega⟩
      case round =>
        obtain ⟨rfl, j, rfl, hj, rfl, hJ⟩ := hrel
        have HJ := hide hJ
        clear hJ
        by_cases hjl : j < ln
        · have hj' : j < S.length := by rw [HLl.out]; exact hjl
          obtain ⟨g2, off2, rfl, hg2, hN2⟩ := HIl.out.at hjl
          have hc2 := hN2 j hj'
          have HMm2 := hide (getD_mem S j hj')
          obtain ⟨u, hu⟩ : ∃ u, S.getD j 0 = u := ⟨_, rfl⟩
          rw [hu] at hc2 HMm2
          have HU := hide hu
          clear hu hN2 hj'
          by_cases hx : m = u
          · subst hx
            have HS2 : Hid (dedStep S m = S) := by show _ = _; unfold dedStep; rw [if_pos HMm2.out]
            go_wp2
            go_roundg (n - (k + 1))
            case measure => omega
            case rel => exact ⟨k + 1, rfl, by omega, by go_num, by rw [HSt.out, HS2.out]; exact HO.out, HB.out⟩
          · go_wp2
            go_roundg (ln - (j + 1))
            case measure => omega
            case rel => exact ⟨rfl, j + 1, rfl, by omega, by go_num, fun x hx2 => by rcases Nat.lt_succ_iff_lt_or_eq.1 hx2 with h1 | h1; exact HJ.out x h1; (rw [h1, HU.out]; exact fun e => hx e.symm)⟩
        · have hjn : j = ln := by omega
          have HS2 : Hid (dedStep S m = S ++ [m]) := by show _ = _; unfold dedStep; rw [if_neg (mem_take_nth HJ.out (by rw [HLl.out]; exact hjn))]
          subst hjn
          go_wp2_with (first
            | (at_builtin; go_must (refine wp_joinU _ rfl (.tmp 35) (.tmp 37) rfl w1.heap.size _ S rfl (HO.out.keep (new_below _ _)) (some ⟨wr.heap.size, 0, none⟩) 1 1 [m] rfl (u64_cell _ _ _ rfl) (by have := HTn.out; simp; omega) (by simp; omega) ?_); intro v3 w3 hown3 hg3 hat3; have HO3 := hide hown3; have HB3 := hide ((HB.out.alloc hwr (.cells #[.int .u64 m] 22)).trans ((HO.out.keep (new_below _ _)).grown hg3 (by simp; omega))); clear hown3 hg3 hat3))
          go_roundg (n - (k + 1))
          case measure => omega
          case rel => exact ⟨k + 1, rfl, by omega, by go_num, by rw [HSt.out, HS2.out]; exact HO3.out, HB3.out⟩
    · have hkn : k = n := by omega
      subst hkn
      go_wp2
      try rw [Exit.noGoto_ret]
      go_ret2
      have e : dedL (ts.take k) = dedL ts := by rw [List.take_of_length_le (by rw [HLn.out]; exact Nat.le_refl _)]
      exact ⟨_, rfl, by rw [← e]; exact HO.out.mono hw1, HSub.out, HB1.out.trans (HB.out.mono hw1)⟩

end Go.Proofs.YtodmieehdleohaaGreat

namespace Go.Proofs.YtodmieehdleohaaGreat
open Go.RowKit NumMath
set_option linter.unusedVariables false
set_option maxRecDepth 100000

/-- the closure's world: the box with the node's pointer, the node's number -/
def IdBox (w : World) (B p : Nat) (id : Int) : Prop := w.cell? ⟨B, 0, none⟩ = some (.pointer (some ⟨p, 0, none⟩)) ∧ w.cell? ⟨p, 0, none⟩ = some (.int .u64 id) ∧ B < w.heap.size ∧ p < w.heap.size

theorem IdBox.keep {w w' : World} {B p : Nat} {id : Int} (h : IdBox w B p id) (hb : Below w.heap.size w w') : IdBox w' B p id :=
  ⟨(hb.cell (p := ⟨B, 0, none⟩) h.2.2.1).trans h.1, (hb.cell (p := ⟨p, 0, none⟩) h.2.2.2).trans h.2.1, Nat.lt_of_lt_of_le h.2.2.1 hb.size, Nat.lt_of_lt_of_le h.2.2.2 hb.size⟩

theorem IdBox.lies {w w' : World} {B p g : Nat} {id : Int} (h : IdBox w B p id) (hk : Keeps (fun k => k = g) w w') (h1 : B ≠ g) (h2 : p ≠ g) : IdBox w' B p id :=
  ⟨(hk.cell h.2.2.1 h1).trans h.1, (hk.cell h.2.2.2 h2).trans h.2.1, Nat.lt_of_lt_of_le h.2.2.1 hk.size, Nat.lt_of_lt_of_le h.2.2.2 hk.size⟩

theorem oth1_any (x : Int) (B p : Nat) (id : Int) (w : World) (h : IdBox w B p id) :
    Calls Tryz.prog 137 #[.int .u64 x, .pointer (some ⟨B, 0, none⟩)] w fun e w' => e = .returned (.bool (x == id)) ∧ w' = w := by
  obtain ⟨h1, h2, -, -⟩ := h
  go_enter Tryz.func137, Tryz.ntmps137
  go_wp2
  go_ret
  exact ⟨rfl, rfl⟩

set_option maxHeartbeats 400000 in
theorem indexF_any (a : Option Addr) (n c : Nat) (l : List Int) (B p : Nat) (id : Int) (w : World) (h : IsNums w a n c l) (hI : IdBox w B p id) :
    Calls Tryz.prog 152 #[.slice a n c, .func (.func 137) #[] #[.pointer (some ⟨B, 0, none⟩)]] w fun e w' => ((e = .returned (.int .i64 (-1)) ∧ id ∉ l) ∨ (∃ k k1 : Nat, ((k : Int) == -1) = false ∧ (k : Int) + 1 = (k1 : Int) ∧ k < k1 ∧ k1 ≤ n ∧ e = .returned (.int .i64 k))) ∧ w' = w := by
  have H := hide h
  have HL := hide h.1
  have hm := h.2.2.1
  have hnc := h.2.1
  unfold maxLen at hm
  have HO := hide (fun x => oth1_any x B p id w hI)
  clear h hI
  go_enter Tryz.func152, Tryz.ntmps152
  go_wp2
  go_loopw [8] (fun i wr => ∃ k : Nat, k ≤ n ∧ i = .int .i64 k ∧ (∀ j, j < k → l.getD j 0 ≠ id) ∧ wr = w) (fun i _ => n - (intOf i).toNat)
  case atStart => exact ⟨0, Nat.zero_le _, rfl, fun j hj => by omega, rfl⟩
  case round =>
    obtain ⟨k, hk, rfl, hJ, hw⟩ := hrel
    subst hw
    have HJ := hide hJ
    clear hJ
    by_cases hlt : k < n
    · obtain ⟨g, off, rfl, hg, hB⟩ := H.out.at hlt
      have hk' : k < l.length := by rw [HL.out]; exact hlt
      have hc := hB k hk'
      obtain ⟨v, hv⟩ : ∃ v, l.getD k 0 = v := ⟨_, rfl⟩
      rw [hv] at hc
      have HV := hide hv
      clear hv hB hk'
      by_cases hx : v = id
      · have hz : (v == id) = true := by simpa using hx
        go_wp2_with (first
          | (go_at_call 137; go_must (refine (HO.out _).mono ?_); rintro e w2 ⟨rfl, hw⟩; have hw := hw.symm; subst hw))
        go_ret
        exact ⟨.inr ⟨k, k + 1, by simp, by omega, by omega, by omega, rfl⟩, rfl⟩
      · have hz : (v == id) = false := by simpa using hx
        go_wp2_with (first
          | (go_at_call 137; go_must (refine (HO.out _).mono ?_); rintro e w2 ⟨rfl, hw⟩; have hw := hw.symm; subst hw))
        go_roundw
        case rel => exact ⟨k + 1, by omega, by go_num, fun j hj => by rcases Nat.lt_succ_iff_lt_or_eq.1 hj with h1 | h1; exact HJ.out j h1; (rw [h1, HV.out]; exact hx), by simp⟩
        case measure => simp [intOf]; omega
    · have hkn : k = n := by omega
      subst hkn
      go_wp2
      go_ret
      exact ⟨.inl ⟨rfl, mem_take_nth HJ.out HL.out.symm⟩, rfl⟩

theorem indexN_any (B : Nat) (w : World) :
    Calls Tryz.prog 152 #[.slice none 0 0, .func (.func 137) #[] #[.pointer (some ⟨B, 0, none⟩)]] w fun e w' => e = .returned (.int .i64 (-1)) ∧ w' = w := by
  go_enter Tryz.func152, Tryz.ntmps152
  go_wp2
  refine wp_loop_rounds 1 ?_
  rw [rounds_succ]
  go_wp2
  go_ret
  exact ⟨rfl, rfl⟩

theorem RU.isN {w : World} {g n cap : Nat} {l : List Int} (h : RU w g n cap l) (hl : ∀ x ∈ l, 0 ≤ x ∧ x ≤ 18446744073709551615) (hcap : n ≤ cap) (hcm : cap ≤ maxLen) : IsNums w (some ⟨g, 0, none⟩) n cap l :=
  ⟨h.len, hcap, hcm, hl, .inr ⟨g, 0, rfl, h.lt, fun i hi => by rw [Nat.zero_add]; exact h.cell (by rw [h.len] at hi; exact hi)⟩⟩

/-- what DeleteFunc answers: the beginning of the same row -/
def DelPost (w : World) (g n cap : Nat) (l : List Int) (id : Int) (e : Ending) (w' : World) : Prop :=
  ∃ (m : Nat) (l' : List Int), e = .returned (.slice (some ⟨g, 0, none⟩) m cap) ∧ l'.length = m ∧ NumsAt w' g 0 l' ∧ m ≤ n ∧ (id ∈ l → m < n) ∧ (∀ x ∈ l', 0 ≤ x ∧ x ≤ 18446744073709551615) ∧ Keeps (fun k => k = g) w w'

set_option maxHeartbeats 1000000 in
theorem deleteF_any (g n cap : Nat) (l : List Int) (B p : Nat) (id : Int) (w : World) (h : RU w g n cap l) (hl : ∀ x ∈ l, 0 ≤ x ∧ x ≤ 18446744073709551615) (hcap : n ≤ cap) (hn : n ≤ 1000000) (hcm : cap ≤ maxLen) (hI : IdBox w B p id) (hB : B ≠ g) (hp : p ≠ g) :
    Calls Tryz.prog 136 #[.slice (some ⟨g, 0, none⟩) n cap, .func (.func 137) #[] #[.pointer (some ⟨B, 0, none⟩)]] w fun e w' => DelPost w g n cap l id e w' := by
  have H := hide h
  have HL := hide hl
  have HIx := hide (indexF_any (some ⟨g, 0, none⟩) n cap l B p id w (h.isN hl hcap hcm) hI)
  have HOt := hide (fun W (hW : Keeps (fun k => k = g) w W) x => oth1_any x B p id W (hI.lies hW hB hp))
  have hcm2 := hcm
  unfold maxLen at hcm2
  clear h hl hI hcm
  go_enter Tryz.func136, Tryz.ntmps136
  go_wp2_with (first
    | (go_at_call 152; go_must (refine HIx.out.mono ?_); rintro e w2 ⟨⟨rfl, hno⟩ | ⟨k, k1, hk1, hk2, hk3, hk4, rfl⟩, hw⟩ <;> have hw := hw.symm <;> subst hw))
  · go_ret
    exact ⟨n, l, rfl, H.out.len, by have := numsAt_take H.out n (Nat.le_refl _); rwa [List.take_of_length_le (by rw [H.out.len]; exact Nat.le_refl _)] at this, Nat.le_refl _, fun e => absurd e (by assumption), HL.out, Keeps.refl _ _⟩
  · go_wp2
    go_loopw [5, 6] (fun i j wr => ∃ (ki kj : Nat) (zs : List Int), ki < kj ∧ kj ≤ n ∧ i = .int .i64 ki ∧ j = .int .i64 kj ∧ RU wr g n cap zs ∧ (∀ x ∈ zs, 0 ≤ x ∧ x ≤ 18446744073709551615) ∧ Keeps (fun k => k = g) w wr) (fun _ j _ => n - (intOf j).toNat)
    case atStart => exact ⟨k, k1, l, hk3, hk4, rfl, rfl, H.out, HL.out, Keeps.refl _ _⟩
    case round =>
      obtain ⟨ki, kj, zs, hij, hj, rfl, rfl, hR, hZ, hK⟩ := hrel
      have HR := hide hR
      have HZ := hide hZ
      have HK := hide hK
      clear hR hZ hK hk1 hk2 hk3 hk4
      by_cases hlt : kj < n
      · have hkj : (kj : Int) < (n : Int) := by omega
        have hki : (ki : Int) < (n : Int) := by omega
        have c1 := HR.out.cell (i := kj) hlt
        have c2 := HR.out.cell (i := ki) (by omega)
        have f2 := HR.out.frozen ki
        have hvr := HZ.out _ (getD_mem zs kj (by rw [HR.out.len]; exact hlt))
        obtain ⟨v, hv⟩ : ∃ v, zs.getD kj 0 = v := ⟨_, rfl⟩
        rw [hv] at c1 hvr
        have HV := hide hvr
        clear hv hvr
        by_cases hx : v = id
        · have hz : (v == id) = true := by simpa using hx
          go_wp2_with (first
            | (go_at_call 137; go_must (refine (HOt.out _ HK.out _).mono ?_); rintro e w2 ⟨rfl, hw⟩; have hw := hw.symm; subst hw))
          go_roundw
          case rel => exact ⟨ki, kj + 1, zs, by omega, by omega, rfl, by go_num, HR.out, HZ.out, HK.out⟩
          case measure => simp [intOf]; omega
        · have hz : (v == id) = false := by simpa using hx
          have HRs := hide (HR.out.set ki v)
          have HKs := hide (HK.out.trans (Keeps.set (p := g) (i := ki) (.int .u64 v)))
          go_wp2_with (first
            | (go_at_call 137; go_must (refine (HOt.out _ HK.out _).mono ?_); rintro e w2 ⟨rfl, hw⟩; have hw := hw.symm; subst hw))
          go_roundw
          case rel => exact ⟨ki + 1, kj + 1, zs.set ki v, by omega, by omega, by go_num, by go_num, HRs.out, fun x hx => by rcases List.mem_or_eq_of_mem_set hx with h1 | h1; exact HZ.out x h1; (rw [h1]; exact HV.out), HKs.out⟩
          case measure => simp [intOf]; omega
      · have hkj : kj = n := by omega
        subst hkj
        have g1 : ¬ cap = ki := by omega
        have hkn : (ki : Int) ≤ (kj : Int) := by omega
        have hkn2 : (ki : Int) ≤ (cap : Int) := by omega
        have hcl : ∀ ty, (Builtin.clear_ #[25] ty #[.slice (some ⟨g, ki, none⟩) (kj - ki) (cap - ki)]).run Tryz.prog wr = .ok (.tuple #[]) (wr.setCells g ki (List.replicate (kj - ki) (.int .u64 0))) :=
          fun ty => Lib.run_clear_slice wr 25 22 ty (.int .u64 0) Tryz.underlying25 zeroU64 rfl rfl g ki (kj - ki) (cap - ki) (by omega) (fun j hj => by rw [HR.out.cell (i := ki + j) (by omega)]; rfl) (fun j hj => HR.out.frozen (ki + j))
        have HW := hide (keeps_setCells g (List.replicate (kj - ki) (.int .u64 0)) ki wr)
        have HC := hide (fun i (hi : i < ki) => World.cell?_setCells_out g (List.replicate (kj - ki) (.int .u64 0)) ki wr ⟨g, i, none⟩ (fun _ _ => .inl hi))
        go_wp2
        go_ret
        refine ⟨ki, zs.take ki, rfl, by rw [List.length_take, HR.out.len]; omega, fun i hi => ?_, by omega, fun _ => by omega, fun x hx => HZ.out x (List.mem_of_mem_take hx), HK.out.trans HW.out⟩
        have hi' : i < ki := by rw [List.length_take] at hi; omega
        rw [Nat.zero_add, HC.out i hi']
        have := numsAt_take HR.out ki (by omega) i hi
        rwa [Nat.zero_add] at this

theorem ownU_at {w : World} {base g n cap : Nat} {xs : List Int} (h : OwnU w base (.slice (some ⟨g, 0, none⟩) n cap) xs) : OwnU w g (.slice (some ⟨g, 0, none⟩) n cap) xs := by
  obtain ⟨h1, h2⟩ := h
  refine ⟨h1, ?_⟩
  rcases h2 with ⟨h2, _⟩ | ⟨g', c', cur, h2, h3, h4⟩
  · cases h2
  · cases h2
    exact .inr ⟨g, cap, cur, rfl, Nat.le_refl _, h4⟩

theorem deleteF_nil (B : Nat) (w : World) :
    Calls Tryz.prog 136 #[.slice none 0 0, .func (.func 137) #[] #[.pointer (some ⟨B, 0, none⟩)]] w fun e w' => e = .returned (.slice none 0 0) ∧ w' = w := by
  have HIx := hide (indexN_any B w)
  go_enter Tryz.func136, Tryz.ntmps136
  go_wp2_with (first
    | (go_at_call 152; go_must (refine HIx.out.mono ?_); rintro e w2 ⟨rfl, hw⟩; have hw := hw.symm; subst hw))
  go_ret
  exact ⟨rfl, rfl⟩

/-- what 'others' answers -/
def OthPost (w : World) (N : Nd) (e : Ending) (w' : World) : Prop :=
  ∃ (a : Option Addr) (m c : Nat) (l : List Int), e = .returned (.slice a m c) ∧ IsNums w' a m c l ∧ (∀ y, a = some y → w.heap.size ≤ y.block) ∧ m ≤ N.mem.length ∧ (N.mem = [N.id] → m = 0) ∧ Below w.heap.size w w'

set_option maxHeartbeats 1000000 in
theorem others_any (X : Nat → Prop) (base p z : Nat) (N : Nd) (w : World) (h : IsNd X w base p z N) (hG : N.L.Good) :
    Calls Tryz.prog 103 #[.pointer (some ⟨p, 0, none⟩)] w fun e w' => OthPost w N e w' := by
  have hbB := new_below w (.cells #[.pointer (some ⟨p, 0, none⟩)] 44)
  have HMe := hide (members_any X base p z N _ (h.keep hbB) hG)
  have c0 := h.c.1
  have hpl := h.at.2
  have hto := (told_ok N.L.s N.L.es ⟨hG.m1, hG.m0⟩).1
  have hml : N.mem.length ≤ 1000 := Nat.le_trans (ded_len _) hto
  have HI0 : Hid (IdBox (w.alloc (.cells #[.pointer (some ⟨p, 0, none⟩)] 44)) w.heap.size p N.id) := ⟨by simp, (hbB.cell (p := ⟨p, 0, none⟩) hpl).trans c0, by simp, by simp; omega⟩
  have HbB := hide hbB
  clear h hG hto hbB c0
  go_enter Tryz.func103, Tryz.ntmps103
  go_wp2_with (first
    | (go_at_call 70; go_must (refine HMe.out.mono ?_); rintro e w1 ⟨v, rfl, hown1, hok1, hb1⟩; have HO1 := hide hown1; have HK1 := hide hok1; have HB1 := hide hb1; have HI1 := hide (HI0.out.keep hb1); clear hown1 hok1 hb1))
  have HX1 := hide HK1
  rcases HO1.out.form with ⟨rfl, hnil⟩ | ⟨g, cap, rfl, hg, hgl, hlc, hcm, hN⟩
  · have HDn := hide (fun W => deleteF_nil w.heap.size W)
    have hb2 := HbB.out.trans (HB1.out.mono (by simp))
    have HB2 := hide hb2
    clear hb2
    go_wp2_with (first
      | (go_at_call 136; go_must (refine (HDn.out _).mono ?_); rintro e w2 ⟨rfl, hw⟩; have hw := hw.symm; subst hw))
    go_ret
    exact ⟨none, 0, 0, [], rfl, isNums_nil _, (fun y hy => by cases hy), Nat.zero_le _, fun _ => rfl, HB2.out⟩
  · have hne : w.heap.size ≠ g := by simp at hg; omega
    have hne2 : p ≠ g := by simp at hg; omega
    obtain ⟨n, hn⟩ : ∃ n, N.mem.length = n := ⟨_, rfl⟩
    have HRU : RU w1 g n cap N.mem := ⟨hn, by have := HO1.out; rw [hn] at this; exact ownU_at this⟩
    rw [hn] at hlc hml ⊢
    have HDe := hide (deleteF_any g n cap N.mem w.heap.size p N.id w1 HRU HK1.out hlc (by omega) hcm HI1.out hne hne2)
    have HN := hide hn
    have hcl := hcm
    unfold maxLen at hcl
    have HC := hide hcm
    have HG := hide hg
    clear HRU hn hN hcm hne hne2 hg
    go_wp2_with (first
      | (go_at_call 136; go_must (refine HDe.out.mono ?_); rintro e w2 ⟨m, l', rfl, hl', hN', hmn, hid, hr', hk'⟩; have HP := hide (And.intro hl' (And.intro hN' (And.intro hmn (And.intro hid (And.intro hr' hk'))))); clear hl' hN' hmn hid hr' hk'))
    go_ret
    obtain ⟨hl', hN', hmn, hid, hr', hk'⟩ := HP.out
    have hg := HG.out
    simp only [World.size_alloc] at hg
    refine ⟨some ⟨g, 0, none⟩, m, cap, l', rfl, ⟨hl', by omega, HC.out, hr', .inr ⟨g, 0, rfl, by have := hk'.size; omega, hN'⟩⟩, (fun y hy => by cases hy; show _ ≤ g; omega), by rw [HN.out]; exact hmn, fun e => ?_, ?_⟩
    · have h1 := HN.out
      rw [e] at h1
      have := hid (by rw [e]; simp)
      simp at h1
      omega
    · exact (HbB.out.trans (HB1.out.mono (by simp))).trans (hk'.below (by have := HB1.out.size; simp at this; omega) (fun k e => by omega))

end Go.Proofs.YtodmieehdleohaaGreat

namespace Go.Proofs.YtodmieehdleohaaGreat
open Go.RowKit NumMath
set_option linter.unusedVariables false
set_option maxRecDepth 100000

abbrev U64 (x : Int) : Prop := 0 ≤ x ∧ x ≤ 18446744073709551615

/-- what holds of a node at any time; z: how much it has of anything -/
structure Nd.Ok (z : Nat) (N : Nd) : Prop where
  good : N.L.Good
  n : N.L.es.length ≤ z
  m9 : N.L.s.m.length ≤ 9
  i62 : N.L.s.i ≤ 4611686018427387904
  d : ∀ e ∈ N.L.es, e.d.length ≤ 5000
  r1 : N.role = 1 → N.hv = true
  r2 : N.role = 2 → N.hg = true
  id : U64 N.id
  term : U64 N.term
  vote : U64 N.vote
  leader : U64 N.leader
  ticks : U64 N.ticks
  commit : U64 N.commit
  given : U64 N.given

/-- what a node does not take back -/
structure Fw (N N' : Nd) : Prop where
  id : N'.id = N.id
  term : N.term ≤ N'.term
  commit : N.commit ≤ N'.commit
  vote : N.term = N'.term → N.vote ≠ 0 → N'.vote = N.vote
  si : N.L.s.i ≤ N'.L.s.i
  kept : ∀ e ∈ N.L.es, e.i ≤ N.commit → N'.L.s.i < e.i → e ∈ N'.L.es
  low : N.L.s.i ≤ N.commit → N'.L.s.i ≤ N'.commit

theorem Fw.refl (N : Nd) : Fw N N := ⟨rfl, Int.le_refl _, Int.le_refl _, fun _ _ => rfl, Int.le_refl _, fun e h _ _ => h, fun h => h⟩

theorem Fw.trans {A B C : Nd} (h : Fw A B) (k : Fw B C) : Fw A C := by
  refine ⟨k.id.trans h.id, Int.le_trans h.term k.term, Int.le_trans h.commit k.commit, ?_, Int.le_trans h.si k.si, ?_, fun x => k.low (h.low x)⟩
  · intro e hv
    have e1 : A.term = B.term := by have := h.term; have := k.term; omega
    have e2 : B.term = C.term := by omega
    have h1 := h.vote e1 hv
    rw [k.vote e2 (by rw [h1]; exact hv), h1]
  · intro e he hc hs
    exact k.kept e (h.kept e he hc (Int.lt_of_le_of_lt k.si hs)) (Int.le_trans hc h.commit) hs

/-- a node that differs in what is not spoken of -/
theorem Fw.same {N N' : Nd} (h1 : N'.id = N.id) (h2 : N'.term = N.term) (h3 : N'.vote = N.vote) (h4 : N.commit ≤ N'.commit) (h5 : N'.L = N.L) : Fw N N' :=
  ⟨h1, by omega, h4, fun _ _ => h3, by rw [h5]; exact Int.le_refl _, fun e he _ _ => by rw [h5]; exact he, fun x => by rw [h5]; omega⟩

theorem Nd.Ok.mono {z z' : Nat} {N : Nd} (h : N.Ok z) (hz : z ≤ z') : N.Ok z' :=
  ⟨h.good, Nat.le_trans h.n hz, h.m9, h.i62, h.d, h.r1, h.r2, h.id, h.term, h.vote, h.leader, h.ticks, h.commit, h.given⟩

theorem mem_nine {bs l : List Int} (h : memOf bs = some l) : l.length ≤ 9 := by
  unfold memOf at h
  cases hT : memLoop (rdN 9 (some bs)).1.toNat 0 (rdN 9 (some bs)).2 with
  | none => rw [hT] at h; cases h
  | some y =>
    obtain ⟨l', st⟩ := y
    rw [hT] at h
    obtain ⟨h1, h2⟩ := memLoop_ok _ _ _ _ hT
    by_cases he : rdEnd st = 0
    · rw [memEnd_yes he] at h
      cases h
      have hn := (rdN_rng 9 (some bs) (by omega)).2
      dsimp only at h1 h2
      omega
    · rw [memEnd_no he] at h; cases h

theorem told_nine (s : Snp) (es : List Ent) (hs : s.m.length ≤ 9) : (toldL s es).1.length ≤ 9 := by
  have h : ∀ (es : List Ent) (acc : List Int × Int), acc.1.length ≤ 9 → (es.foldl stepT acc).1.length ≤ 9 := by
    intro es
    induction es with
    | nil => intro acc h; exact h
    | cons e r ih =>
      intro acc h
      rw [List.foldl_cons]
      apply ih
      unfold stepT
      split
      · cases hm : memOf e.d with
        | none => exact h
        | some l => exact mem_nine hm
      · exact h
  exact h es (s.m, s.i) hs

theorem Nd.Ok.nine {z : Nat} {N : Nd} (h : N.Ok z) : N.mem.length ≤ 9 := Nat.le_trans (ded_len _) (told_nine _ _ h.m9)

theorem told_at_rng (s : Snp) (es : List Ent) (hs : U64 s.i) (he : ∀ e ∈ es, e.ok) : U64 (toldL s es).2 := by
  have h : ∀ (es : List Ent) (acc : List Int × Int), (∀ e ∈ es, e.ok) → U64 acc.2 → U64 (es.foldl stepT acc).2 := by
    intro es
    induction es with
    | nil => intro acc _ h; exact h
    | cons e r ih =>
      intro acc ho h
      rw [List.foldl_cons]
      apply ih _ (fun e' he' => ho e' (by simp [he']))
      unfold stepT
      split
      · cases hm : memOf e.d with
        | none => exact h
        | some l => exact (ho e (by simp)).1
      · exact h
  exact h es (s.m, s.i) he hs

theorem Nd.Ok.at_ {z : Nat} {N : Nd} (h : N.Ok z) : U64 N.at_ :=
  told_at_rng _ _ ⟨h.good.i0, by have := h.i62; omega⟩ (fun e he => (h.good.ok e he).1)

theorem termL_rng {L : LogS} (h : L.Good) (x : Int) : U64 (termL L x).1 := by
  unfold termL
  split
  · exact ⟨h.t0, h.t1⟩
  · split
    · exact ⟨by decide, by decide⟩
    · rename_i h1 h2
      have hl : (x - (L.s.i + 1)).toNat < L.es.length := by omega
      have : L.es.getD (x - (L.s.i + 1)).toNat ent0 ∈ L.es := by simp [List.getD, List.getElem?_eq_getElem hl]
      exact (h.ok _ this).1.2.1

/-- the last index -/
def Nd.last (N : Nd) : Int := N.L.s.i + N.L.es.length

theorem keyU {x : Int} (h : U64 x) : keyOf Tryz.prog 22 (.int .u64 x) = some (.int .u64 x) :=
  Maps.keyOf_int_mk Tryz.underlying22 (by simp [Lit.wf, IntKind.min, IntKind.max, IntKind.signed, IntKind.bits]; exact ⟨h.1, by have := h.2; omega⟩)

theorem zeroP (w : World) : (zeroValue 107).run Tryz.prog w = .ok (.agg #[.int .u64 0, .int .u64 0]) w := by kernel_rfl

theorem zeroE (w : World) : (zeroValue 148).run Tryz.prog w = .ok (.agg #[]) w := by kernel_rfl

/-- a look-up of a member's place -/
theorem wp_lookP {ops : Array Oper} {rest : List Oper} {o : Oper} {a : Act} {Q : Exit → Act → World → Prop} (w : World) (hg : o.guard = none) (m x : Operand) (hop : o.op = Op.lookup 86 m x false)
    (b z : Nat) (hm : a.eval m = .map (some b)) (h : MapP w b z) (key : Int) (hk : U64 key) (hx : a.eval x = .int .u64 key)
    (hK : ∀ u v : Int, U64 u → U64 v → wpList Tryz.prog ops Q rest (a.put o.dst (.agg #[.int .u64 u, .int .u64 v])) w) : wpList Tryz.prog ops Q (o :: rest) a w := by
  refine wpList_plain hg fun K' hK' => ?_
  obtain ⟨D, hown⟩ := h
  obtain ⟨v, ps, hrun, hv⟩ := hown.lookup (Maps.int_keyed Tryz.underlying22) Tryz.underlying86 (zeroP w) (pairElem_mk (a := 0) (b := 0) ⟨by decide, by decide⟩ ⟨by decide, by decide⟩) (keyU hk)
  obtain ⟨u, v, rfl, h1, h2⟩ := pairElem_inv hv
  unfold Oper.wp
  simp [execOp, hop, hm, hx, hrun, Result.andThen]
  exact hK' _ _ (hK u v h1 h2)

/-- a member's place set, as it runs -/
theorem run_setP (w : World) (b z : Nat) (h : MapP w b z) (hz : z ≤ 1000000) (key u v : Int) (hk : U64 key) (hu : U64 u) (hv : U64 v) :
    ∃ w', (Instr.mapUpdate 86 (.map (some b)) (.int .u64 key) (.agg #[.int .u64 u, .int .u64 v])).run Tryz.prog w = .ok () w' ∧ MapP w' b (z + 1) ∧ w.mapTurned w' b := by
  obtain ⟨D, hown⟩ := h
  obtain ⟨w', h1, h2, h3⟩ := hown.store (Maps.int_keyed Tryz.underlying22) Tryz.underlying86 (by unfold maxLen; omega) (keyU hk) (pairElem_mk hu hv)
  exact ⟨w', h1, ⟨_, h2⟩, h3⟩

/-- .. in a plain statement -/
theorem wp_setP {ops : Array Oper} {rest : List Oper} {o : Oper} {a : Act} {Q : Exit → Act → World → Prop} (w : World) (hg : o.guard = none) (m x y : Operand) (hop : o.op = Op.mapUpdate 86 m x y)
    (b z : Nat) (hm : a.eval m = .map (some b)) (h : MapP w b z) (hz : z ≤ 1000000) (key u v : Int) (hk : U64 key) (hu : U64 u) (hv : U64 v) (hx : a.eval x = .int .u64 key) (hy : a.eval y = .agg #[.int .u64 u, .int .u64 v])
    (hK : ∀ w', MapP w' b (z + 1) → w.mapTurned w' b → wpList Tryz.prog ops Q rest (a.put o.dst undef) w') : wpList Tryz.prog ops Q (o :: rest) a w := by
  refine wpList_plain hg fun K' hK' => ?_
  obtain ⟨w', hrun, r1, r2⟩ := run_setP w b z h hz key u v hk hu hv
  unfold Oper.wp
  simp [execOp, hop, hm, hx, hy, hrun, Result.andThen]
  exact hK' _ _ (hK w' r1 r2)

/-- a member's place struck -/
theorem wp_delP {ops : Array Oper} {rest : List Oper} {o : Oper} {a : Act} {Q : Exit → Act → World → Prop} (w : World) (hg : o.guard = none) (m x : Operand) (hop : o.op = Op.call { callee := Callee.builtin Builtin.delete, args := #[m, x], argTypes := #[86, 22] })
    (b z : Nat) (hm : a.eval m = .map (some b)) (h : MapP w b z) (key : Int) (hk : U64 key) (hx : a.eval x = .int .u64 key)
    (hK : ∀ w', MapP w' b z → w.mapTurned w' b → wpList Tryz.prog ops Q rest (a.put o.dst (.tuple #[])) w') : wpList Tryz.prog ops Q (o :: rest) a w := by
  obtain ⟨D, hown⟩ := h
  exact wpList_delete_own w hg m x _ _ hop 107 (Maps.int_keyed Tryz.underlying22) Tryz.underlying86 pairElem b z D hm hown _ _ hx (keyU hk) (fun w' h1 h2 => hK w' ⟨_, h1⟩ h2)

/-- a vote counted, in a plain statement; HasV: who is among them -/
def HasV (w : World) (b z : Nat) (x : Int) : Prop := ∃ D, w.ownsMap (H := Unit) Tryz.prog 22 unitElem b z D ∧ Maps.has D (.int .u64 x) = true

theorem wp_setV {ops : Array Oper} {rest : List Oper} {o : Oper} {a : Act} {Q : Exit → Act → World → Prop} (w : World) (hg : o.guard = none) (m x y : Operand) (hop : o.op = Op.mapUpdate 85 m x y)
    (b z : Nat) (hm : a.eval m = .map (some b)) (h : MapU w b z) (hz : z ≤ 1000000) (key : Int) (hk : U64 key) (hx : a.eval x = .int .u64 key) (hy : a.eval y = .agg #[])
    (hK : ∀ w', HasV w' b (z + 1) key → w.mapTurned w' b → wpList Tryz.prog ops Q rest (a.put o.dst undef) w') : wpList Tryz.prog ops Q (o :: rest) a w := by
  refine wpList_plain hg fun K' hK' => ?_
  obtain ⟨D, hown⟩ := h
  obtain ⟨w', hrun, r1, r2⟩ := hown.store (Maps.int_keyed Tryz.underlying22) Tryz.underlying85 (by unfold maxLen; omega) (keyU hk) (unitElem_mk (H := Unit))
  unfold Oper.wp
  simp [execOp, hop, hm, hx, hy, hrun, Result.andThen]
  exact hK' _ _ (hK w' ⟨_, r1, Maps.has_put_same (k := .int .u64 key) hown.isMap trivial _⟩ r2)

theorem wp_lookV {ops : Array Oper} {rest : List Oper} {o : Oper} {a : Act} {Q : Exit → Act → World → Prop} (w : World) (hg : o.guard = none) (m x : Operand) (hop : o.op = Op.lookup 85 m x true)
    (b z : Nat) (hm : a.eval m = .map (some b)) (key : Int) (hk : U64 key) (hx : a.eval x = .int .u64 key) (y : Int) (h : HasV w b z y)
    (hK : ∀ is : Bool, (key = y → is = true) → wpList Tryz.prog ops Q rest (a.put o.dst (.tuple #[.agg #[], .bool is])) w) : wpList Tryz.prog ops Q (o :: rest) a w := by
  obtain ⟨D, hown, hhas⟩ := h
  exact wpList_lookup_own_unit w hg m x _ hop 22 148 (Maps.int_keyed Tryz.underlying22) Tryz.underlying85 (zeroE w) b z D hm hown _ _ hx (keyU hk) (hK _ (fun e => by rw [e]; exact hhas))

theorem hasV_mapU {w : World} {b z : Nat} {x : Int} (h : HasV w b z x) : MapU w b z := by
  obtain ⟨D, h, _⟩ := h
  exact ⟨D, h⟩

theorem hasV_same {w w' : World} {b z : Nat} {x : Int} (h : HasV w b z x) (e : w'.heap[b]? = w.heap[b]?) : HasV w' b z x := by
  obtain ⟨D, ⟨es, clock, hb, F, hs, hD⟩, hh⟩ := h
  exact ⟨D, ⟨es, clock, e.trans hb, F, hs, hD⟩, hh⟩

/-- the node behind a change of its members' places -/
theorem IsN.turnG {X : Nat → Prop} {w w' : World} {base p z z' : Nat} {N : Nd} {q b : Nat} {va : Option Nat} {out : Value} (h : IsN X w base p z N q va (some b) out) (hm : MapP w' b z') (ht : w.mapTurned w' b) (hz : z ≤ z') : IsN X w' base p z' N q va (some b) out ∧ Keeps X w w' := by
  have hg := ht.grown
  have hX := (h.gm b rfl).1
  obtain ⟨n1, n2, n3⟩ := h.gne (b := b) rfl
  have e : ∀ k, k < w.heap.size → k ≠ b → w'.heap[k]? = w.heap[k]? := fun k hk hn => hg.block k hk (fun e => hn (by cases e; rfl))
  have hk : Keeps (fun k => k = b) w w' := ⟨hg.os, hg.tape, hg.output, hg.size, fun k hk hn => e k hk hn⟩
  have hp := h.at.2
  have eq := e q h.log.at (fun e => n2 (e ▸ SB.at))
  refine ⟨⟨fun i hi => (World.cell?_of_block (a := ⟨p, i, none⟩) (e p hp n1.symm)).trans (h.cell i hi), fun i => (World.frozen?_of_block (a := ⟨p, i, none⟩) (e p hp n1.symm)).trans (h.fz i), h.xp, fun k hk => ⟨(h.rng k hk).1, Nat.lt_of_lt_of_le (h.rng k hk).2 hg.size⟩, h.log.lies hk (fun k e => e ▸ hX) (fun k hs e => n2 (e ▸ hs)), fun hs => h.off (hs.same eq), h.hv, h.hg, ?_, ?_, h.ne, ?_, ?_⟩, hk.weaken (fun k e => e ▸ hX)⟩
  · intro c hc
    have := h.vm c hc
    exact ⟨this.1, mapU_mono (mapU_same this.2 (e c (mapU_lt this.2) (fun e => h.ne c hc (by rw [e])))) hz⟩
  · intro c hc
    cases hc
    exact ⟨hX, hm⟩
  · exact outR_mono (outR_same h.om (fun g hg => e g ((h.rng g (h.ox g hg).1).2) (n3 g hg))) hz
  · intro k hk
    have := h.ox k hk
    exact ⟨this.1, this.2.1, fun hs => this.2.2 (hs.same eq)⟩

theorem IsN.turnV {X : Nat → Prop} {w w' : World} {base p z z' : Nat} {N : Nd} {q b : Nat} {ga : Option Nat} {out : Value} (h : IsN X w base p z N q (some b) ga out) (hm : MapU w' b z') (ht : w.mapTurned w' b) (hz : z ≤ z') : IsN X w' base p z' N q (some b) ga out ∧ Keeps X w w' := by
  have hg := ht.grown
  have hX := (h.vm b rfl).1
  obtain ⟨n1, n2, n3⟩ := h.vne (b := b) rfl
  have e : ∀ k, k < w.heap.size → k ≠ b → w'.heap[k]? = w.heap[k]? := fun k hk hn => hg.block k hk (fun e => hn (by cases e; rfl))
  have hk : Keeps (fun k => k = b) w w' := ⟨hg.os, hg.tape, hg.output, hg.size, fun k hk hn => e k hk hn⟩
  have hp := h.at.2
  have eq := e q h.log.at (fun e => n2 (e ▸ SB.at))
  refine ⟨⟨fun i hi => (World.cell?_of_block (a := ⟨p, i, none⟩) (e p hp n1.symm)).trans (h.cell i hi), fun i => (World.frozen?_of_block (a := ⟨p, i, none⟩) (e p hp n1.symm)).trans (h.fz i), h.xp, fun k hk => ⟨(h.rng k hk).1, Nat.lt_of_lt_of_le (h.rng k hk).2 hg.size⟩, h.log.lies hk (fun k e => e ▸ hX) (fun k hs e => n2 (e ▸ hs)), fun hs => h.off (hs.same eq), h.hv, h.hg, ?_, ?_, h.ne, ?_, ?_⟩, hk.weaken (fun k e => e ▸ hX)⟩
  · intro c hc
    cases hc
    exact ⟨hX, hm⟩
  · intro c hc
    have := h.gm c hc
    exact ⟨this.1, mapP_mono (mapP_same this.2 (e c (mapP_lt this.2) (fun e => h.ne b rfl (by rw [hc, e])))) hz⟩
  · exact outR_mono (outR_same h.om (fun g hg => e g ((h.rng g (h.ox g hg).1).2) (n3 g hg))) hz
  · intro k hk
    have := h.ox k hk
    exact ⟨this.1, this.2.1, fun hs => this.2.2 (hs.same eq)⟩

end Go.Proofs.YtodmieehdleohaaGreat
