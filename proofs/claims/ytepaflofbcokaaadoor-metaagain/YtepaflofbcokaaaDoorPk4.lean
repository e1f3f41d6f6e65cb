/- Lists of locks looked through by a closure: slices.IndexFunc, ContainsFunc, DeleteFunc; without. -/
import Derived.Test.YtepaflofbcokaaaDoorPk3
import Derived.Test.YtepaflofbcokaaaDoorRwY
namespace Go.Proofs.YtepaflofbcokaaaDoor
open Go.RowKit NumMath Go.ChangeShapes Go.WideShapes Go.Deep
set_option linter.unusedVariables false
set_option maxRecDepth 100000

/-- what IndexFunc answers: the first for which p -/
def IdxPost (p : ML → Bool) (hs : List ML) (n : Nat) (e : Ending) : Prop :=
  (e = .returned (.int .i64 (-1)) ∧ hs.all (fun m => !p m) = true) ∨
  ∃ k : Nat, k < n ∧ e = .returned (.int .i64 k) ∧ (hs.take k).all (fun m => !p m) = true ∧ ∃ m, hs[k]? = some m ∧ p m = true

theorem all_moreK {p : ML → Bool} {hs : List ML} {k : Nat} {m : ML} (h : hs[k]? = some m) : (hs.take (k + 1)).all p = ((hs.take k).all p && p m) := by
  rw [List.take_add_one, h, List.all_append]
  simp

/-- a lock's five cells in a list -/
theorem at5_list {w : World} {g off k : Nat} {hs : List ML} {m : ML} (hC : CellsY layK w g off hs) (hm : hs[k]? = some m) : w.cell? ⟨g, off + k * 5, none⟩ = some (.int .u64 m.l.tx) ∧ w.cell? ⟨g, off + k * 5 + 1, none⟩ = some (.int .i64 m.l.lv) ∧ w.cell? ⟨g, off + k * 5 + 2, none⟩ = some (.int .i64 m.l.md) ∧ w.cell? ⟨g, off + k * 5 + 3, none⟩ = some (.slice m.la m.ln m.lc) ∧ w.cell? ⟨g, off + k * 5 + 4, none⟩ = some (.slice m.ha m.hn m.hc) :=
  ⟨hC k m hm 0 _ rfl, hC k m hm 1 _ rfl, hC k m hm 2 _ rfl, hC k m hm 3 _ rfl, hC k m hm 4 _ rfl⟩

set_option maxHeartbeats 2000000 in
theorem indexC_any (a : Option Addr) (n c : Nat) (hs : List ML) (p : ML → Bool) (B : Nat) (w : World) (h : IsY layK w a n c hs) (hcl : ∀ W, Below w.heap.size w W → ∀ m ∈ hs, Calls Tryd.prog 76 #[.agg #[.int .u64 m.l.tx, .int .i64 m.l.lv, .int .i64 m.l.md, .slice m.la m.ln m.lc, .slice m.ha m.hn m.hc], .pointer (some ⟨B, 0, none⟩)] W fun e w' => e = .returned (.bool (p m)) ∧ Below W.heap.size W w') :
    Calls Tryd.prog 85 #[.slice a n c, .func (.func 76) #[] #[.pointer (some ⟨B, 0, none⟩)]] w fun e w' => IdxPost p hs n e ∧ Below w.heap.size w w' := by
  have H := hide h
  have HCl := hide hcl
  have hm : (n : Int) ≤ 9223372036854775807 := by have := h.2.1; have := h.2.2.1; unfold maxLen at this; omega
  have HL := hide h.1
  clear h hcl
  go_enter Tryd.func85, Tryd.ntmps85
  go_wp2
  go_loopg [8] n (fun gk i wr => ∃ k : Nat, gk = n - k ∧ i = .int .i64 k ∧ k ≤ n ∧ (hs.take k).all (fun m => !p m) = true ∧ Below w.heap.size w wr)
  case atStart => exact ⟨0, rfl, rfl, Nat.zero_le _, rfl, Below.refl _ _⟩
  case round =>
    obtain ⟨k, rfl, rfl, hk, hA, hB⟩ := hrel
    have HB := hide hB
    have HA := hide hA
    clear hA
    by_cases hlt : k < n
    · have hlt' : (k : Int) < (n : Int) := by omega
      obtain ⟨m, hmk⟩ := ml_at (hs := hs) (k := k) (by have := HL.out; omega)
      obtain ⟨g, off, rfl, hg, hC⟩ := H.out.at hlt
      obtain ⟨d0, d1, d2, d3, d4⟩ := at5_list (hC.same (hB.block g hg)) hmk
      have HC := hide (HCl.out wr hB m (List.mem_of_getElem? hmk))
      have HMk := hide hmk
      have HMo := hide (all_moreK (p := fun m => !p m) hmk)
      obtain ⟨z, hz⟩ : ∃ z, p m = z := ⟨_, rfl⟩
      rw [hz] at HC HMo
      rw [HA.out] at HMo
      have HZ := hide hz
      clear hC hmk hB hz
      cases z with
      | true =>
        go_wp2_with (first
          | (go_at_call 76; go_must (refine HC.out.mono ?_); rintro e w2 ⟨rfl, hb2⟩; have HB2 := hide hb2; clear hb2))
        go_ret
        exact ⟨.inr ⟨k, hlt, rfl, HA.out, m, HMk.out, HZ.out⟩, HB.out.trans (HB2.out.mono HB.out.size)⟩
      | false =>
        go_wp2_with (first
          | (go_at_call 76; go_must (refine HC.out.mono ?_); rintro e w2 ⟨rfl, hb2⟩; have HB2 := hide hb2; clear hb2))
        go_roundg (n - (k + 1))
        case measure => omega
        case rel => exact ⟨k + 1, rfl, by go_num, by omega, by rw [HMo.out]; rfl, HB.out.trans (HB2.out.mono HB.out.size)⟩
    · obtain rfl : k = n := by omega
      have ek : hs.take k = hs := List.take_of_length_le (by have := HL.out; omega)
      rw [ek] at HA
      clear hB
      go_wp2
      go_ret
      exact ⟨.inl ⟨rfl, HA.out⟩, HB.out⟩

set_option maxHeartbeats 2000000 in
theorem indexW_any (a : Option Addr) (n c : Nat) (hs : List ML) (p : ML → Bool) (B : Nat) (w : World) (h : IsY layK w a n c hs) (hcl : ∀ W, Below w.heap.size w W → ∀ m ∈ hs, Calls Tryd.prog 65 #[.agg #[.int .u64 m.l.tx, .int .i64 m.l.lv, .int .i64 m.l.md, .slice m.la m.ln m.lc, .slice m.ha m.hn m.hc], .pointer (some ⟨B, 0, none⟩)] W fun e w' => e = .returned (.bool (p m)) ∧ Below W.heap.size W w') :
    Calls Tryd.prog 85 #[.slice a n c, .func (.func 65) #[] #[.pointer (some ⟨B, 0, none⟩)]] w fun e w' => IdxPost p hs n e ∧ Below w.heap.size w w' := by
  have H := hide h
  have HCl := hide hcl
  have hm : (n : Int) ≤ 9223372036854775807 := by have := h.2.1; have := h.2.2.1; unfold maxLen at this; omega
  have HL := hide h.1
  clear h hcl
  go_enter Tryd.func85, Tryd.ntmps85
  go_wp2
  go_loopg [8] n (fun gk i wr => ∃ k : Nat, gk = n - k ∧ i = .int .i64 k ∧ k ≤ n ∧ (hs.take k).all (fun m => !p m) = true ∧ Below w.heap.size w wr)
  case atStart => exact ⟨0, rfl, rfl, Nat.zero_le _, rfl, Below.refl _ _⟩
  case round =>
    obtain ⟨k, rfl, rfl, hk, hA, hB⟩ := hrel
    have HB := hide hB
    have HA := hide hA
    clear hA
    by_cases hlt : k < n
    · have hlt' : (k : Int) < (n : Int) := by omega
      obtain ⟨m, hmk⟩ := ml_at (hs := hs) (k := k) (by have := HL.out; omega)
      obtain ⟨g, off, rfl, hg, hC⟩ := H.out.at hlt
      obtain ⟨d0, d1, d2, d3, d4⟩ := at5_list (hC.same (hB.block g hg)) hmk
      have HC := hide (HCl.out wr hB m (List.mem_of_getElem? hmk))
      have HMk := hide hmk
      have HMo := hide (all_moreK (p := fun m => !p m) hmk)
      obtain ⟨z, hz⟩ : ∃ z, p m = z := ⟨_, rfl⟩
      rw [hz] at HC HMo
      rw [HA.out] at HMo
      have HZ := hide hz
      clear hC hmk hB hz
      cases z with
      | true =>
        go_wp2_with (first
          | (go_at_call 65; go_must (refine HC.out.mono ?_); rintro e w2 ⟨rfl, hb2⟩; have HB2 := hide hb2; clear hb2))
        go_ret
        exact ⟨.inr ⟨k, hlt, rfl, HA.out, m, HMk.out, HZ.out⟩, HB.out.trans (HB2.out.mono HB.out.size)⟩
      | false =>
        go_wp2_with (first
          | (go_at_call 65; go_must (refine HC.out.mono ?_); rintro e w2 ⟨rfl, hb2⟩; have HB2 := hide hb2; clear hb2))
        go_roundg (n - (k + 1))
        case measure => omega
        case rel => exact ⟨k + 1, rfl, by go_num, by omega, by rw [HMo.out]; rfl, HB.out.trans (HB2.out.mono HB.out.size)⟩
    · obtain rfl : k = n := by omega
      have ek : hs.take k = hs := List.take_of_length_le (by have := HL.out; omega)
      rw [ek] at HA
      clear hB
      go_wp2
      go_ret
      exact ⟨.inl ⟨rfl, HA.out⟩, HB.out⟩

theorem idx_any {p : ML → Bool} {hs : List ML} {n : Nat} {e : Ending} (h : IdxPost p hs n e) : ∃ i : Int, e = .returned (.int .i64 i) ∧ decide (0 ≤ i) = hs.any p := by
  rcases h with ⟨rfl, h⟩ | ⟨k, hk, rfl, -, m, hm, hp⟩
  · refine ⟨-1, rfl, ?_⟩
    have : hs.any p = false := by
      rw [List.any_eq_false]
      intro x hx
      have := List.all_eq_true.1 h x hx
      simpa using this
    rw [this]; rfl
  · refine ⟨k, rfl, ?_⟩
    rw [List.any_eq_true.2 ⟨m, List.mem_of_getElem? hm, hp⟩]
    simp

theorem containsC_any (a : Option Addr) (n c : Nat) (hs : List ML) (p : ML → Bool) (B : Nat) (w : World) (h : IsY layK w a n c hs) (hcl : ∀ W, Below w.heap.size w W → ∀ m ∈ hs, Calls Tryd.prog 76 #[.agg #[.int .u64 m.l.tx, .int .i64 m.l.lv, .int .i64 m.l.md, .slice m.la m.ln m.lc, .slice m.ha m.hn m.hc], .pointer (some ⟨B, 0, none⟩)] W fun e w' => e = .returned (.bool (p m)) ∧ Below W.heap.size W w') :
    Calls Tryd.prog 75 #[.slice a n c, .func (.func 76) #[] #[.pointer (some ⟨B, 0, none⟩)]] w fun e w' => e = .returned (.bool (hs.any p)) ∧ Below w.heap.size w w' := by
  have HI := hide (indexC_any a n c hs p B w h hcl)
  clear h hcl
  go_enter Tryd.func75, Tryd.ntmps75
  go_wp2_with (first
    | (go_at_call 85; go_must (refine HI.out.mono ?_); rintro e w2 ⟨hi, hb⟩; obtain ⟨i, rfl, hi2⟩ := idx_any hi; have HX := hide hi2; have HB := hide hb; clear hi hi2 hb))
  go_ret
  exact ⟨by rw [← HX.out]; rfl, HB.out⟩

/-- the closure of covered: whether its lock is covered by x, which lies in box B -/
theorem coverC_any (m x : ML) (B : Nat) (w : World) (hm : m.ok w) (hx : x.ok w) (hB : At5 w B 0 x) (hl : B < w.heap.size) :
    Calls Tryd.prog 76 #[.agg #[.int .u64 m.l.tx, .int .i64 m.l.lv, .int .i64 m.l.md, .slice m.la m.ln m.lc, .slice m.ha m.hn m.hc], .pointer (some ⟨B, 0, none⟩)] w fun e w' => e = .returned (.bool (coversL m.l x.l)) ∧ Below w.heap.size w w' := by
  have hn := new_below w (.cells #[.int .u64 m.l.tx, .int .i64 m.l.lv, .int .i64 m.l.md, .slice m.la m.ln m.lc, .slice m.ha m.hn m.hc] 32)
  have HC := hide (pcovers_any m x _ (hm.keep hn) (hx.keep hn))
  obtain ⟨x0, x1, x2, x3, x4⟩ := (hB.same (hn.block _ hl)).zero
  have HN := hide hn
  clear hm hx hB hl hn
  go_enter Tryd.func76, Tryd.ntmps76
  go_wp2_with (first
    | (go_at_call 77; go_must (refine HC.out.mono ?_); rintro e w2 ⟨rfl, hb⟩; have HB := hide hb; clear hb))
  go_ret
  exact ⟨rfl, HN.out.trans (HB.out.mono HN.out.size)⟩

/-- the closure of without: whether its lock is tx's, which lies in box B -/
theorem withoutC_any (m : ML) (tx : Int) (B : Nat) (w : World) (hB : w.cell? ⟨B, 0, none⟩ = some (.int .u64 tx)) (hl : B < w.heap.size) :
    Calls Tryd.prog 65 #[.agg #[.int .u64 m.l.tx, .int .i64 m.l.lv, .int .i64 m.l.md, .slice m.la m.ln m.lc, .slice m.ha m.hn m.hc], .pointer (some ⟨B, 0, none⟩)] w fun e w' => e = .returned (.bool (m.l.tx == tx)) ∧ Below w.heap.size w w' := by
  have hn := new_below w (.cells #[.int .u64 m.l.tx, .int .i64 m.l.lv, .int .i64 m.l.md, .slice m.la m.ln m.lc, .slice m.ha m.hn m.hc] 32)
  have x0 := (hn.cell (p := ⟨B, 0, none⟩) hl).trans hB
  have HN := hide hn
  have hne : ¬ B = w.heap.size := by omega
  clear hB hn
  go_enter Tryd.func65, Tryd.ntmps65
  go_wp2
  go_ret
  exact ⟨rfl, HN.out⟩

/-- what DeleteFunc leaves: the list without tx's -/
def DelP (base : Nat) (w : World) (a : Option Addr) (n c : Nat) (xs : List ML) (tx : Int) (e : Ending) (w' : World) : Prop :=
  ∃ n', e = .returned (.slice a n' c) ∧ OwnY layK w' base (.slice a n' c) (xs.filter (fun m => m.l.tx != tx)) ∧ Keeps (fun k => (Value.slice a n c).ownBlock = some k) w w'

theorem filter_none {xs : List ML} {tx : Int} (h : xs.all (fun m => !(m.l.tx == tx)) = true) : xs.filter (fun m => m.l.tx != tx) = xs := by
  rw [List.filter_eq_self]
  intro m hm
  have := List.all_eq_true.1 h m hm
  simpa [bne] using this

theorem filter_moreM {xs : List ML} {tx : Int} {k : Nat} {m : ML} (h : xs[k]? = some m) : (xs.take (k + 1)).filter (fun m => m.l.tx != tx) = (xs.take k).filter (fun m => m.l.tx != tx) ++ (if m.l.tx = tx then [] else [m]) := by
  rw [filter_more _ h]
  by_cases e : m.l.tx = tx <;> simp [e]

set_option maxHeartbeats 4000000 in
theorem delK_any (base : Nat) (a : Option Addr) (n c : Nat) (xs : List ML) (tx : Int) (B : Nat) (w : World) (h : OwnY layK w base (.slice a n c) xs) (hB : w.cell? ⟨B, 0, none⟩ = some (.int .u64 tx)) (hl : B < w.heap.size) (hne : (Value.slice a n c).ownBlock ≠ some B) :
    Calls Tryd.prog 64 #[.slice a n c, .func (.func 65) #[] #[.pointer (some ⟨B, 0, none⟩)]] w fun e w' => DelP base w a n c xs tx e w' := by
  have HIx := hide (indexW_any a n c xs (fun m => m.l.tx == tx) B w h.is (fun W hW m _ => withoutC_any m tx B W ((hW.cell (p := ⟨B, 0, none⟩) hl).trans hB) (Nat.lt_of_lt_of_le hl hW.size)))
  have H := hide h
  have hlen := h.len
  have hcm : (c : Int) ≤ 9223372036854775807 := by have := hlen.2.2; unfold maxLen at this; omega
  have HLe := hide hlen.1
  have hnc := hlen.2.1
  have HCl := hide (fun W (hW : Keeps (fun k => (Value.slice a n c).ownBlock = some k) w W) (m : ML) => withoutC_any m tx B W ((hW.cell hl hne).trans hB) (Nat.lt_of_lt_of_le hl hW.size))
  clear h hB hl hne hlen
  go_enter Tryd.func64, Tryd.ntmps64
  go_wp2_with (first
    | (go_at_call 85; go_must (refine HIx.out.mono ?_); rintro e w2 ⟨⟨rfl, hno⟩ | ⟨k, hk, rfl, hpre, m, hmk, hpm⟩, hb⟩ <;> have HB2 := hide hb <;> clear hb))
  · go_ret
    exact ⟨n, rfl, by rw [filter_none hno]; exact H.out.keep HB2.out, Below.keeps HB2.out _⟩
  · have hk0 : ((k : Int) == -1) = false := by simp
    have HPre := hide hpre
    have HMk := hide hmk
    have HPm := hide hpm
    clear hpre hmk hpm
    rcases H.out.form with ⟨e, e0⟩ | ⟨g, cap, e, hg1, hg2, -, -, -, -⟩
    · exfalso
      rw [e0] at HLe
      have := HLe.out
      simp at this
      omega
    simp only [Value.slice.injEq] at e
    obtain ⟨rfl, -, rfl⟩ := e
    have HG : Hid (∀ k, (Value.slice (some ⟨g, 0, none⟩) n c).ownBlock = some k ↔ k = g) := fun k => by
      show some g = some k ↔ _
      constructor
      · intro e; exact (Option.some.inj e).symm
      · intro e; rw [e]
    go_wp2
    go_loopg [5, 6] (n - (k + 1)) (fun gk i j wr => ∃ (ki kj : Nat) (cur : List ML), gk = n - kj ∧ ki < kj ∧ kj ≤ n ∧ i = .int .i64 ki ∧ j = .int .i64 kj ∧ OwnY layK wr base (.slice (some ⟨g, 0, none⟩) n c) cur ∧ cur.take ki = (xs.take kj).filter (fun m => m.l.tx != tx) ∧ cur.drop kj = xs.drop kj ∧ Keeps (fun k => (Value.slice (some ⟨g, 0, none⟩) n c).ownBlock = some k) w wr)
    case atStart =>
      refine ⟨k, k + 1, xs, rfl, by omega, by omega, rfl, by go_num, H.out.keep HB2.out, ?_, rfl, Below.keeps HB2.out _⟩
      rw [filter_moreM HMk.out, filter_none HPre.out, if_pos (by simpa using HPm.out), List.append_nil]
    case round =>
      obtain ⟨ki, kj, cur, rfl, hij, hj, rfl, rfl, hO, hT, hD, hK⟩ := hrel
      have HO := hide hO
      have HT := hide hT
      have HD := hide hD
      have HK := hide hK
      have HLc := hide hO.len.1
      clear hT hD hK hk0
      by_cases hlt : kj < n
      · have hkj : (kj : Int) < (n : Int) := by omega
        have hki : (ki : Int) < (n : Int) := by omega
        obtain ⟨m, hmk⟩ := ml_at (hs := xs) (k := kj) (by have := HLe.out; omega)
        have hcj : cur[kj]? = some m := by
          have := congrArg (fun l => l[0]?) HD.out
          simpa [List.getElem?_drop] using this.trans (by simpa [List.getElem?_drop] using hmk)
        obtain ⟨g', cap', e', hgb, hgl, -, -, hC, hfz⟩ : ∃ g' cap', Value.slice (some ⟨g, 0, none⟩) n c = .slice (some ⟨g', 0, none⟩) cur.length cap' ∧ base ≤ g' ∧ g' < wr.heap.size ∧ cur.length ≤ cap' ∧ cap' ≤ maxLen ∧ CellsY layK wr g' 0 cur ∧ ∀ i, wr.frozen? ⟨g', i, none⟩ = false := by
          rcases hO.form with ⟨e, _⟩ | h
          · cases e
          · exact h
        simp only [Value.slice.injEq, Option.some.injEq, Addr.mk.injEq, and_true] at e'
        obtain ⟨rfl, -, rfl⟩ := e'
        obtain ⟨d0, d1, d2, d3, d4⟩ := at5_list hC hcj
        simp only [Nat.zero_add] at d0 d1 d2 d3 d4
        obtain ⟨y, hyi⟩ := ml_at (hs := cur) (k := ki) (by have := HLc.out; omega)
        have HAt := hide (at5_list hC hyi)
        have HFz := hide hfz
        have hbN := new_below wr (.cells #[.int .u64 m.l.tx, .int .i64 m.l.lv, .int .i64 m.l.md, .slice m.la m.ln m.lc, .slice m.ha m.hn m.hc] 32)
        have HCa := hide (HCl.out _ (kpBelow HK.out hbN) m)
        have HBN := hide hbN
        have HFm := hide (filter_moreM (tx := tx) hmk)
        have HMk2 := hide hmk
        have hgw : ¬ g = wr.heap.size := by omega
        have hgw2 : ¬ wr.heap.size = g := by omega
        have HGl := hide hgl
        clear hC hcj hmk hO hfz hyi hbN hgl
        by_cases hx : m.l.tx = tx
        · have hz : (m.l.tx == tx) = true := by simpa using hx
          rw [hz] at HCa
          rw [if_pos hx, List.append_nil] at HFm
          clear hx
          go_wp2_with (first
            | (go_at_call 65; go_must (refine HCa.out.mono ?_); rintro e w4 ⟨rfl, hb4⟩; have HB4 := hide hb4; clear hb4))
          go_roundg (n - (kj + 1))
          case measure => omega
          case rel =>
            have hbb := HBN.out.trans (HB4.out.mono (by simp))
            exact ⟨ki, kj + 1, cur, rfl, by omega, by omega, rfl, by go_num, HO.out.keep hbb, by rw [HFm.out]; exact HT.out, by have := congrArg (List.drop 1) HD.out; simpa [List.drop_drop, Nat.add_comm] using this, kpBelow HK.out hbb⟩
        · have hz : (m.l.tx == tx) = false := by simpa using hx
          rw [hz] at HCa
          rw [if_neg hx] at HFm
          clear hx
          go_wp2_with (first
            | (go_at_call 65; go_must (refine HCa.out.mono ?_); rintro e w4 ⟨rfl, hb4⟩; have HB4 := hide hb4; (have hbb := HBN.out.trans (hb4.mono (by simp))); have hbk := hbb.block g HGl.out; obtain ⟨c0, c1, c2, c3, c4⟩ := HAt.out; (simp only [Nat.zero_add] at c0 c1 c2 c3 c4); have f0 := (World.frozen?_of_block (a := ⟨g, ki * 5, none⟩) hbk).trans (HFz.out _); have f1 := (World.frozen?_of_block (a := ⟨g, ki * 5 + 1, none⟩) hbk).trans (HFz.out _); have f2 := (World.frozen?_of_block (a := ⟨g, ki * 5 + 2, none⟩) hbk).trans (HFz.out _); have f3 := (World.frozen?_of_block (a := ⟨g, ki * 5 + 3, none⟩) hbk).trans (HFz.out _); have f4 := (World.frozen?_of_block (a := ⟨g, ki * 5 + 4, none⟩) hbk).trans (HFz.out _); have b0 := (World.cell?_of_block (a := ⟨g, ki * 5, none⟩) hbk).trans c0; have b1 := (World.cell?_of_block (a := ⟨g, ki * 5 + 1, none⟩) hbk).trans c1; have b2 := (World.cell?_of_block (a := ⟨g, ki * 5 + 2, none⟩) hbk).trans c2; have b3 := (World.cell?_of_block (a := ⟨g, ki * 5 + 3, none⟩) hbk).trans c3; have b4 := (World.cell?_of_block (a := ⟨g, ki * 5 + 4, none⟩) hbk).trans c4; (obtain ⟨m0, m1, m2, m3, m4⟩ := ((at5_new wr m).same (hb4.block _ (by simp))).zero); (have HBB := hide hbb); clear hb4 hbb hbk c0 c1 c2 c3 c4))
          go_roundg (n - (kj + 1))
          case measure => omega
          case rel =>
            have hO4 := (HO.out.keep HBB.out).lay ki (by omega) m
            have hk4 := keepsYs w4 g (ki * 5) (layK.cells m)
            have hil : ki < cur.length := by have := HLc.out; omega
            refine ⟨ki + 1, kj + 1, cur.set ki m, rfl, by omega, by omega, by go_num, by go_num, hO4, ?_, ?_, kpThen (kpBelow HK.out HBB.out) (fun x hx => .inl ((HG.out x).2 hx)) hk4⟩
            · rw [HFm.out, ← HT.out, List.take_add_one, List.getElem?_set_self hil, List.take_set_of_le (Nat.le_refl _)]
              rfl
            · rw [List.drop_set_of_lt (by omega)]
              have := congrArg (List.drop 1) HD.out
              simpa [List.drop_drop, Nat.add_comm] using this
      · have hkj : kj = n := by omega
        subst hkj
        obtain ⟨C, hcl, hOc⟩ := hO.cleared ki (by omega) (by intro u hu; simp [layK, Value.cells] at hu; rcases hu with rfl | rfl | rfl | rfl | rfl <;> rfl)
        have hcl' : ∀ ty, (Builtin.clear_ #[53] ty #[.slice (some ⟨g, ki * 5, none⟩) (kj - ki) (c - ki)]).run Tryd.prog wr = .ok (.tuple #[]) (wr.setRow g C) := hcl
        have hfull : cur.take ki = xs.filter (fun m => m.l.tx != tx) := by rw [HT.out, List.take_of_length_le (by have := HLe.out; omega)]
        rw [hfull] at hOc
        have HOc := hide hOc
        have HKc := hide (kpThen HK.out (fun x hx => .inl ((HG.out x).2 hx)) (keeps_setRow (w := wr) (g := g) C))
        have g1 : ¬ c = ki := by omega
        have hkn : (ki : Int) ≤ (kj : Int) := by omega
        have hkn2 : (ki : Int) ≤ (c : Int) := by omega
        clear hO hcl hOc hfull
        go_wp2
        go_ret
        exact ⟨ki, rfl, HOc.out, HKc.out⟩

end Go.Proofs.YtepaflofbcokaaaDoor
