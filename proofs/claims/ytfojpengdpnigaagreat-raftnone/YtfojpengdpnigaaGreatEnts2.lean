/- Entries: copyEntries, cut, SameEntries, Small; what a law is handed of them. -/
import Derived.Test.YtfojpengdpnigaaGreatEnts
import Derived.Deep.RegionHeld
import Derived.Deep.RegionHeld3
namespace Go.Proofs.YtfojpengdpnigaaGreat
open Go.RowKit NumMath Go.ChangeShapes Go.WideShapes Go.Deep
set_option linter.unusedVariables false
set_option maxRecDepth 100000

theorem RowM.row {w : World} {base : Nat} {a : Option Addr} {n c : Nat} {ms : List MEnt} (h : RowM w base (.slice a n c) ms) (h0 : 0 < n) : ∃ g, a = some ⟨g, 0, none⟩ ∧ base ≤ g ∧ g < w.heap.size ∧ (∀ k, k < n → CellM w g (k * 4) (ms.getD k ment0)) ∧ ∀ i, w.frozen? ⟨g, i, none⟩ = false := by
  rcases h.form with ⟨e, rfl⟩ | ⟨g, cap, e, hg1, hg2, hc, hm, hB, hf⟩
  · cases e; omega
  · cases e
    refine ⟨g, rfl, hg1, hg2, fun k hk => ?_, hf⟩
    have := hB k hk
    rw [Nat.zero_add] at this
    exact this

def MEnt.with (m : MEnt) (b : Option Addr) (n c : Nat) : MEnt := ⟨m.e, b, n, c⟩

theorem cellsM_set : ∀ (ms : List MEnt) (k : Nat) (b : Option Addr) (n c : Nat), k < ms.length → (cellsM ms).set (k * 4 + 3) (.slice b n c) = cellsM (ms.set k ((ms.getD k ment0).with b n c)) := by
  intro ms
  induction ms with
  | nil => intro k b n c hk; simp at hk
  | cons v r ih =>
    intro k b n c hk
    have e : cellsM (v :: r) = v.cells ++ cellsM r := rfl
    rw [e]
    cases k with
    | zero =>
      have e2 : cellsM ((v :: r).set 0 (((v :: r).getD 0 ment0).with b n c)) = (v.with b n c).cells ++ cellsM r := rfl
      rw [e2]
      rfl
    | succ j =>
      have e2 : cellsM ((v :: r).set (j + 1) (((v :: r).getD (j + 1) ment0).with b n c)) = v.cells ++ cellsM (r.set j ((r.getD j ment0).with b n c)) := by simp [cellsM]
      rw [e2, ← ih j b n c (by simpa using hk)]
      rw [List.set_append_right _ _ (by simp [MEnt.cells]; omega)]
      congr 2
      simp [MEnt.cells]
      omega

/-- an entry's data, stored anew -/
theorem rowM_set {w : World} {base g n c : Nat} {ms : List MEnt} (h : RowM w base (.slice (some ⟨g, 0, none⟩) n c) ms) (k : Nat) (hk : k < n) (b : Option Addr) (m d : Nat) :
    RowM (w.setCell ⟨g, k * 4 + 3, none⟩ (.slice b m d)) base (.slice (some ⟨g, 0, none⟩) n c) (ms.set k ((ms.getD k ment0).with b m d)) := by
  have hl := h.len.1
  subst hl
  unfold RowM at *
  have hs := (World.ownsRow.stored h (k * 4 + 3) (.slice b m d)).1
  rw [List.length_set, ← cellsM_set ms k b m d hk]
  exact hs

theorem map_e_set (ms : List MEnt) (k : Nat) (hk : k < ms.length) (b : Option Addr) (n c : Nat) : (ms.set k ((ms.getD k ment0).with b n c)).map MEnt.e = ms.map MEnt.e := by
  apply List.ext_getElem?
  intro j
  rw [List.getElem?_map, List.getElem?_map, List.getElem?_set]
  by_cases h : k = j
  · subst h
    simp [hk, MEnt.with, List.getD]
  · simp [h]

theorem getD_set_ne (ms : List MEnt) (k j : Nat) (x : MEnt) (h : k ≠ j) : (ms.set k x).getD j ment0 = ms.getD j ment0 := by
  simp [List.getD, h]

theorem getD_set_eq (ms : List MEnt) (k : Nat) (x : MEnt) (h : k < ms.length) : (ms.set k x).getD k ment0 = x := by
  simp [List.getD, h]

theorem all_of_getD {P : MEnt → Prop} (ms : List MEnt) (h : ∀ k, k < ms.length → P (ms.getD k ment0)) : ∀ m ∈ ms, P m := by
  intro m hm
  obtain ⟨i, hi, rfl⟩ := List.getElem_of_mem hm
  have := h i hi
  simpa [List.getD, List.getElem?_eq_getElem hi] using this

theorem slice_of_own {w : World} {base : Nat} {v : Value} {bs : List Int} (h : OwnB w base v bs) (hr : ∀ c ∈ bs, 0 ≤ c ∧ c < 256) : ∃ a n c, v = .slice a n c ∧ IsBytes w a n c bs ∧ ∀ y, a = some y → base ≤ y.block := by
  rcases h.form with ⟨rfl, rfl⟩ | ⟨g, cap, rfl, hg1, hg2, hc, hm, hB⟩
  · exact ⟨none, 0, 0, rfl, ⟨rfl, Nat.le_refl _, by unfold maxLen; omega, hr, .inl rfl⟩, by intro y hy; cases hy⟩
  · exact ⟨_, _, cap, rfl, ⟨rfl, hc, hm, hr, .inr ⟨g, 0, rfl, hg2, fun i hi => by rw [Nat.zero_add]; exact hB i hi⟩⟩, by intro y hy; cases hy; exact hg1⟩

theorem keeps_cell {g i : Nat} {w : World} (v : Value) : Keeps (fun k => k = g) w (w.setCell ⟨g, i, none⟩ v) :=
  ⟨rfl, rfl, rfl, by simp [World.setCell], fun k hk hn => Below.heap_setCell _ _ _ _ hn⟩

set_option maxHeartbeats 1000000 in
theorem copyE_any (a : Option Addr) (len cap : Nat) (ms : List MEnt) (w : World) (h : IsMs (fun _ => False) w a len cap ms) (hbig : len ≤ 1000000) (hd : ∀ m ∈ ms, m.n ≤ 1000000) :
    Calls Tryz.prog 41 #[.slice a len cap] w fun e w' => ∃ b n c ms', e = .returned (.slice b n c) ∧ ms'.map MEnt.e = ms.map MEnt.e ∧ RowM w' w.heap.size (.slice b n c) ms' ∧ (∀ m ∈ ms', m.ok (fun k => k < w.heap.size ∨ (Value.slice b n c).ownBlock = some k) w') ∧ Below w.heap.size w w' := by
  have H := hide h
  have HD := hide hd
  have HS := hide h.src
  have HL := hide h.1
  clear h hd
  go_enter Tryz.func41, Tryz.ntmps41
  go_wp2_with (first
    | (go_at_call 82; go_must (refine (cloneM_any a len cap ms _ HS.out (by omega)).mono ?_); rintro e w1 ⟨v1, rfl, hrow1, hb1⟩; obtain ⟨a1, n1, c1, rfl⟩ := hrow1.any3; have HR1 := hide hrow1; clear hrow1))
  have hn1 : n1 = len := by rw [← HR1.out.len.1]; exact HL.out
  subst hn1
  have hm1 : (n1 : Int) ≤ 9223372036854775807 := by omega
  go_loopw [8] (fun i wr => ∃ (k : Nat) (cur : List MEnt), k ≤ n1 ∧ i = .int .i64 k ∧ cur.map MEnt.e = ms.map MEnt.e ∧ RowM wr w.heap.size (.slice a1 n1 c1) cur ∧ (∀ j, j < k → (cur.getD j ment0).ok (fun k => k < w.heap.size ∨ (Value.slice a1 n1 c1).ownBlock = some k) wr) ∧ (∀ j, k ≤ j → cur.getD j ment0 = ms.getD j ment0) ∧ Below w.heap.size w wr) (fun i _ => n1 - (intOf i).toNat)
  case atStart => exact ⟨0, ms, Nat.zero_le _, rfl, rfl, HR1.out, by intro j hj; omega, fun _ _ => rfl, hb1⟩
  case round =>
    obtain ⟨k, cur, hk, rfl, hE, hrow, hdone, hrest, hb⟩ := hrel
    have HE := hide hE
    have HR := hide hrow
    have HDn := hide hdone
    have HRs := hide hrest
    clear hE hrow hdone hrest
    by_cases hlt : k < n1
    · obtain ⟨g, hga, hg1, hg2, hcell, hfr⟩ := HR.out.row (by omega)
      subst hga
      obtain ⟨-, -, -, c3⟩ := hcell k hlt
      have hf3 := hfr (k * 4 + 3)
      have hkl : k < ms.length := by rw [HL.out]; exact hlt
      have hkc : k < cur.length := by rw [HR.out.len.1]; exact hlt
      have HKC := hide hkc
      rw [HRs.out k (Nat.le_refl _)] at c3
      have hmem := ment_mem ms k hkl
      have HOk := hide (H.out.2.2.2.1 _ hmem)
      have HSz := hide (HD.out _ hmem)
      have HG := hide (HRs.out k (Nat.le_refl _))
      clear hmem hcell hfr hkc
      generalize ms.getD k ment0 = m at *
      obtain ⟨me, mb, mn, mc⟩ := m
      dsimp only at c3
      have HB := hide (HOk.out.2.1.keep hb)
      go_wp2_with (first
        | (go_at_call 80; go_must (refine (clone_src mb mn mc me.d _ HB.out.src (by have := HSz.out; dsimp only at this; omega)).mono ?_); rintro e w3 ⟨v3, rfl, hown3, hb3⟩; obtain ⟨a3, n3, d3, rfl, hI3, hy3⟩ := slice_of_own hown3 HB.out.2.2.2.1; have c33 := (hb3.cell (p := ⟨g, k * 4 + 3, none⟩) hg2).trans c3; have hf33 := (hb3.frozen (p := ⟨g, k * 4 + 3, none⟩) hg2).trans hf3; have HI3 := hide hI3; have HY3 := hide hy3; have HR3 := hide (HR.out.keep hb3); clear hown3 hI3 hy3))
      go_roundw
      case rel =>
        have hsz3 := hb3.size
        have hgF : (Value.slice (some ⟨g, 0, none⟩) n1 c1).ownBlock = some g := rfl
        have hk0 := keeps_cell (w := w3) (g := g) (i := k * 4 + 3) (.slice a3 n3 d3)
        refine ⟨k + 1, cur.set k ((cur.getD k ment0).with a3 n3 d3), by omega, by go_num, (map_e_set cur k HKC.out a3 n3 d3).trans HE.out, rowM_set HR3.out k hlt a3 n3 d3, ?_, ?_, ?_⟩
        · intro j hj
          by_cases hjk : j = k
          · subst hjk
            rw [getD_set_eq _ _ _ HKC.out, HG.out]
            refine ⟨HOk.out.1, isB_liesX HI3.out hk0 (.inr (fun y hy e => ?_)), .inr (fun y hy e => ?_)⟩
            · have := HY3.out y hy; omega
            · have h5 := HY3.out y hy
              have h6 := hb.size
              rcases e with e | e
              · omega
              · rw [hgF] at e
                have := Option.some.inj e
                omega
          · rw [getD_set_ne _ _ _ _ (fun e => hjk e.symm)]
            exact ((HDn.out j (by omega)).keep hb3).lies hk0 (fun x hx => .inr (by rw [hgF, hx]))
        · intro j hj
          rw [getD_set_ne _ _ _ _ (by omega)]
          exact HRs.out j (by omega)
        · exact (hb.trans (hb3.mono hb.size)).setCell (p := ⟨g, k * 4 + 3, none⟩) hg1 _
      case measure => simp [intOf]; omega
    · have hkn : k = n1 := by omega
      subst hkn
      go_wp2
      go_ret
      exact ⟨a1, k, c1, cur, rfl, HE.out, HR.out, all_of_getD cur (fun j hj => HDn.out j (by rw [HR.out.len.1] at hj; exact hj)), hb⟩

/-- a list, cut: it has no room behind it -/
theorem cutE_any (X : Nat → Prop) (a : Option Addr) (len cap : Nat) (ms : List MEnt) (l m : Nat) (w : World) (h : IsMs X w a len cap ms) (hl : l ≤ m) (hm : m ≤ len) :
    Calls Tryz.prog 39 #[.slice a len cap, .int .i64 (l : Int), .int .i64 (m : Int)] w fun e w' => ∃ b, e = .returned (.slice b (m - l) (m - l)) ∧ IsMs X w b (m - l) (m - l) ((ms.drop l).take (m - l)) ∧ b = (if m = l then a else a.map (·.add (l * 4))) ∧ w' = w := by
  have hlc := h.2.1
  have hcut := run_cutM3 a len cap hlc l (m - l) (m - l) (Nat.le_refl _) (by omega) (l : Int) (m : Int) (m : Int) rfl (by omega) (by omega)
  have HI := hide (isM_later h l (m - l) (m - l) m (by omega) (Nat.le_refl _) (by omega) (by omega))
  rw [show l + (m - l) = m by omega] at hcut
  clear h hlc
  generalize (if m = l then a else a.map (·.add (l * 4))) = b at *
  generalize m - l = n at *
  go_enter Tryz.func39, Tryz.ntmps39
  go_wp2
  go_ret
  exact ⟨b, rfl, HI.out, rfl, rfl⟩

set_option maxHeartbeats 2000000 in
/-- two lists that are alike -/
theorem sameE_any (X Y : Nat → Prop) (a b : Option Addr) (n c c' : Nat) (xs ys : List MEnt) (w : World) (h1 : IsMs X w a n c xs) (h2 : IsMs Y w b n c' ys) (he : xs.map MEnt.e = ys.map MEnt.e) :
    Calls Tryz.prog 34 #[.slice a n c, .slice b n c'] w fun e w' => e = .returned (.bool true) ∧ Below w.heap.size w w' := by
  have H1 := hide h1
  have H2 := hide h2
  have HE := hide he
  have hl := h1.1
  have hl2 := h2.1
  have hm : (n : Int) ≤ 9223372036854775807 := by have := h1.2.1; have := h1.2.2.1; unfold maxLen at this; omega
  clear h1 h2 he
  go_enter Tryz.func34, Tryz.ntmps34
  go_wp2
  go_loopw [13] (fun i wr => ∃ k : Nat, k ≤ n ∧ i = .int .i64 k ∧ Below w.heap.size w wr) (fun i _ => n - (intOf i).toNat)
  case atStart => exact ⟨0, Nat.zero_le _, rfl, Below.refl _ _⟩
  case round =>
    obtain ⟨k, hk, rfl, hb⟩ := hrel
    by_cases hlt : k < n
    · obtain ⟨g, off, rfl, hg, hA⟩ := H1.out.at hlt
      obtain ⟨g', off', rfl, hg', hA'⟩ := H2.out.at hlt
      have e1 := (hA k (by omega)).same (hb.block g hg)
      have e2 := (hA' k (by omega)).same (hb.block g' hg')
      have o1 := (H1.out.2.2.2.1 _ (ment_mem xs k (by omega))).2.1.keep hb
      have o2 := (H2.out.2.2.2.1 _ (ment_mem ys k (by omega))).2.1.keep hb
      have ee : (xs.getD k ment0).e = (ys.getD k ment0).e := by
        have h3 := congrArg (fun l => l[k]?) HE.out
        simp only [List.getElem?_map] at h3
        rw [List.getElem?_eq_getElem (show k < xs.length by omega), List.getElem?_eq_getElem (show k < ys.length by omega)] at h3
        simpa [List.getD, List.getElem?_eq_getElem (show k < xs.length by omega), List.getElem?_eq_getElem (show k < ys.length by omega)] using h3
      generalize xs.getD k ment0 = x at *
      generalize ys.getD k ment0 = y at *
      obtain ⟨xe, xb, xn, xc⟩ := x
      obtain ⟨ye, yb, yn, yc⟩ := y
      dsimp only at ee
      subst ee
      obtain ⟨xi, xt, xk, xd⟩ := xe
      obtain ⟨p0, p1, p2, p3⟩ := e1
      obtain ⟨q0, q1, q2, q3⟩ := e2
      dsimp only at p0 p1 p2 p3 q0 q1 q2 q3 o1 o2
      have k1 := (o1.keep (Below.refl _ wr).drew).conv
      have k2 := (o2.keep (Below.refl _ wr).drew).conv
      clear hA hA' o1 o2 H1 H2 HE
      go_wp2
      go_region_held3 (fun w' => w'.cell? ⟨g, off + k * 4, none⟩ = some (.int .u64 xi) ∧ w'.cell? ⟨g, off + k * 4 + 1, none⟩ = some (.int .u64 xt) ∧ w'.cell? ⟨g, off + k * 4 + 2, none⟩ = some (.int .i64 xk) ∧ w'.cell? ⟨g, off + k * 4 + 3, none⟩ = some (.slice xb xn xc) ∧ w'.cell? ⟨g', off' + k * 4, none⟩ = some (.int .u64 xi) ∧ w'.cell? ⟨g', off' + k * 4 + 1, none⟩ = some (.int .u64 xt) ∧ w'.cell? ⟨g', off' + k * 4 + 2, none⟩ = some (.int .i64 xk) ∧ w'.cell? ⟨g', off' + k * 4 + 3, none⟩ = some (.slice yb yn yc) ∧ (convert 26 9 (.slice xb xn xc)).run Tryz.prog w' = .ok (.string (strB xd)) w' ∧ (convert 26 9 (.slice yb yn yc)).run Tryz.prog w' = .ok (.string (strB xd)) w') (first | exact ⟨p0, p1, p2, p3, q0, q1, q2, q3, k1, k2⟩ | go_keep) (fail)
      all_goals
        go_wp2
        go_roundw
        case rel => exact ⟨k + 1, by omega, by go_num, hb.drew⟩
        case measure => simp [intOf]; omega
    · have hkn : k = n := by omega
      subst hkn
      go_wp2
      go_ret
      exact ⟨rfl, hb⟩

end Go.Proofs.YtfojpengdpnigaaGreat
