/- Entries: copyEntries, cut, SameEntries, Small; what a law is handed of them. -/
import Derived.Test.YtodmieehdleohaaEnts
import Derived.Deep.RegionHeld
import Derived.Deep.RegionHeld3
namespace Go.Proofs.Ytodmieehdleohaa
open Go.RowKit NumMath Go.ChangeShapes Go.WideShapes Go.Deep
set_option linter.unusedVariables false
set_option maxRecDepth 100000

theorem RowM.row {w : World} {base : Nat} {a : Option Addr} {n c : Nat} {ms : List MEnt} (h : RowM w base (.slice a n c) ms) (h0 : 0 < n) : ∃ g, a = some ⟨g, 0, none⟩ ∧ base ≤ g ∧ g < w.heap.size ∧ (∀ k, k < n → CellM w g (k * 4) (ms.getD k ment0)) ∧ ∀ i, w.frozen? ⟨g, i, none⟩ = false := by
  rcases h.form with ⟨e, rfl⟩ | ⟨g, cap, e, hg1, hg2, hc, hm, hB, hf⟩
  · cases e; omega
  · cases e
    refine ⟨g, rfl, hg1, hg2, fun k hk => ?_, hf⟩
    have := hB k hk
    rw [Nat.zero_add] at this
    exact this

def MEnt.with (m : MEnt) (b : Option Addr) (n c : Nat) : MEnt := ⟨m.e, b, n, c⟩

theorem cellsM_set : ∀ (ms : List MEnt) (k : Nat) (b : Option Addr) (n c : Nat), k < ms.length → (cellsM ms).set (k * 4 + 3) (.slice b n c) = cellsM (ms.set k ((ms.getD k ment0).with b n c)) := by
  intro ms
  induction ms with
  | nil => intro k b n c hk; simp at hk
  | cons v r ih =>
    intro k b n c hk
    have e : cellsM (v :: r) = v.cells ++ cellsM r := rfl
    rw [e]
    cases k with
    | zero =>
      have e2 : cellsM ((v :: r).set 0 (((v :: r).getD 0 ment0).with b n c)) = (v.with b n c).cells ++ cellsM r := rfl
      rw [e2]
      rfl
    | succ j =>
      have e2 : cellsM ((v :: r).set (j + 1) (((v :: r).getD (j + 1) ment0).with b n c)) = v.cells ++ cellsM (r.set j ((r.getD j ment0).with b n c)) := by simp [cellsM]
      rw [e2, ← ih j b n c (by simpa using hk)]
      rw [List.set_append_right _ _ (by simp [MEnt.cells]; omega)]
      congr 2
      simp [MEnt.cells]
      omega

/-- an entry's data, stored anew -/
theorem rowM_set {w : World} {base g n c : Nat} {ms : List MEnt} (h : RowM w base (.slice (some ⟨g, 0, none⟩) n c) ms) (k : Nat) (hk : k < n) (b : Option Addr) (m d : Nat) :
    RowM (w.setCell ⟨g, k * 4 + 3, none⟩ (.slice b m d)) base (.slice (some ⟨g, 0, none⟩) n c) (ms.set k ((ms.getD k ment0).with b m d)) := by
  have hl := h.len.1
  subst hl
  unfold RowM at *
  have hs := (World.ownsRow.stored h (k * 4 + 3) (.slice b m d)).1
  rw [List.length_set, ← cellsM_set ms k b m d hk]
  exact hs

theorem map_e_set (ms : List MEnt) (k : Nat) (hk : k < ms.length) (b : Option Addr) (n c : Nat) : (ms.set k ((ms.getD k ment0).with b n c)).map MEnt.e = ms.map MEnt.e := by
  apply List.ext_getElem?
  intro j
  rw [List.getElem?_map, List.getElem?_map, List.getElem?_set]
  by_cases h : k = j
  · subst h
    simp [hk, MEnt.with, List.getD]
  · simp [h]

theorem getD_set_ne (ms : List MEnt) (k j : Nat) (x : MEnt) (h : k ≠ j) : (ms.set k x).getD j ment0 = ms.getD j ment0 := by
  simp [List.getD, h]

theorem getD_set_eq (ms : List MEnt) (k : Nat) (x : MEnt) (h : k < ms.length) : (ms.set k x).getD k ment0 = x := by
  simp [List.getD, h]

theorem all_of_getD {P : MEnt → Prop} (ms : List MEnt) (h : ∀ k, k < ms.length → P (ms.getD k ment0)) : ∀ m ∈ ms, P m := by
  intro m hm
  obtain ⟨i, hi, rfl⟩ := List.getElem_of_mem hm
  have := h i hi
  simpa [List.getD, List.getElem?_eq_getElem hi] using this

theorem slice_of_own {w : World} {base : Nat} {v : Value} {bs : List Int} (h : OwnB w base v bs) (hr : ∀ c ∈ bs, 0 ≤ c ∧ c < 256) : ∃ a n c, v = .slice a n c ∧ IsBytes w a n c bs ∧ ∀ y, a = some y → base ≤ y.block := by
  rcases h.form with ⟨rfl, rfl⟩ | ⟨g, cap, rfl, hg1, hg2, hc, hm, hB⟩
  · exact ⟨none, 0, 0, rfl, ⟨rfl, Nat.le_refl _, by unfold maxLen; omega, hr, .inl rfl⟩, by intro y hy; cases hy⟩
  · exact ⟨_, _, cap, rfl, ⟨rfl, hc, hm, hr, .inr ⟨g, 0, rfl, hg2, fun i hi => by rw [Nat.zero_add]; exact hB i hi⟩⟩, by intro y hy; cases hy; exact hg1⟩

theorem keeps_cell {g i : Nat} {w : World} (v : Value) : Keeps (fun k => k = g) w (w.setCell ⟨g, i, none⟩ v) :=
  ⟨rfl, rfl, rfl, by simp [World.setCell], fun k hk hn => Below.heap_setCell _ _ _ _ hn⟩

set_option maxHeartbeats 2000000 in
/-- two lists that are alike -/
theorem sameE_any (X Y : Nat → Prop) (a b : Option Addr) (n c c' : Nat) (xs ys : List MEnt) (w : World) (h1 : IsMs X w a n c xs) (h2 : IsMs Y w b n c' ys) (he : xs.map MEnt.e = ys.map MEnt.e) :
    Calls Try.prog 27 #[.slice a n c, .slice b n c'] w fun e w' => e = .returned (.bool true) ∧ Below w.heap.size w w' := by
  have H1 := hide h1
  have H2 := hide h2
  have HE := hide he
  have hl := h1.1
  have hl2 := h2.1
  have hm : (n : Int) ≤ 9223372036854775807 := by have := h1.2.1; have := h1.2.2.1; unfold maxLen at this; omega
  clear h1 h2 he
  go_enter Try.func27, Try.ntmps27
  go_wp2
  go_loopw [13] (fun i wr => ∃ k : Nat, k ≤ n ∧ i = .int .i64 k ∧ Below w.heap.size w wr) (fun i _ => n - (intOf i).toNat)
  case atStart => exact ⟨0, Nat.zero_le _, rfl, Below.refl _ _⟩
  case round =>
    obtain ⟨k, hk, rfl, hb⟩ := hrel
    by_cases hlt : k < n
    · obtain ⟨g, off, rfl, hg, hA⟩ := H1.out.at hlt
      obtain ⟨g', off', rfl, hg', hA'⟩ := H2.out.at hlt
      have e1 := (hA k (by omega)).same (hb.block g hg)
      have e2 := (hA' k (by omega)).same (hb.block g' hg')
      have o1 := (H1.out.2.2.2.1 _ (ment_mem xs k (by omega))).2.1.keep hb
      have o2 := (H2.out.2.2.2.1 _ (ment_mem ys k (by omega))).2.1.keep hb
      have ee : (xs.getD k ment0).e = (ys.getD k ment0).e := by
        have h3 := congrArg (fun l => l[k]?) HE.out
        simp only [List.getElem?_map] at h3
        rw [List.getElem?_eq_getElem (show k < xs.length by omega), List.getElem?_eq_getElem (show k < ys.length by omega)] at h3
        simpa [List.getD, List.getElem?_eq_getElem (show k < xs.length by omega), List.getElem?_eq_getElem (show k < ys.length by omega)] using h3
      generalize xs.getD k ment0 = x at *
      generalize ys.getD k ment0 = y at *
      obtain ⟨xe, xb, xn, xc⟩ := x
      obtain ⟨ye, yb, yn, yc⟩ := y
      dsimp only at ee
      subst ee
      obtain ⟨xi, xt, xk, xd⟩ := xe
      obtain ⟨p0, p1, p2, p3⟩ := e1
      obtain ⟨q0, q1, q2, q3⟩ := e2
      dsimp only at p0 p1 p2 p3 q0 q1 q2 q3 o1 o2
      have k1 := (o1.keep (Below.refl _ wr).drew).conv
      have k2 := (o2.keep (Below.refl _ wr).drew).conv
      clear hA hA' o1 o2 H1 H2 HE
      go_wp2
      go_region_held3 (fun w' => w'.cell? ⟨g, off + k * 4, none⟩ = some (.int .u64 xi) ∧ w'.cell? ⟨g, off + k * 4 + 1, none⟩ = some (.int .u64 xt) ∧ w'.cell? ⟨g, off + k * 4 + 2, none⟩ = some (.int .i64 xk) ∧ w'.cell? ⟨g, off + k * 4 + 3, none⟩ = some (.slice xb xn xc) ∧ w'.cell? ⟨g', off' + k * 4, none⟩ = some (.int .u64 xi) ∧ w'.cell? ⟨g', off' + k * 4 + 1, none⟩ = some (.int .u64 xt) ∧ w'.cell? ⟨g', off' + k * 4 + 2, none⟩ = some (.int .i64 xk) ∧ w'.cell? ⟨g', off' + k * 4 + 3, none⟩ = some (.slice yb yn yc) ∧ (convert 35 9 (.slice xb xn xc)).run Try.prog w' = .ok (.string (strB xd)) w' ∧ (convert 35 9 (.slice yb yn yc)).run Try.prog w' = .ok (.string (strB xd)) w') (first | exact ⟨p0, p1, p2, p3, q0, q1, q2, q3, k1, k2⟩ | go_keep) (fail)
      all_goals
        go_wp2
        go_roundw
        case rel => exact ⟨k + 1, by omega, by go_num, hb.drew⟩
        case measure => simp [intOf]; omega
    · have hkn : k = n := by omega
      subst hkn
      go_wp2
      go_ret
      exact ⟨rfl, hb⟩

end Go.Proofs.Ytodmieehdleohaa
