/- What num.Of and the reference's Of answer of any bytes that lie in memory; the world stays as it was. -/
import Derived.Test.YtfihjhcjkgpgfaaNumKit
import Derived.Test.YtfihjhcjkgpgfaaNumOfMath
import Derived.Handy
namespace Go.Proofs.Ytfihjhcjkgpgfaa
open Go.RowKit NumMath
set_option linter.unusedVariables false

theorem nth_range (xs : List Int) (hr : ∀ c ∈ xs, 0 ≤ c ∧ c < 256) (k : Nat) : 0 ≤ xs.getD k 0 ∧ xs.getD k 0 < 256 := by
  rw [List.getD_eq_getElem?_getD]
  by_cases h : k < xs.length
  · rw [List.getElem?_eq_getElem h]; exact hr _ (List.getElem_mem h)
  · rw [List.getElem?_eq_none (by omega)]; exact ⟨by decide, by decide⟩

set_option maxHeartbeats 400000 in
theorem of_small (g off len cap : Nat) (xs : List Int) (w : World) (hl : xs.length = len) (hlc : len ≤ cap) (hm : cap ≤ maxLen) (h8 : len ≤ 8)
    (hc : ∀ i, i < len → w.cell? ⟨g, off + i, none⟩ = some (.int .u8 (xs.getD i 0))) (hr : ∀ c ∈ xs, 0 ≤ c ∧ c < 256) :
    Calls Try.prog 41 #[.slice (some ⟨g, off, none⟩) len cap] w fun e w' => e = .returned (.int .u64 (ofV xs)) ∧ w' = w := by
  unfold maxLen at hm
  have HL : Hid (xs.length = len) := hl
  clear hl
  go_enter Try.func41, Try.ntmps41
  go_wp2
  go_loop [4, 14] (fun u i => ∃ k : Nat, k ≤ len ∧ i = .int .i64 k ∧ u = .int .u64 (ofV (xs.take k))) (fun _ i => len - (intOf i).toNat)
  case atStart => exact ⟨0, Nat.zero_le _, rfl, rfl⟩
  case round =>
    obtain ⟨k, hk, rfl, rfl⟩ := hrel
    by_cases hlt : k < len
    · have hcell := hc k hlt
      have hb := nth_range xs hr k
      have HT : Hid (ofV (xs.take (k + 1)) = ofStep (ofV (xs.take k)) (xs.getD k 0)) := ofV_take xs k (by rw [HL.out]; exact hlt)
      have HO : Hid (bits .or .u64 (IntKind.u64.wrap (ofV (xs.take k) * 256)) (xs.getD k 0) = ofStep (ofV (xs.take k)) (xs.getD k 0)) := or_step _ _ hb.1 hb.2
      generalize xs.getD k 0 = c at *
      generalize ofV (xs.take k) = x at *
      obtain ⟨b1, b2⟩ := hb
      clear hr hc
      go_wp2
      go_round
      case rel => exact ⟨k + 1, by omega, by go_num, by rw [HT.out, ← HO.out]⟩
      case measure => simp [intOf]; omega
    · have hkl : k = len := by omega
      subst hkl
      clear hr hc
      go_wp2
      go_ret
      exact ⟨ret1 (by rw [List.take_of_length_le (by rw [HL.out]; exact Nat.le_refl _)]), rfl⟩

set_option maxHeartbeats 400000 in
theorem of_big (g off m cap : Nat) (xs : List Int) (w : World) (hl : xs.length = m + 8) (hm0 : 0 < m) (hlc : m + 8 ≤ cap) (hm : cap ≤ maxLen)
    (hc : ∀ i, i < m + 8 → w.cell? ⟨g, off + i, none⟩ = some (.int .u8 (xs.getD i 0))) (hr : ∀ c ∈ xs, 0 ≤ c ∧ c < 256) :
    Calls Try.prog 41 #[.slice (some ⟨g, off, none⟩) (m + 8) cap] w fun e w' => e = .returned (.int .u64 (ofV xs)) ∧ w' = w := by
  unfold maxLen at hm
  rw [ofV_last xs m hl]
  have hc' : ∀ i, i < 8 → w.cell? ⟨g, off + m + i, none⟩ = some (.int .u8 ((xs.drop m).getD i 0)) := by
    intro i hi
    rw [Nat.add_assoc, hc (m + i) (by omega)]
    simp [List.getD]
  have hr' : ∀ c ∈ xs.drop m, 0 ≤ c ∧ c < 256 := fun c h => hr c (List.mem_of_mem_drop h)
  have HL : Hid ((xs.drop m).length = 8) := by show _ = _; rw [List.length_drop, hl]; omega
  clear hl hc hr
  generalize xs.drop m = ys at *
  go_enter Try.func41, Try.ntmps41
  go_wp2
  go_loop [4, 14] (fun u i => ∃ k : Nat, k ≤ 8 ∧ i = .int .i64 k ∧ u = .int .u64 (ofV (ys.take k))) (fun _ i => 8 - (intOf i).toNat)
  case atStart => exact ⟨0, Nat.zero_le _, rfl, rfl⟩
  case round =>
    obtain ⟨k, hk, rfl, rfl⟩ := hrel
    by_cases hlt : k < 8
    · have hcell := hc' k hlt
      have hb := nth_range ys hr' k
      have HT : Hid (ofV (ys.take (k + 1)) = ofStep (ofV (ys.take k)) (ys.getD k 0)) := ofV_take ys k (by rw [HL.out]; exact hlt)
      have HO : Hid (bits .or .u64 (IntKind.u64.wrap (ofV (ys.take k) * 256)) (ys.getD k 0) = ofStep (ofV (ys.take k)) (ys.getD k 0)) := or_step _ _ hb.1 hb.2
      generalize ys.getD k 0 = c at *
      generalize ofV (ys.take k) = x at *
      obtain ⟨b1, b2⟩ := hb
      clear hr' hc'
      go_wp2
      go_round
      case rel => exact ⟨k + 1, by omega, by go_num, by rw [HT.out, ← HO.out]⟩
      case measure => simp [intOf]; omega
    · have hkl : k = 8 := by omega
      subst hkl
      clear hr' hc'
      go_wp2
      go_ret
      exact ⟨ret1 (by rw [List.take_of_length_le (by rw [HL.out]; exact Nat.le_refl _)]), rfl⟩

set_option maxHeartbeats 400000 in
theorem rof_row (g off len cap : Nat) (xs : List Int) (w : World) (hl : xs.length = len) (hlc : len ≤ cap) (hm : cap ≤ maxLen) 
    (hc : ∀ i, i < len → w.cell? ⟨g, off + i, none⟩ = some (.int .u8 (xs.getD i 0))) (hr : ∀ c ∈ xs, 0 ≤ c ∧ c < 256) :
    Calls Try.prog 28 #[.slice (some ⟨g, off, none⟩) len cap] w fun e w' => e = .returned (.int .u64 (ofV xs)) ∧ w' = w := by
  unfold maxLen at hm
  have HL : Hid (xs.length = len) := hl
  clear hl
  go_enter Try.func28, Try.ntmps28
  go_wp2
  go_loop [3, 8] (fun u i => ∃ k : Nat, k ≤ len ∧ i = .int .i64 k ∧ u = .int .u64 (ofV (xs.take k))) (fun _ i => len - (intOf i).toNat)
  case atStart => exact ⟨0, Nat.zero_le _, rfl, rfl⟩
  case round =>
    obtain ⟨k, hk, rfl, rfl⟩ := hrel
    by_cases hlt : k < len
    · have hcell := hc k hlt
      have hb := nth_range xs hr k
      have HT : Hid (ofV (xs.take (k + 1)) = ofStep (ofV (xs.take k)) (xs.getD k 0)) := ofV_take xs k (by rw [HL.out]; exact hlt)
      have HO : Hid (IntKind.u64.wrap (IntKind.u64.wrap (ofV (xs.take k) * 256) + xs.getD k 0) = ofStep (ofV (xs.take k)) (xs.getD k 0)) := mul_step _ _
      generalize xs.getD k 0 = c at *
      generalize ofV (xs.take k) = x at *
      obtain ⟨b1, b2⟩ := hb
      clear hr hc
      go_wp2
      go_round
      case rel => exact ⟨k + 1, by omega, by go_num, by rw [HT.out, ← HO.out]⟩
      case measure => simp [intOf]; omega
    · have hkl : k = len := by omega
      subst hkl
      clear hr hc
      go_wp2
      go_ret
      exact ⟨ret1 (by rw [List.take_of_length_le (by rw [HL.out]; exact Nat.le_refl _)]), rfl⟩

set_option maxHeartbeats 400000 in
theorem of_empty (a : Option Addr) (cap : Nat) (w : World) (hm : cap ≤ maxLen) :
    Calls Try.prog 41 #[.slice a 0 cap] w fun e w' => e = .returned (.int .u64 (ofV [])) ∧ w' = w := by
  unfold maxLen at hm
  cases a
  all_goals
    go_enter Try.func41, Try.ntmps41
    go_wp2
    go_rounds 1
    go_ret
    exact ⟨rfl, rfl⟩

set_option maxHeartbeats 400000 in
theorem rof_empty (a : Option Addr) (cap : Nat) (w : World) (hm : cap ≤ maxLen) :
    Calls Try.prog 28 #[.slice a 0 cap] w fun e w' => e = .returned (.int .u64 (ofV [])) ∧ w' = w := by
  unfold maxLen at hm
  cases a
  all_goals
    go_enter Try.func28, Try.ntmps28
    go_wp2
    go_rounds 1
    go_ret
    exact ⟨rfl, rfl⟩

theorem of_row (g off len cap : Nat) (xs : List Int) (w : World) (hl : xs.length = len) (hlc : len ≤ cap) (hm : cap ≤ maxLen)
    (hc : ∀ i, i < len → w.cell? ⟨g, off + i, none⟩ = some (.int .u8 (xs.getD i 0))) (hr : ∀ c ∈ xs, 0 ≤ c ∧ c < 256) :
    Calls Try.prog 41 #[.slice (some ⟨g, off, none⟩) len cap] w fun e w' => e = .returned (.int .u64 (ofV xs)) ∧ w' = w := by
  by_cases h8 : len ≤ 8
  · exact of_small g off len cap xs w hl hlc hm h8 hc hr
  · obtain ⟨m, rfl⟩ : ∃ m, len = m + 8 := ⟨len - 8, by omega⟩
    exact of_big g off m cap xs w hl (by omega) hlc hm hc hr

end Go.Proofs.Ytfihjhcjkgpgfaa
