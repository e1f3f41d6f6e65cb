/- num.Put and num.Of, and the reference's Put and Of, over bytes in memory. -/
import Derived.Test.YtajpamkdcpbabaaByt
import Derived.Test.YtajpamkdcpbabaaNumOfMath
import Derived.Handy
import Derived.Maps.AppendAt
import Derived.Laws.AppendOwnNone
import Derived.Deep.AppendLies
namespace Go.Proofs.Ytajpamkdcpbabaa
open Go.RowKit NumMath
set_option linter.unusedVariables false

/-- the bytes of a number, the highest ahead, as cells -/
def putCells (u : Int) (n : Nat) : List Value := (putL u n).map (Value.int .u8)

set_option maxHeartbeats 1000000 in
theorem put_0 (u : Int) (w : World) (h1 : 0 ≤ u) (h2 : u ≤ 18446744073709551615) :
    Calls Try.prog 51 #[.int .u64 u, .int .i64 0] w fun e w' => e = .returned (.slice (some ⟨w.heap.size, 0, none⟩) 0 0) ∧ w' = w.alloc (.cells (putCells u 0).toArray 5) := by
  have hmk : ∀ w, (Instr.makeSlice 22 (.int .i64 0) (.int .i64 0)).run Try.prog w = .ok (.slice (some ⟨w.heap.size, 0, none⟩) 0 0) (w.alloc (.cells #[] 5)) := fun _ => by kernel_rfl
  have HC : Hid ((putCells u 0).toArray = #[]) := rfl
  go_enter Try.func51, Try.ntmps51
  go_wp2
  go_rounds 1
  go_ret
  exact ⟨rfl, by rw [HC.out]⟩

set_option maxHeartbeats 1000000 in
theorem put_1 (u : Int) (w : World) (h1 : 0 ≤ u) (h2 : u ≤ 18446744073709551615) :
    Calls Try.prog 51 #[.int .u64 u, .int .i64 1] w fun e w' => e = .returned (.slice (some ⟨w.heap.size, 0, none⟩) 1 1) ∧ w' = w.alloc (.cells (putCells u 1).toArray 5) := by
  have hmk : ∀ w, (Instr.makeSlice 22 (.int .i64 1) (.int .i64 1)).run Try.prog w = .ok (.slice (some ⟨w.heap.size, 0, none⟩) 1 1) (w.alloc (.cells #[.int .u8 0] 5)) := fun _ => by kernel_rfl
  have HC : Hid ((putCells u 1).toArray = #[.int .u8 (nthB u 0)]) := rfl
  go_enter Try.func51, Try.ntmps51
  go_wp2
  go_rounds 2
  go_ret
  exact ⟨rfl, by rw [HC.out, nth_0]⟩

set_option maxHeartbeats 1000000 in
theorem put_2 (u : Int) (w : World) (h1 : 0 ≤ u) (h2 : u ≤ 18446744073709551615) :
    Calls Try.prog 51 #[.int .u64 u, .int .i64 2] w fun e w' => e = .returned (.slice (some ⟨w.heap.size, 0, none⟩) 2 2) ∧ w' = w.alloc (.cells (putCells u 2).toArray 5) := by
  have hmk : ∀ w, (Instr.makeSlice 22 (.int .i64 2) (.int .i64 2)).run Try.prog w = .ok (.slice (some ⟨w.heap.size, 0, none⟩) 2 2) (w.alloc (.cells #[.int .u8 0, .int .u8 0] 5)) := fun _ => by kernel_rfl
  have HC : Hid ((putCells u 2).toArray = #[.int .u8 (nthB u 1), .int .u8 (nthB u 0)]) := rfl
  go_enter Try.func51, Try.ntmps51
  go_wp2
  go_rounds 3
  go_ret
  exact ⟨rfl, by rw [HC.out, nth_0, nth_1]⟩

set_option maxHeartbeats 1000000 in
theorem put_3 (u : Int) (w : World) (h1 : 0 ≤ u) (h2 : u ≤ 18446744073709551615) :
    Calls Try.prog 51 #[.int .u64 u, .int .i64 3] w fun e w' => e = .returned (.slice (some ⟨w.heap.size, 0, none⟩) 3 3) ∧ w' = w.alloc (.cells (putCells u 3).toArray 5) := by
  have hmk : ∀ w, (Instr.makeSlice 22 (.int .i64 3) (.int .i64 3)).run Try.prog w = .ok (.slice (some ⟨w.heap.size, 0, none⟩) 3 3) (w.alloc (.cells #[.int .u8 0, .int .u8 0, .int .u8 0] 5)) := fun _ => by kernel_rfl
  have HC : Hid ((putCells u 3).toArray = #[.int .u8 (nthB u 2), .int .u8 (nthB u 1), .int .u8 (nthB u 0)]) := rfl
  go_enter Try.func51, Try.ntmps51
  go_wp2
  go_rounds 4
  go_ret
  exact ⟨rfl, by rw [HC.out, nth_0, nth_1, nth_2]⟩

set_option maxHeartbeats 1000000 in
theorem put_4 (u : Int) (w : World) (h1 : 0 ≤ u) (h2 : u ≤ 18446744073709551615) :
    Calls Try.prog 51 #[.int .u64 u, .int .i64 4] w fun e w' => e = .returned (.slice (some ⟨w.heap.size, 0, none⟩) 4 4) ∧ w' = w.alloc (.cells (putCells u 4).toArray 5) := by
  have hmk : ∀ w, (Instr.makeSlice 22 (.int .i64 4) (.int .i64 4)).run Try.prog w = .ok (.slice (some ⟨w.heap.size, 0, none⟩) 4 4) (w.alloc (.cells #[.int .u8 0, .int .u8 0, .int .u8 0, .int .u8 0] 5)) := fun _ => by kernel_rfl
  have HC : Hid ((putCells u 4).toArray = #[.int .u8 (nthB u 3), .int .u8 (nthB u 2), .int .u8 (nthB u 1), .int .u8 (nthB u 0)]) := rfl
  go_enter Try.func51, Try.ntmps51
  go_wp2
  go_rounds 5
  go_ret
  exact ⟨rfl, by rw [HC.out, nth_0, nth_1, nth_2, nth_3]⟩

set_option maxHeartbeats 1000000 in
theorem put_5 (u : Int) (w : World) (h1 : 0 ≤ u) (h2 : u ≤ 18446744073709551615) :
    Calls Try.prog 51 #[.int .u64 u, .int .i64 5] w fun e w' => e = .returned (.slice (some ⟨w.heap.size, 0, none⟩) 5 5) ∧ w' = w.alloc (.cells (putCells u 5).toArray 5) := by
  have hmk : ∀ w, (Instr.makeSlice 22 (.int .i64 5) (.int .i64 5)).run Try.prog w = .ok (.slice (some ⟨w.heap.size, 0, none⟩) 5 5) (w.alloc (.cells #[.int .u8 0, .int .u8 0, .int .u8 0, .int .u8 0, .int .u8 0] 5)) := fun _ => by kernel_rfl
  have HC : Hid ((putCells u 5).toArray = #[.int .u8 (nthB u 4), .int .u8 (nthB u 3), .int .u8 (nthB u 2), .int .u8 (nthB u 1), .int .u8 (nthB u 0)]) := rfl
  go_enter Try.func51, Try.ntmps51
  go_wp2
  go_rounds 6
  go_ret
  exact ⟨rfl, by rw [HC.out, nth_0, nth_1, nth_2, nth_3, nth_4]⟩

set_option maxHeartbeats 1000000 in
theorem put_6 (u : Int) (w : World) (h1 : 0 ≤ u) (h2 : u ≤ 18446744073709551615) :
    Calls Try.prog 51 #[.int .u64 u, .int .i64 6] w fun e w' => e = .returned (.slice (some ⟨w.heap.size, 0, none⟩) 6 6) ∧ w' = w.alloc (.cells (putCells u 6).toArray 5) := by
  have hmk : ∀ w, (Instr.makeSlice 22 (.int .i64 6) (.int .i64 6)).run Try.prog w = .ok (.slice (some ⟨w.heap.size, 0, none⟩) 6 6) (w.alloc (.cells #[.int .u8 0, .int .u8 0, .int .u8 0, .int .u8 0, .int .u8 0, .int .u8 0] 5)) := fun _ => by kernel_rfl
  have HC : Hid ((putCells u 6).toArray = #[.int .u8 (nthB u 5), .int .u8 (nthB u 4), .int .u8 (nthB u 3), .int .u8 (nthB u 2), .int .u8 (nthB u 1), .int .u8 (nthB u 0)]) := rfl
  go_enter Try.func51, Try.ntmps51
  go_wp2
  go_rounds 7
  go_ret
  exact ⟨rfl, by rw [HC.out, nth_0, nth_1, nth_2, nth_3, nth_4, nth_5]⟩

set_option maxHeartbeats 1000000 in
theorem put_7 (u : Int) (w : World) (h1 : 0 ≤ u) (h2 : u ≤ 18446744073709551615) :
    Calls Try.prog 51 #[.int .u64 u, .int .i64 7] w fun e w' => e = .returned (.slice (some ⟨w.heap.size, 0, none⟩) 7 7) ∧ w' = w.alloc (.cells (putCells u 7).toArray 5) := by
  have hmk : ∀ w, (Instr.makeSlice 22 (.int .i64 7) (.int .i64 7)).run Try.prog w = .ok (.slice (some ⟨w.heap.size, 0, none⟩) 7 7) (w.alloc (.cells #[.int .u8 0, .int .u8 0, .int .u8 0, .int .u8 0, .int .u8 0, .int .u8 0, .int .u8 0] 5)) := fun _ => by kernel_rfl
  have HC : Hid ((putCells u 7).toArray = #[.int .u8 (nthB u 6), .int .u8 (nthB u 5), .int .u8 (nthB u 4), .int .u8 (nthB u 3), .int .u8 (nthB u 2), .int .u8 (nthB u 1), .int .u8 (nthB u 0)]) := rfl
  go_enter Try.func51, Try.ntmps51
  go_wp2
  go_rounds 8
  go_ret
  exact ⟨rfl, by rw [HC.out, nth_0, nth_1, nth_2, nth_3, nth_4, nth_5, nth_6]⟩

set_option maxHeartbeats 1000000 in
theorem put_8 (u : Int) (w : World) (h1 : 0 ≤ u) (h2 : u ≤ 18446744073709551615) :
    Calls Try.prog 51 #[.int .u64 u, .int .i64 8] w fun e w' => e = .returned (.slice (some ⟨w.heap.size, 0, none⟩) 8 8) ∧ w' = w.alloc (.cells (putCells u 8).toArray 5) := by
  have hmk : ∀ w, (Instr.makeSlice 22 (.int .i64 8) (.int .i64 8)).run Try.prog w = .ok (.slice (some ⟨w.heap.size, 0, none⟩) 8 8) (w.alloc (.cells #[.int .u8 0, .int .u8 0, .int .u8 0, .int .u8 0, .int .u8 0, .int .u8 0, .int .u8 0, .int .u8 0] 5)) := fun _ => by kernel_rfl
  have HC : Hid ((putCells u 8).toArray = #[.int .u8 (nthB u 7), .int .u8 (nthB u 6), .int .u8 (nthB u 5), .int .u8 (nthB u 4), .int .u8 (nthB u 3), .int .u8 (nthB u 2), .int .u8 (nthB u 1), .int .u8 (nthB u 0)]) := rfl
  go_enter Try.func51, Try.ntmps51
  go_wp2
  go_rounds 9
  go_ret
  exact ⟨rfl, by rw [HC.out, nth_0, nth_1, nth_2, nth_3, nth_4, nth_5, nth_6, nth_7 u h1 h2]⟩

set_option maxHeartbeats 400000 in
theorem put_none (u size : Int) (w : World) (h : size < 0 ∨ 8 < size) :
    Calls Try.prog 51 #[.int .u64 u, .int .i64 size] w fun e w' => e = .returned (.slice none 0 0) ∧ w' = w := by
  rcases h with h | h
  · go_enter Try.func51, Try.ntmps51
    go_wp2
    go_ret
    exact ⟨rfl, rfl⟩
  · have h' : ¬ size < 0 := by omega
    go_enter Try.func51, Try.ntmps51
    go_wp2
    go_ret
    exact ⟨rfl, rfl⟩

theorem put_any (u : Int) (n : Nat) (w : World) (h1 : 0 ≤ u) (h2 : u ≤ 18446744073709551615) (hn : n ≤ 8) :
    Calls Try.prog 51 #[.int .u64 u, .int .i64 n] w fun e w' => e = .returned (.slice (some ⟨w.heap.size, 0, none⟩) n n) ∧ w' = w.alloc (.cells (putCells u n).toArray 5) := by
  have hc : n = 0 ∨ n = 1 ∨ n = 2 ∨ n = 3 ∨ n = 4 ∨ n = 5 ∨ n = 6 ∨ n = 7 ∨ n = 8 := by omega
  rcases hc with rfl | rfl | rfl | rfl | rfl | rfl | rfl | rfl | rfl
  · exact put_0 u w h1 h2
  · exact put_1 u w h1 h2
  · exact put_2 u w h1 h2
  · exact put_3 u w h1 h2
  · exact put_4 u w h1 h2
  · exact put_5 u w h1 h2
  · exact put_6 u w h1 h2
  · exact put_7 u w h1 h2
  · exact put_8 u w h1 h2

theorem put_new (u : Int) (n : Nat) (w : World) (h1 : 0 ≤ u) (h2 : u ≤ 18446744073709551615) (hn : n ≤ 8) :
    Calls Try.prog 51 #[.int .u64 u, .int .i64 n] w fun e w' => ∃ g, e = .returned (.slice (some ⟨g, 0, none⟩) n n) ∧ w.heap.size ≤ g ∧ g < w'.heap.size ∧ Bytes w' g (putL u n) ∧ Below w.heap.size w w' ∧ Grown w w' := by
  refine (put_any u n w h1 h2 hn).mono ?_
  rintro e w' ⟨rfl, rfl⟩
  exact ⟨w.heap.size, rfl, Nat.le_refl _, by simp, bytes_alloc w (putL u n) _, (Below.refl _ _).alloc (Nat.le_refl _) _, (Grown.refl _).alloc _ _⟩

theorem put_new8 (u : Int) (w : World) (h1 : 0 ≤ u) (h2 : u ≤ 18446744073709551615) :
    Calls Try.prog 51 #[.int .u64 u, .int .i64 8] w fun e w' => ∃ g, e = .returned (.slice (some ⟨g, 0, none⟩) 8 8) ∧ w.heap.size ≤ g ∧ g < w'.heap.size ∧ Bytes w' g (putL u 8) ∧ Below w.heap.size w w' ∧ Grown w w' := put_new u 8 w h1 h2 (by decide)

theorem put_new4 (u : Int) (w : World) (h1 : 0 ≤ u) (h2 : u ≤ 18446744073709551615) :
    Calls Try.prog 51 #[.int .u64 u, .int .i64 4] w fun e w' => ∃ g, e = .returned (.slice (some ⟨g, 0, none⟩) 4 4) ∧ w.heap.size ≤ g ∧ g < w'.heap.size ∧ Bytes w' g (putL u 4) ∧ Below w.heap.size w w' ∧ Grown w w' := put_new u 4 w h1 h2 (by decide)

theorem one_made (w : World) (B : Nat) (c : Int) (hB : B ≤ w.heap.size) :
    (w.alloc (.cells #[.int .u8 c] 5)).ownsRow B 5 1 (.slice (some ⟨w.heap.size, 0, none⟩) 1 1) 1 [.int .u8 c] :=
  ⟨by simp, .inr ⟨w.heap.size, 1, #[.int .u8 c], rfl, hB, heap_alloc_new w _, Nat.le_refl _, by unfold maxLen; omega, rfl, rfl⟩⟩

theorem div_step (u : Int) (k : Nat) : u / 256 ^ k / 256 = u / 256 ^ (k + 1) := by
  rw [Int.pow_succ, Int.ediv_ediv_of_nonneg (Int.le_of_lt (Int.pow_pos (by decide)))]

theorem div_range (u : Int) (k : Nat) (h1 : 0 ≤ u) (h2 : u ≤ 18446744073709551615) : 0 ≤ u / 256 ^ k ∧ u / 256 ^ k ≤ 18446744073709551615 := by
  have hp : (0 : Int) < 256 ^ k := Int.pow_pos (by decide)
  exact ⟨Int.ediv_nonneg h1 (Int.le_of_lt hp), Int.le_trans (Int.ediv_le_self _ h1) h2⟩

set_option maxHeartbeats 1000000 in
theorem rput_any (u : Int) (n : Nat) (w : World) (h1 : 0 ≤ u) (h2 : u ≤ 18446744073709551615) (hn : n ≤ 8) :
    Calls Try.prog 47 #[.int .u64 u, .int .i64 n] w fun e w' => ∃ v, e = .returned v ∧ w'.ownsRow w.heap.size 5 1 v n ((putL u n).map (Value.int .u8)) ∧ Below w.heap.size w w' ∧ (n = 0 → v = .slice none 0 0) := by
  have n0 : ¬ (n : Int) < 0 := by omega
  have n8 : ¬ (8 : Int) < (n : Int) := by omega
  go_enter Try.func47, Try.ntmps47
  go_wp2
  go_loopw [0, 5, 6] (fun x v i wr => ∃ k : Nat, k ≤ n ∧ i = .int .i64 k ∧ x = .int .u64 (u / 256 ^ k) ∧ wr.ownsRow w.heap.size 5 1 v k ((putL u k).map (Value.int .u8)) ∧ Below w.heap.size w wr ∧ (k = 0 → v = .slice none 0 0)) (fun _ _ i _ => n - (intOf i).toNat)
  case atStart => exact ⟨0, Nat.zero_le _, rfl, by simp, World.ownsRow_nil _ _ _ _, Below.refl _ _, fun _ => rfl⟩
  case round =>
    obtain ⟨k, hk, rfl, rfl, hown, hb, hnil⟩ := hrel
    obtain ⟨d1, d2⟩ := div_range u k h1 h2
    have hsz := hb.size
    have HS : Hid (u / 256 ^ k / 256 = u / 256 ^ (k + 1)) := div_step u k
    have HN : Hid (nthB u k = u / 256 ^ k % 256) := rfl
    generalize u / 256 ^ k = x at *
    by_cases hlt : k < n
    · have hlt' : (k : Int) < (n : Int) := by omega
      by_cases k0 : k = 0
      · subst k0
        have hv := hnil rfl
        subst hv
        have hm := one_made wr w.heap.size (x % 256) hsz
        go_wp2_with (first | (at_builtin; refine wpList_append_own_none rfl _ _ 22 rfl w.heap.size 5 _ 1 Try.underlying22 rfl _ 1 [.int .u8 (x % 256)] rfl hm rfl ?_))
        go_roundw
        case rel => exact ⟨1, by omega, rfl, by rw [HS.out], by show World.ownsRow _ _ _ _ _ _ [Value.int .u8 (nthB u 0)]; rw [HN.out]; exact hm, hb.alloc hsz _, by omega⟩
        case measure => simp [intOf]; omega
      · obtain ⟨g, cap, hv, hg1, hg2⟩ := hown.form (by omega)
        subst hv
        have hm := one_made wr w.heap.size (x % 256) hsz
        have hnews : ∀ j u', ((putL u k).map (Value.int .u8))[j]? = some u' → (wr.alloc (.cells #[.int .u8 (x % 256)] 5)).cell? ((⟨g, 0, none⟩ : Addr).add j) = some u' := (hown.alloc _).cells rfl
        have h1c : ∀ u' ∈ (putL u k).map (Value.int .u8), u'.oneCell' = true := by
          intro u' hu
          obtain ⟨c, _, rfl⟩ := List.mem_map.1 hu
          rfl
        have HH := hide hnews
        have H1 := hide h1c
        clear hnews h1c hnil
        go_wp2_with (first | (at_builtin; go_must (refine wpList_append_own_at _ rfl _ _ 22 rfl w.heap.size 5 _ _ 1 1 Try.underlying22 rfl rfl rfl rfl rfl (by omega) _ 1 [.int .u8 (x % 256)] rfl hm ⟨g, 0, none⟩ k cap ((putL u k).map (Value.int .u8)) rfl (by simp [putL_length]) HH.out H1.out (by unfold maxLen; omega) (by omega) (by simp; omega) ?_); intro v' w1 hown' hgrow hnl hat))
        go_roundw
        case rel =>
          refine ⟨k + 1, by omega, by go_num, by rw [HS.out], ?_, ?_, by omega⟩
          · show World.ownsRow _ _ _ _ _ _ (Value.int .u8 (nthB u k) :: (putL u k).map (Value.int .u8))
            rw [HN.out, Nat.add_comm k 1]
            exact hown'
          · exact (hb.alloc hsz _).grown hgrow (by simp; omega) (by intro j hj; have hj2 : wr.heap.size = j := Option.some.inj hj; omega)
        case measure => simp [intOf]; omega
    · have hlt' : ¬ (k : Int) < (n : Int) := by omega
      have hkn : k = n := by omega
      subst hkn
      go_wp2
      go_ret
      exact ⟨_, rfl, hown, hb, hnil⟩

set_option maxHeartbeats 400000 in
theorem of_small (g off len cap : Nat) (xs : List Int) (w : World) (hl : xs.length = len) (hlc : len ≤ cap) (hm : cap ≤ maxLen) (h8 : len ≤ 8)
    (hc : ∀ i, i < len → w.cell? ⟨g, off + i, none⟩ = some (.int .u8 (xs.getD i 0))) (hr : ∀ c ∈ xs, 0 ≤ c ∧ c < 256) :
    Calls Try.prog 54 #[.slice (some ⟨g, off, none⟩) len cap] w fun e w' => e = .returned (.int .u64 (ofV xs)) ∧ w' = w := by
  unfold maxLen at hm
  have HL : Hid (xs.length = len) := hl
  clear hl
  go_enter Try.func54, Try.ntmps54
  go_wp2
  go_loop [4, 14] (fun u i => ∃ k : Nat, k ≤ len ∧ i = .int .i64 k ∧ u = .int .u64 (ofV (xs.take k))) (fun _ i => len - (intOf i).toNat)
  case atStart => exact ⟨0, Nat.zero_le _, rfl, rfl⟩
  case round =>
    obtain ⟨k, hk, rfl, rfl⟩ := hrel
    by_cases hlt : k < len
    · have hcell := hc k hlt
      have hb := nth_range xs hr k
      have HT : Hid (ofV (xs.take (k + 1)) = ofStep (ofV (xs.take k)) (xs.getD k 0)) := ofV_take xs k (by rw [HL.out]; exact hlt)
      have HO : Hid (bits .or .u64 (IntKind.u64.wrap (ofV (xs.take k) * 256)) (xs.getD k 0) = ofStep (ofV (xs.take k)) (xs.getD k 0)) := or_step _ _ hb.1 hb.2
      generalize xs.getD k 0 = c at *
      generalize ofV (xs.take k) = x at *
      obtain ⟨b1, b2⟩ := hb
      clear hr hc
      go_wp2
      go_round
      case rel => exact ⟨k + 1, by omega, by go_num, by rw [HT.out, ← HO.out]⟩
      case measure => simp [intOf]; omega
    · have hkl : k = len := by omega
      subst hkl
      clear hr hc
      go_wp2
      go_ret
      exact ⟨ret1 (by rw [List.take_of_length_le (by rw [HL.out]; exact Nat.le_refl _)]), rfl⟩

set_option maxHeartbeats 400000 in
theorem of_big (g off m cap : Nat) (xs : List Int) (w : World) (hl : xs.length = m + 8) (hm0 : 0 < m) (hlc : m + 8 ≤ cap) (hm : cap ≤ maxLen)
    (hc : ∀ i, i < m + 8 → w.cell? ⟨g, off + i, none⟩ = some (.int .u8 (xs.getD i 0))) (hr : ∀ c ∈ xs, 0 ≤ c ∧ c < 256) :
    Calls Try.prog 54 #[.slice (some ⟨g, off, none⟩) (m + 8) cap] w fun e w' => e = .returned (.int .u64 (ofV xs)) ∧ w' = w := by
  unfold maxLen at hm
  rw [ofV_last xs m hl]
  have hc' : ∀ i, i < 8 → w.cell? ⟨g, off + m + i, none⟩ = some (.int .u8 ((xs.drop m).getD i 0)) := by
    intro i hi
    rw [Nat.add_assoc, hc (m + i) (by omega)]
    simp [List.getD]
  have hr' : ∀ c ∈ xs.drop m, 0 ≤ c ∧ c < 256 := fun c h => hr c (List.mem_of_mem_drop h)
  have HL : Hid ((xs.drop m).length = 8) := by show _ = _; rw [List.length_drop, hl]; omega
  clear hl hc hr
  generalize xs.drop m = ys at *
  go_enter Try.func54, Try.ntmps54
  go_wp2
  go_loop [4, 14] (fun u i => ∃ k : Nat, k ≤ 8 ∧ i = .int .i64 k ∧ u = .int .u64 (ofV (ys.take k))) (fun _ i => 8 - (intOf i).toNat)
  case atStart => exact ⟨0, Nat.zero_le _, rfl, rfl⟩
  case round =>
    obtain ⟨k, hk, rfl, rfl⟩ := hrel
    by_cases hlt : k < 8
    · have hcell := hc' k hlt
      have hb := nth_range ys hr' k
      have HT : Hid (ofV (ys.take (k + 1)) = ofStep (ofV (ys.take k)) (ys.getD k 0)) := ofV_take ys k (by rw [HL.out]; exact hlt)
      have HO : Hid (bits .or .u64 (IntKind.u64.wrap (ofV (ys.take k) * 256)) (ys.getD k 0) = ofStep (ofV (ys.take k)) (ys.getD k 0)) := or_step _ _ hb.1 hb.2
      generalize ys.getD k 0 = c at *
      generalize ofV (ys.take k) = x at *
      obtain ⟨b1, b2⟩ := hb
      clear hr' hc'
      go_wp2
      go_round
      case rel => exact ⟨k + 1, by omega, by go_num, by rw [HT.out, ← HO.out]⟩
      case measure => simp [intOf]; omega
    · have hkl : k = 8 := by omega
      subst hkl
      clear hr' hc'
      go_wp2
      go_ret
      exact ⟨ret1 (by rw [List.take_of_length_le (by rw [HL.out]; exact Nat.le_refl _)]), rfl⟩

set_option maxHeartbeats 400000 in
theorem rof_row (g off len cap : Nat) (xs : List Int) (w : World) (hl : xs.length = len) (hlc : len ≤ cap) (hm : cap ≤ maxLen) 
    (hc : ∀ i, i < len → w.cell? ⟨g, off + i, none⟩ = some (.int .u8 (xs.getD i 0))) (hr : ∀ c ∈ xs, 0 ≤ c ∧ c < 256) :
    Calls Try.prog 45 #[.slice (some ⟨g, off, none⟩) len cap] w fun e w' => e = .returned (.int .u64 (ofV xs)) ∧ w' = w := by
  unfold maxLen at hm
  have HL : Hid (xs.length = len) := hl
  clear hl
  go_enter Try.func45, Try.ntmps45
  go_wp2
  go_loop [3, 8] (fun u i => ∃ k : Nat, k ≤ len ∧ i = .int .i64 k ∧ u = .int .u64 (ofV (xs.take k))) (fun _ i => len - (intOf i).toNat)
  case atStart => exact ⟨0, Nat.zero_le _, rfl, rfl⟩
  case round =>
    obtain ⟨k, hk, rfl, rfl⟩ := hrel
    by_cases hlt : k < len
    · have hcell := hc k hlt
      have hb := nth_range xs hr k
      have HT : Hid (ofV (xs.take (k + 1)) = ofStep (ofV (xs.take k)) (xs.getD k 0)) := ofV_take xs k (by rw [HL.out]; exact hlt)
      have HO : Hid (IntKind.u64.wrap (IntKind.u64.wrap (ofV (xs.take k) * 256) + xs.getD k 0) = ofStep (ofV (xs.take k)) (xs.getD k 0)) := mul_step _ _
      generalize xs.getD k 0 = c at *
      generalize ofV (xs.take k) = x at *
      obtain ⟨b1, b2⟩ := hb
      clear hr hc
      go_wp2
      go_round
      case rel => exact ⟨k + 1, by omega, by go_num, by rw [HT.out, ← HO.out]⟩
      case measure => simp [intOf]; omega
    · have hkl : k = len := by omega
      subst hkl
      clear hr hc
      go_wp2
      go_ret
      exact ⟨ret1 (by rw [List.take_of_length_le (by rw [HL.out]; exact Nat.le_refl _)]), rfl⟩

set_option maxHeartbeats 400000 in
theorem of_empty (a : Option Addr) (cap : Nat) (w : World) (hm : cap ≤ maxLen) :
    Calls Try.prog 54 #[.slice a 0 cap] w fun e w' => e = .returned (.int .u64 (ofV [])) ∧ w' = w := by
  unfold maxLen at hm
  cases a
  all_goals
    go_enter Try.func54, Try.ntmps54
    go_wp2
    go_rounds 1
    go_ret
    exact ⟨rfl, rfl⟩

set_option maxHeartbeats 400000 in
theorem rof_empty (a : Option Addr) (cap : Nat) (w : World) (hm : cap ≤ maxLen) :
    Calls Try.prog 45 #[.slice a 0 cap] w fun e w' => e = .returned (.int .u64 (ofV [])) ∧ w' = w := by
  unfold maxLen at hm
  cases a
  all_goals
    go_enter Try.func45, Try.ntmps45
    go_wp2
    go_rounds 1
    go_ret
    exact ⟨rfl, rfl⟩

theorem of_row (g off len cap : Nat) (xs : List Int) (w : World) (hl : xs.length = len) (hlc : len ≤ cap) (hm : cap ≤ maxLen)
    (hc : ∀ i, i < len → w.cell? ⟨g, off + i, none⟩ = some (.int .u8 (xs.getD i 0))) (hr : ∀ c ∈ xs, 0 ≤ c ∧ c < 256) :
    Calls Try.prog 54 #[.slice (some ⟨g, off, none⟩) len cap] w fun e w' => e = .returned (.int .u64 (ofV xs)) ∧ w' = w := by
  by_cases h8 : len ≤ 8
  · exact of_small g off len cap xs w hl hlc hm h8 hc hr
  · obtain ⟨m, rfl⟩ : ∃ m, len = m + 8 := ⟨len - 8, by omega⟩
    exact of_big g off m cap xs w hl (by omega) hlc hm hc hr

def putAns (u size : Int) : List Int := if size < 0 ∨ 8 < size then [] else putL u size.toNat

theorem put_all (u size : Int) (w : World) (h1 : 0 ≤ u) (h2 : u ≤ 18446744073709551615) :
    Calls Try.prog 51 #[.int .u64 u, .int .i64 size] w fun e w' => ∃ v, e = .returned v ∧ HoldsB w' v (putAns u size) ∧ Below w.heap.size w w' := by
  by_cases h : size < 0 ∨ 8 < size
  · unfold putAns
    rw [if_pos h]
    refine (put_none u size w h).mono ?_
    rintro e w' ⟨rfl, rfl⟩
    exact ⟨_, rfl, .inl ⟨rfl, rfl⟩, Below.refl _ _⟩
  · unfold putAns
    rw [if_neg h]
    obtain ⟨n, rfl⟩ : ∃ n : Nat, size = (n : Int) := ⟨size.toNat, by omega⟩
    rw [Int.toNat_natCast]
    refine (put_new u n w h1 h2 (by omega)).mono ?_
    rintro e w' ⟨g, rfl, hg1, hg2, hB, hb, hG⟩
    exact ⟨_, rfl, .inr ⟨g, n, n, rfl, putL_length _ _, Nat.le_refl _, by unfold maxLen; omega, hg2, hB⟩, hb⟩

theorem rput_none (u size : Int) (w : World) (h : size < 0 ∨ 8 < size) :
    Calls Try.prog 47 #[.int .u64 u, .int .i64 size] w fun e w' => e = .returned (.slice none 0 0) ∧ w' = w := by
  rcases h with h | h
  · go_enter Try.func47, Try.ntmps47
    go_wp2
    go_ret
    exact ⟨rfl, rfl⟩
  · have h' : ¬ size < 0 := by omega
    go_enter Try.func47, Try.ntmps47
    go_wp2
    go_ret
    exact ⟨rfl, rfl⟩

theorem rput_all (u size : Int) (w : World) (h1 : 0 ≤ u) (h2 : u ≤ 18446744073709551615) :
    Calls Try.prog 47 #[.int .u64 u, .int .i64 size] w fun e w' => ∃ v, e = .returned v ∧ HoldsB w' v (putAns u size) ∧ Below w.heap.size w w' := by
  by_cases h : size < 0 ∨ 8 < size
  · unfold putAns
    rw [if_pos h]
    refine (rput_none u size w h).mono ?_
    rintro e w' ⟨rfl, rfl⟩
    exact ⟨_, rfl, .inl ⟨rfl, rfl⟩, Below.refl _ _⟩
  · unfold putAns
    rw [if_neg h]
    obtain ⟨n, rfl⟩ : ∃ n : Nat, size = (n : Int) := ⟨size.toNat, by omega⟩
    rw [Int.toNat_natCast]
    refine (rput_any u n w h1 h2 (by omega)).mono ?_
    rintro e w' ⟨v, rfl, hown, hb, hnil⟩
    refine ⟨_, rfl, ?_, hb⟩
    by_cases n0 : n = 0
    · exact .inl ⟨hnil n0, by rw [n0]; rfl⟩
    · rcases hown.2 with ⟨_, h0⟩ | ⟨g, cap, cur, rfl, hg, hh, hn, hm, _, _⟩
      · omega
      · refine .inr ⟨g, n, cap, rfl, putL_length _ _, hn, hm, ?_, bytes_of_owns hown⟩
        exact (hown.lt g rfl).2

theorem nof_any (a : Option Addr) (len cap : Nat) (xs : List Int) (w : World) (h : IsBytes w a len cap xs) :
    Calls Try.prog 54 #[.slice a len cap] w fun e w' => e = .returned (.int .u64 (ofV xs)) ∧ w' = w := by
  obtain ⟨h1, h2, h3, h4, h5⟩ := h
  rcases h5 with h5 | ⟨g, off, rfl, hg, hc⟩
  · subst h5
    obtain rfl := List.length_eq_zero_iff.1 h1
    exact of_empty a cap w h3
  · exact of_row g off len cap xs w h1 h2 h3 (fun i hi => hc i (by omega)) h4

theorem rnof_any (a : Option Addr) (len cap : Nat) (xs : List Int) (w : World) (h : IsBytes w a len cap xs) :
    Calls Try.prog 45 #[.slice a len cap] w fun e w' => e = .returned (.int .u64 (ofV xs)) ∧ w' = w := by
  obtain ⟨h1, h2, h3, h4, h5⟩ := h
  rcases h5 with h5 | ⟨g, off, rfl, hg, hc⟩
  · subst h5
    obtain rfl := List.length_eq_zero_iff.1 h1
    exact rof_empty a cap w h3
  · exact rof_row g off len cap xs w h1 h2 h3 (fun i hi => hc i (by omega)) h4

end Go.Proofs.Ytajpamkdcpbabaa
