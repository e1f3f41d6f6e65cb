/- What num.Put answers, size by size: a new slice of so many bytes, the highest ahead; nothing that was there is written. -/
import Derived.Test.YtfihjhcjkgpgfaaNumWalks
import Derived.Handy
namespace Go.Proofs.Ytfihjhcjkgpgfaa
open Go.RowKit NumMath
set_option linter.unusedVariables false

/-- the bytes of a number, the highest ahead, as cells -/
def putCells (u : Int) (n : Nat) : List Value := (putL u n).map (Value.int .u8)

set_option maxHeartbeats 1000000 in
theorem put_0 (u : Int) (w : World) (h1 : 0 ≤ u) (h2 : u ≤ 18446744073709551615) :
    Calls Try.prog 30 #[.int .u64 u, .int .i64 0] w fun e w' => e = .returned (.slice (some ⟨w.heap.size, 0, none⟩) 0 0) ∧ w' = w.alloc (.cells (putCells u 0).toArray 5) := by
  have hmk : ∀ w, (Instr.makeSlice 31 (.int .i64 0) (.int .i64 0)).run Try.prog w = .ok (.slice (some ⟨w.heap.size, 0, none⟩) 0 0) (w.alloc (.cells #[] 5)) := fun _ => by kernel_rfl
  have HC : Hid ((putCells u 0).toArray = #[]) := rfl
  go_enter Try.func30, Try.ntmps30
  go_wp2
  go_rounds 1
  go_ret
  exact ⟨rfl, by rw [HC.out]⟩

set_option maxHeartbeats 1000000 in
theorem put_1 (u : Int) (w : World) (h1 : 0 ≤ u) (h2 : u ≤ 18446744073709551615) :
    Calls Try.prog 30 #[.int .u64 u, .int .i64 1] w fun e w' => e = .returned (.slice (some ⟨w.heap.size, 0, none⟩) 1 1) ∧ w' = w.alloc (.cells (putCells u 1).toArray 5) := by
  have hmk : ∀ w, (Instr.makeSlice 31 (.int .i64 1) (.int .i64 1)).run Try.prog w = .ok (.slice (some ⟨w.heap.size, 0, none⟩) 1 1) (w.alloc (.cells #[.int .u8 0] 5)) := fun _ => by kernel_rfl
  have HC : Hid ((putCells u 1).toArray = #[.int .u8 (nthB u 0)]) := rfl
  go_enter Try.func30, Try.ntmps30
  go_wp2
  go_rounds 2
  go_ret
  exact ⟨rfl, by rw [HC.out, nth_0]⟩

set_option maxHeartbeats 1000000 in
theorem put_2 (u : Int) (w : World) (h1 : 0 ≤ u) (h2 : u ≤ 18446744073709551615) :
    Calls Try.prog 30 #[.int .u64 u, .int .i64 2] w fun e w' => e = .returned (.slice (some ⟨w.heap.size, 0, none⟩) 2 2) ∧ w' = w.alloc (.cells (putCells u 2).toArray 5) := by
  have hmk : ∀ w, (Instr.makeSlice 31 (.int .i64 2) (.int .i64 2)).run Try.prog w = .ok (.slice (some ⟨w.heap.size, 0, none⟩) 2 2) (w.alloc (.cells #[.int .u8 0, .int .u8 0] 5)) := fun _ => by kernel_rfl
  have HC : Hid ((putCells u 2).toArray = #[.int .u8 (nthB u 1), .int .u8 (nthB u 0)]) := rfl
  go_enter Try.func30, Try.ntmps30
  go_wp2
  go_rounds 3
  go_ret
  exact ⟨rfl, by rw [HC.out, nth_0, nth_1]⟩

set_option maxHeartbeats 1000000 in
theorem put_3 (u : Int) (w : World) (h1 : 0 ≤ u) (h2 : u ≤ 18446744073709551615) :
    Calls Try.prog 30 #[.int .u64 u, .int .i64 3] w fun e w' => e = .returned (.slice (some ⟨w.heap.size, 0, none⟩) 3 3) ∧ w' = w.alloc (.cells (putCells u 3).toArray 5) := by
  have hmk : ∀ w, (Instr.makeSlice 31 (.int .i64 3) (.int .i64 3)).run Try.prog w = .ok (.slice (some ⟨w.heap.size, 0, none⟩) 3 3) (w.alloc (.cells #[.int .u8 0, .int .u8 0, .int .u8 0] 5)) := fun _ => by kernel_rfl
  have HC : Hid ((putCells u 3).toArray = #[.int .u8 (nthB u 2), .int .u8 (nthB u 1), .int .u8 (nthB u 0)]) := rfl
  go_enter Try.func30, Try.ntmps30
  go_wp2
  go_rounds 4
  go_ret
  exact ⟨rfl, by rw [HC.out, nth_0, nth_1, nth_2]⟩

set_option maxHeartbeats 1000000 in
theorem put_4 (u : Int) (w : World) (h1 : 0 ≤ u) (h2 : u ≤ 18446744073709551615) :
    Calls Try.prog 30 #[.int .u64 u, .int .i64 4] w fun e w' => e = .returned (.slice (some ⟨w.heap.size, 0, none⟩) 4 4) ∧ w' = w.alloc (.cells (putCells u 4).toArray 5) := by
  have hmk : ∀ w, (Instr.makeSlice 31 (.int .i64 4) (.int .i64 4)).run Try.prog w = .ok (.slice (some ⟨w.heap.size, 0, none⟩) 4 4) (w.alloc (.cells #[.int .u8 0, .int .u8 0, .int .u8 0, .int .u8 0] 5)) := fun _ => by kernel_rfl
  have HC : Hid ((putCells u 4).toArray = #[.int .u8 (nthB u 3), .int .u8 (nthB u 2), .int .u8 (nthB u 1), .int .u8 (nthB u 0)]) := rfl
  go_enter Try.func30, Try.ntmps30
  go_wp2
  go_rounds 5
  go_ret
  exact ⟨rfl, by rw [HC.out, nth_0, nth_1, nth_2, nth_3]⟩

set_option maxHeartbeats 1000000 in
theorem put_5 (u : Int) (w : World) (h1 : 0 ≤ u) (h2 : u ≤ 18446744073709551615) :
    Calls Try.prog 30 #[.int .u64 u, .int .i64 5] w fun e w' => e = .returned (.slice (some ⟨w.heap.size, 0, none⟩) 5 5) ∧ w' = w.alloc (.cells (putCells u 5).toArray 5) := by
  have hmk : ∀ w, (Instr.makeSlice 31 (.int .i64 5) (.int .i64 5)).run Try.prog w = .ok (.slice (some ⟨w.heap.size, 0, none⟩) 5 5) (w.alloc (.cells #[.int .u8 0, .int .u8 0, .int .u8 0, .int .u8 0, .int .u8 0] 5)) := fun _ => by kernel_rfl
  have HC : Hid ((putCells u 5).toArray = #[.int .u8 (nthB u 4), .int .u8 (nthB u 3), .int .u8 (nthB u 2), .int .u8 (nthB u 1), .int .u8 (nthB u 0)]) := rfl
  go_enter Try.func30, Try.ntmps30
  go_wp2
  go_rounds 6
  go_ret
  exact ⟨rfl, by rw [HC.out, nth_0, nth_1, nth_2, nth_3, nth_4]⟩

set_option maxHeartbeats 1000000 in
theorem put_6 (u : Int) (w : World) (h1 : 0 ≤ u) (h2 : u ≤ 18446744073709551615) :
    Calls Try.prog 30 #[.int .u64 u, .int .i64 6] w fun e w' => e = .returned (.slice (some ⟨w.heap.size, 0, none⟩) 6 6) ∧ w' = w.alloc (.cells (putCells u 6).toArray 5) := by
  have hmk : ∀ w, (Instr.makeSlice 31 (.int .i64 6) (.int .i64 6)).run Try.prog w = .ok (.slice (some ⟨w.heap.size, 0, none⟩) 6 6) (w.alloc (.cells #[.int .u8 0, .int .u8 0, .int .u8 0, .int .u8 0, .int .u8 0, .int .u8 0] 5)) := fun _ => by kernel_rfl
  have HC : Hid ((putCells u 6).toArray = #[.int .u8 (nthB u 5), .int .u8 (nthB u 4), .int .u8 (nthB u 3), .int .u8 (nthB u 2), .int .u8 (nthB u 1), .int .u8 (nthB u 0)]) := rfl
  go_enter Try.func30, Try.ntmps30
  go_wp2
  go_rounds 7
  go_ret
  exact ⟨rfl, by rw [HC.out, nth_0, nth_1, nth_2, nth_3, nth_4, nth_5]⟩

set_option maxHeartbeats 1000000 in
theorem put_7 (u : Int) (w : World) (h1 : 0 ≤ u) (h2 : u ≤ 18446744073709551615) :
    Calls Try.prog 30 #[.int .u64 u, .int .i64 7] w fun e w' => e = .returned (.slice (some ⟨w.heap.size, 0, none⟩) 7 7) ∧ w' = w.alloc (.cells (putCells u 7).toArray 5) := by
  have hmk : ∀ w, (Instr.makeSlice 31 (.int .i64 7) (.int .i64 7)).run Try.prog w = .ok (.slice (some ⟨w.heap.size, 0, none⟩) 7 7) (w.alloc (.cells #[.int .u8 0, .int .u8 0, .int .u8 0, .int .u8 0, .int .u8 0, .int .u8 0, .int .u8 0] 5)) := fun _ => by kernel_rfl
  have HC : Hid ((putCells u 7).toArray = #[.int .u8 (nthB u 6), .int .u8 (nthB u 5), .int .u8 (nthB u 4), .int .u8 (nthB u 3), .int .u8 (nthB u 2), .int .u8 (nthB u 1), .int .u8 (nthB u 0)]) := rfl
  go_enter Try.func30, Try.ntmps30
  go_wp2
  go_rounds 8
  go_ret
  exact ⟨rfl, by rw [HC.out, nth_0, nth_1, nth_2, nth_3, nth_4, nth_5, nth_6]⟩

set_option maxHeartbeats 1000000 in
theorem put_8 (u : Int) (w : World) (h1 : 0 ≤ u) (h2 : u ≤ 18446744073709551615) :
    Calls Try.prog 30 #[.int .u64 u, .int .i64 8] w fun e w' => e = .returned (.slice (some ⟨w.heap.size, 0, none⟩) 8 8) ∧ w' = w.alloc (.cells (putCells u 8).toArray 5) := by
  have hmk : ∀ w, (Instr.makeSlice 31 (.int .i64 8) (.int .i64 8)).run Try.prog w = .ok (.slice (some ⟨w.heap.size, 0, none⟩) 8 8) (w.alloc (.cells #[.int .u8 0, .int .u8 0, .int .u8 0, .int .u8 0, .int .u8 0, .int .u8 0, .int .u8 0, .int .u8 0] 5)) := fun _ => by kernel_rfl
  have HC : Hid ((putCells u 8).toArray = #[.int .u8 (nthB u 7), .int .u8 (nthB u 6), .int .u8 (nthB u 5), .int .u8 (nthB u 4), .int .u8 (nthB u 3), .int .u8 (nthB u 2), .int .u8 (nthB u 1), .int .u8 (nthB u 0)]) := rfl
  go_enter Try.func30, Try.ntmps30
  go_wp2
  go_rounds 9
  go_ret
  exact ⟨rfl, by rw [HC.out, nth_0, nth_1, nth_2, nth_3, nth_4, nth_5, nth_6, nth_7 u h1 h2]⟩

set_option maxHeartbeats 400000 in
theorem put_none (u size : Int) (w : World) (h : size < 0 ∨ 8 < size) :
    Calls Try.prog 30 #[.int .u64 u, .int .i64 size] w fun e w' => e = .returned (.slice none 0 0) ∧ w' = w := by
  rcases h with h | h
  · go_enter Try.func30, Try.ntmps30
    go_wp2
    go_ret
    exact ⟨rfl, rfl⟩
  · have h' : ¬ size < 0 := by omega
    go_enter Try.func30, Try.ntmps30
    go_wp2
    go_ret
    exact ⟨rfl, rfl⟩

theorem put_any (u : Int) (n : Nat) (w : World) (h1 : 0 ≤ u) (h2 : u ≤ 18446744073709551615) (hn : n ≤ 8) :
    Calls Try.prog 30 #[.int .u64 u, .int .i64 n] w fun e w' => e = .returned (.slice (some ⟨w.heap.size, 0, none⟩) n n) ∧ w' = w.alloc (.cells (putCells u n).toArray 5) := by
  have hc : n = 0 ∨ n = 1 ∨ n = 2 ∨ n = 3 ∨ n = 4 ∨ n = 5 ∨ n = 6 ∨ n = 7 ∨ n = 8 := by omega
  rcases hc with rfl | rfl | rfl | rfl | rfl | rfl | rfl | rfl | rfl
  · exact put_0 u w h1 h2
  · exact put_1 u w h1 h2
  · exact put_2 u w h1 h2
  · exact put_3 u w h1 h2
  · exact put_4 u w h1 h2
  · exact put_5 u w h1 h2
  · exact put_6 u w h1 h2
  · exact put_7 u w h1 h2
  · exact put_8 u w h1 h2

end Go.Proofs.Ytfihjhcjkgpgfaa
