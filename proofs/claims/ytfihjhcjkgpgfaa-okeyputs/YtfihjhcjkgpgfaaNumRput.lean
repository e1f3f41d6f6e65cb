/- What the reference's Put answers: a slice of its own that holds the lowest n bytes, the highest ahead. -/
import Derived.Test.YtfihjhcjkgpgfaaNumKit
import Derived.Maps.AppendAt
import Derived.Laws.AppendOwnNone
import Derived.Deep.AppendLies
namespace Go.Proofs.Ytfihjhcjkgpgfaa
open Go.RowKit NumMath
set_option linter.unusedVariables false

theorem hide {p : Prop} (h : p) : Hid p := h

theorem one_made (w : World) (B : Nat) (c : Int) (hB : B ≤ w.heap.size) :
    (w.alloc (.cells #[.int .u8 c] 5)).ownsRow B 5 1 (.slice (some ⟨w.heap.size, 0, none⟩) 1 1) 1 [.int .u8 c] :=
  ⟨by simp, .inr ⟨w.heap.size, 1, #[.int .u8 c], rfl, hB, heap_alloc_new w _, Nat.le_refl _, by unfold maxLen; omega, rfl, rfl⟩⟩

theorem div_step (u : Int) (k : Nat) : u / 256 ^ k / 256 = u / 256 ^ (k + 1) := by
  rw [Int.pow_succ, Int.ediv_ediv_of_nonneg (Int.le_of_lt (Int.pow_pos (by decide)))]

theorem div_range (u : Int) (k : Nat) (h1 : 0 ≤ u) (h2 : u ≤ 18446744073709551615) : 0 ≤ u / 256 ^ k ∧ u / 256 ^ k ≤ 18446744073709551615 := by
  have hp : (0 : Int) < 256 ^ k := Int.pow_pos (by decide)
  exact ⟨Int.ediv_nonneg h1 (Int.le_of_lt hp), Int.le_trans (Int.ediv_le_self _ h1) h2⟩

set_option maxHeartbeats 1000000 in
theorem rput_any (u : Int) (n : Nat) (w : World) (h1 : 0 ≤ u) (h2 : u ≤ 18446744073709551615) (hn : n ≤ 8) :
    Calls Try.prog 32 #[.int .u64 u, .int .i64 n] w fun e w' => ∃ v, e = .returned v ∧ w'.ownsRow w.heap.size 5 1 v n ((putL u n).map (Value.int .u8)) ∧ Below w.heap.size w w' ∧ (n = 0 → v = .slice none 0 0) := by
  have n0 : ¬ (n : Int) < 0 := by omega
  have n8 : ¬ (8 : Int) < (n : Int) := by omega
  go_enter Try.func32, Try.ntmps32
  go_wp2
  go_loopw [0, 5, 6] (fun x v i wr => ∃ k : Nat, k ≤ n ∧ i = .int .i64 k ∧ x = .int .u64 (u / 256 ^ k) ∧ wr.ownsRow w.heap.size 5 1 v k ((putL u k).map (Value.int .u8)) ∧ Below w.heap.size w wr ∧ (k = 0 → v = .slice none 0 0)) (fun _ _ i _ => n - (intOf i).toNat)
  case atStart => exact ⟨0, Nat.zero_le _, rfl, by simp, World.ownsRow_nil _ _ _ _, Below.refl _ _, fun _ => rfl⟩
  case round =>
    obtain ⟨k, hk, rfl, rfl, hown, hb, hnil⟩ := hrel
    obtain ⟨d1, d2⟩ := div_range u k h1 h2
    have hsz := hb.size
    have HS : Hid (u / 256 ^ k / 256 = u / 256 ^ (k + 1)) := div_step u k
    have HN : Hid (nthB u k = u / 256 ^ k % 256) := rfl
    generalize u / 256 ^ k = x at *
    by_cases hlt : k < n
    · have hlt' : (k : Int) < (n : Int) := by omega
      by_cases k0 : k = 0
      · subst k0
        have hv := hnil rfl
        subst hv
        have hm := one_made wr w.heap.size (x % 256) hsz
        go_wp2_with (first | (at_builtin; refine wpList_append_own_none rfl _ _ 31 rfl w.heap.size 5 _ 1 Try.underlying31 rfl _ 1 [.int .u8 (x % 256)] rfl hm rfl ?_))
        go_roundw
        case rel => exact ⟨1, by omega, rfl, by rw [HS.out], by show World.ownsRow _ _ _ _ _ _ [Value.int .u8 (nthB u 0)]; rw [HN.out]; exact hm, hb.alloc hsz _, by omega⟩
        case measure => simp [intOf]; omega
      · obtain ⟨g, cap, hv, hg1, hg2⟩ := hown.form (by omega)
        subst hv
        have hm := one_made wr w.heap.size (x % 256) hsz
        have hnews : ∀ j u', ((putL u k).map (Value.int .u8))[j]? = some u' → (wr.alloc (.cells #[.int .u8 (x % 256)] 5)).cell? ((⟨g, 0, none⟩ : Addr).add j) = some u' := (hown.alloc _).cells rfl
        have h1c : ∀ u' ∈ (putL u k).map (Value.int .u8), u'.oneCell' = true := by
          intro u' hu
          obtain ⟨c, _, rfl⟩ := List.mem_map.1 hu
          rfl
        have HH := hide hnews
        have H1 := hide h1c
        clear hnews h1c hnil
        go_wp2_with (first | (at_builtin; go_must (refine wpList_append_own_at _ rfl _ _ 31 rfl w.heap.size 5 _ _ 1 1 Try.underlying31 rfl rfl rfl rfl rfl (by omega) _ 1 [.int .u8 (x % 256)] rfl hm ⟨g, 0, none⟩ k cap ((putL u k).map (Value.int .u8)) rfl (by simp [putL_length]) HH.out H1.out (by unfold maxLen; omega) (by omega) (by simp; omega) ?_); intro v' w1 hown' hgrow hnl hat))
        go_roundw
        case rel =>
          refine ⟨k + 1, by omega, by go_num, by rw [HS.out], ?_, ?_, by omega⟩
          · show World.ownsRow _ _ _ _ _ _ (Value.int .u8 (nthB u k) :: (putL u k).map (Value.int .u8))
            rw [HN.out, Nat.add_comm k 1]
            exact hown'
          · exact (hb.alloc hsz _).grown hgrow (by simp; omega) (by intro j hj; have hj2 : wr.heap.size = j := Option.some.inj hj; omega)
        case measure => simp [intOf]; omega
    · have hlt' : ¬ (k : Int) < (n : Int) := by omega
      have hkn : k = n := by omega
      subst hkn
      go_wp2
      go_ret
      exact ⟨_, rfl, hown, hb, hnil⟩

end Go.Proofs.Ytfihjhcjkgpgfaa
