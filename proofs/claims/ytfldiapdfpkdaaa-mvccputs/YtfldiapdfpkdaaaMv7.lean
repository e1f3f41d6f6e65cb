/- The reference's Intents and Keys. -/
import Derived.Test.YtfldiapdfpkdaaaMv6
import Derived.Test.YtfldiapdfpkdaaaLyT
namespace Go.Proofs.Ytfldiapdfpkdaaa
open Go.RowKit NumMath Go.ChangeShapes Go.WideShapes Go.Deep
set_option linter.unusedVariables false
set_option maxRecDepth 100000

def MC.mb (m : MC) : MB := ⟨m.key, m.ka, m.kn, m.kc⟩

abbrev cellsC (m : MC) : Array Value := #[.slice m.ka m.kn m.kc, .slice m.va m.vn m.vc, .int .u64 m.it.v.ts, .int .u64 m.it.v.tx, .bool m.it.v.dd, .slice m.it.va m.it.vn m.it.vc, .slice m.it.ka m.it.kn m.it.kc]

theorem rangeC {w : World} {g o : Nat} {m : MC} (h : w.rangeAt g o (layC.cells m)) : w.cell? ⟨g, o, none⟩ = some (.slice m.ka m.kn m.kc) ∧ w.cell? ⟨g, o + 1, none⟩ = some (.slice m.va m.vn m.vc) ∧ w.cell? ⟨g, o + 2, none⟩ = some (.int .u64 m.it.v.ts) ∧ w.cell? ⟨g, o + 3, none⟩ = some (.int .u64 m.it.v.tx) ∧ w.cell? ⟨g, o + 4, none⟩ = some (.bool m.it.v.dd) ∧ w.cell? ⟨g, o + 5, none⟩ = some (.slice m.it.va m.it.vn m.it.vc) ∧ w.cell? ⟨g, o + 6, none⟩ = some (.slice m.it.ka m.it.kn m.it.kc) :=
  ⟨h 0 _ rfl, h 1 _ rfl, h 2 _ rfl, h 3 _ rfl, h 4 _ rfl, h 5 _ rfl, h 6 _ rfl⟩

theorem filter_succ {α : Type} (P : α → Bool) (l : List α) (k : Nat) (x : α) (h : l[k]? = some x) : (l.take (k + 1)).filter P = (l.take k).filter P ++ if P x = true then [x] else [] := by
  rw [List.take_add_one, h, List.filter_append]
  simp [List.filter_cons]

def isIt (txn : Int) (m : MC) : Bool := decide (txn ≠ 0 ∧ m.it.v.tx = txn)
def isKy (m : MC) : Bool := decide (m.vn > 0 ∨ m.it.v.tx ≠ 0)

set_option maxHeartbeats 4000000 in
theorem intents_any (F : Nat → Prop) (w0 w : World) (p : Nat) (cv : Value) (ms : List MC) (h : IsXs F w0 w p cv ms) (hf : ms.length ≤ 100000) (txn : Int) :
    Calls Try.prog 18 #[.pointer (some ⟨p, 0, none⟩), .int .u64 txn] w fun e w' => ∃ v, e = .returned v ∧ OwnY layT w' w.heap.size v ((ms.filter (isIt txn)).map MC.mb) ∧ Below w.heap.size w w' := by
  have H := hide h
  have c0 := h.c
  obtain ⟨ca, cn, cc, rfl⟩ := h.own.any3
  have hcn := h.own.len
  have hcc : (cc : Int) ≤ 9223372036854775807 := by have := hcn.2.2; unfold maxLen at this; omega
  clear h
  go_enter Try.func18, Try.ntmps18
  go_wp2
  go_loopg [5, 13] cn (fun gk v ix wr => ∃ k : Nat, gk = cn - k ∧ ix = .int .i64 k ∧ k ≤ cn ∧ OwnY layT wr w.heap.size v (((ms.take k).filter (isIt txn)).map MC.mb) ∧ Below w.heap.size w wr)
  case atStart => exact ⟨0, rfl, rfl, Nat.zero_le _, ownY_nil _ _, Below.refl _ _⟩
  case round =>
    obtain ⟨k, rfl, rfl, hk, hU, hB⟩ := hrel
    have HU := hide hU
    have HB := hide hB
    have hwr := hB.size
    obtain ⟨va, vn, vc, rfl⟩ := hU.any3
    clear hU hB
    by_cases hlt : k < cn
    · have hlt' : (k : Int) < (cn : Int) := by omega
      obtain ⟨m, hm⟩ : ∃ m, ms[k]? = some m := ⟨_, List.getElem?_eq_getElem (by omega)⟩
      obtain ⟨g, cap, e, hg, _, _, hr, _⟩ := (H.out.keep HB.out).at hm
      cases e
      obtain ⟨x0, x1, x2, x3, x4, x5, x6⟩ := rangeC hr
      have HT := hide (filter_succ (isIt txn) ms k m hm)
      have HK1 := hide (new_below wr (.cells (cellsC m) 52))
      have HK2 := hide (new_below (wr.alloc (.cells (cellsC m) 52)) (.cells #[.slice m.ka m.kn m.kc] 23))
      have HU1 := hide (HU.out.keep HK1.out)
      have HU2 := hide (HU1.out.keep HK2.out)
      have HS2 := hide (srcY_one (L := layT) _ m.mb (wr.heap.size + 1) (by simp) (rangeY_new (wr.alloc (.cells (cellsC m) 52)) (wr.heap.size + 1) #[.slice m.ka m.kn m.kc] 23 (by simp)))
      have HZ1 : Hid (w.heap.size ≤ (wr.alloc (.cells (cellsC m) 52)).heap.size) := by show _ ≤ _; simp; omega
      have HZ2 : Hid (w.heap.size ≤ ((wr.alloc (.cells (cellsC m) 52)).alloc (.cells #[.slice m.ka m.kn m.kc] 23)).heap.size) := by show _ ≤ _; simp; omega
      have HBg : Hid ((((ms.take k).filter (isIt txn)).map MC.mb).length + 1 ≤ 1000000000) := by
        show _ ≤ _
        rw [List.length_map]
        have := List.length_filter_le (isIt txn) (ms.take k)
        rw [List.length_take] at this
        omega
      by_cases h1 : txn = 0
      · have HP : Hid (isIt txn m = false) := by show _ = _; unfold isIt; simp [h1]
        have h1' : (txn != 0) = false := by simpa using h1
        clear h1
        go_wp2
        go_roundg (ms.length - (k + 1))
        case measure => omega
        case rel => exact ⟨k + 1, rfl, by go_num, by omega, by rw [HT.out, if_neg (by rw [HP.out]; simp), List.append_nil]; exact HU1.out, HB.out.trans (HK1.out.mono hwr)⟩
      · have h1' : (txn != 0) = true := by simpa using h1
        by_cases h2 : m.it.v.tx = txn
        · have HP : Hid (isIt txn m = true) := by show _ = _; unfold isIt; simp [h1, h2]
          have h2' : (m.it.v.tx == txn) = true := by simpa using h2
          clear h1 h2
          go_wp2_with (first
            | (at_builtin; refine wp_joinY layT _ rfl (.tmp 26) (.tmp 29) rfl w.heap.size _ (((ms.take k).filter (isIt txn)).map MC.mb) rfl HU2.out (some ⟨wr.heap.size + 1, 0, none⟩) 1 1 [m.mb] rfl HS2.out HBg.out HZ2.out ?_; intro v5 w5 hown5 hg5 hat5; have HO5 := hide hown5; have HB5 := hide ((HK1.out.mono hwr).trans ((HK2.out.mono HZ1.out).trans (HU2.out.grown hg5 HZ2.out))); obtain ⟨xa, xn, xc, rfl⟩ := hown5.any3; clear hown5 hg5 hat5))
          go_roundg (ms.length - (k + 1))
          case measure => omega
          case rel => exact ⟨k + 1, rfl, by go_num, by omega, by rw [HT.out, if_pos HP.out, List.map_append]; exact HO5.out, HB.out.trans HB5.out⟩
        · have HP : Hid (isIt txn m = false) := by show _ = _; unfold isIt; simp [h2]
          have h2' : (m.it.v.tx == txn) = false := by simpa using h2
          clear h1 h2
          go_wp2
          go_roundg (ms.length - (k + 1))
          case measure => omega
          case rel => exact ⟨k + 1, rfl, by go_num, by omega, by rw [HT.out, if_neg (by rw [HP.out]; simp), List.append_nil]; exact HU1.out, HB.out.trans (HK1.out.mono hwr)⟩
    · have hlt' : ¬ (k : Int) < (cn : Int) := by omega
      have ek : ms.take k = ms := List.take_of_length_le (by omega)
      rw [ek] at HU
      go_wp2
      go_ret
      exact ⟨_, rfl, HU.out, HB.out⟩

set_option maxHeartbeats 4000000 in
theorem keys_any (F : Nat → Prop) (w0 w : World) (p : Nat) (cv : Value) (ms : List MC) (h : IsXs F w0 w p cv ms) (hf : ms.length ≤ 100000) :
    Calls Try.prog 19 #[.pointer (some ⟨p, 0, none⟩)] w fun e w' => ∃ v, e = .returned v ∧ OwnY layT w' w.heap.size v ((ms.filter (isKy)).map MC.mb) ∧ Below w.heap.size w w' := by
  have H := hide h
  have c0 := h.c
  obtain ⟨ca, cn, cc, rfl⟩ := h.own.any3
  have hcn := h.own.len
  have hcc : (cc : Int) ≤ 9223372036854775807 := by have := hcn.2.2; unfold maxLen at this; omega
  clear h
  go_enter Try.func19, Try.ntmps19
  go_wp2
  go_loopg [3, 11] cn (fun gk v ix wr => ∃ k : Nat, gk = cn - k ∧ ix = .int .i64 k ∧ k ≤ cn ∧ OwnY layT wr w.heap.size v (((ms.take k).filter (isKy)).map MC.mb) ∧ Below w.heap.size w wr)
  case atStart => exact ⟨0, rfl, rfl, Nat.zero_le _, ownY_nil _ _, Below.refl _ _⟩
  case round =>
    obtain ⟨k, rfl, rfl, hk, hU, hB⟩ := hrel
    have HU := hide hU
    have HB := hide hB
    have hwr := hB.size
    obtain ⟨va, vn, vc, rfl⟩ := hU.any3
    clear hU hB
    by_cases hlt : k < cn
    · have hlt' : (k : Int) < (cn : Int) := by omega
      obtain ⟨m, hm⟩ : ∃ m, ms[k]? = some m := ⟨_, List.getElem?_eq_getElem (by omega)⟩
      obtain ⟨g, cap, e, hg, _, _, hr, _⟩ := (H.out.keep HB.out).at hm
      cases e
      obtain ⟨x0, x1, x2, x3, x4, x5, x6⟩ := rangeC hr
      have HT := hide (filter_succ (isKy) ms k m hm)
      have HK1 := hide (new_below wr (.cells (cellsC m) 52))
      have HK2 := hide (new_below (wr.alloc (.cells (cellsC m) 52)) (.cells #[.slice m.ka m.kn m.kc] 23))
      have HU1 := hide (HU.out.keep HK1.out)
      have HU2 := hide (HU1.out.keep HK2.out)
      have HS2 := hide (srcY_one (L := layT) _ m.mb (wr.heap.size + 1) (by simp) (rangeY_new (wr.alloc (.cells (cellsC m) 52)) (wr.heap.size + 1) #[.slice m.ka m.kn m.kc] 23 (by simp)))
      have HZ1 : Hid (w.heap.size ≤ (wr.alloc (.cells (cellsC m) 52)).heap.size) := by show _ ≤ _; simp; omega
      have HZ2 : Hid (w.heap.size ≤ ((wr.alloc (.cells (cellsC m) 52)).alloc (.cells #[.slice m.ka m.kn m.kc] 23)).heap.size) := by show _ ≤ _; simp; omega
      have HBg : Hid ((((ms.take k).filter (isKy)).map MC.mb).length + 1 ≤ 1000000000) := by
        show _ ≤ _
        rw [List.length_map]
        have := List.length_filter_le (isKy) (ms.take k)
        rw [List.length_take] at this
        omega
      by_cases h1 : m.vn > 0
      · have HP : Hid (isKy m = true) := by show _ = _; unfold isKy; simp [h1]
        have h1' : (0 : Int) < (m.vn : Int) := by omega
        go_wp2_with (first
          | (at_builtin; refine wp_joinY layT _ rfl (.tmp 25) (.tmp 28) rfl w.heap.size _ (((ms.take k).filter (isKy)).map MC.mb) rfl HU2.out (some ⟨wr.heap.size + 1, 0, none⟩) 1 1 [m.mb] rfl HS2.out HBg.out HZ2.out ?_; intro v5 w5 hown5 hg5 hat5; have HO5 := hide hown5; have HB5 := hide ((HK1.out.mono hwr).trans ((HK2.out.mono HZ1.out).trans (HU2.out.grown hg5 HZ2.out))); obtain ⟨xa, xn, xc, rfl⟩ := hown5.any3; clear hown5 hg5 hat5))
        go_roundg (ms.length - (k + 1))
        case measure => omega
        case rel => exact ⟨k + 1, rfl, by go_num, by omega, by rw [HT.out, if_pos HP.out, List.map_append]; exact HO5.out, HB.out.trans HB5.out⟩
      · have h1' : ¬ (0 : Int) < (m.vn : Int) := by omega
        by_cases h2 : m.it.v.tx = 0
        · have HP : Hid (isKy m = false) := by show _ = _; unfold isKy; simp [h1, h2]
          have h2' : (m.it.v.tx != 0) = false := by simpa using h2
          clear h2
          go_wp2
          go_roundg (ms.length - (k + 1))
          case measure => omega
          case rel => exact ⟨k + 1, rfl, by go_num, by omega, by rw [HT.out, if_neg (by rw [HP.out]; simp), List.append_nil]; exact HU1.out, HB.out.trans (HK1.out.mono hwr)⟩
        · have HP : Hid (isKy m = true) := by show _ = _; unfold isKy; simp [h2]
          have h2' : (m.it.v.tx != 0) = true := by simpa using h2
          clear h2
          go_wp2_with (first
            | (at_builtin; refine wp_joinY layT _ rfl (.tmp 25) (.tmp 28) rfl w.heap.size _ (((ms.take k).filter (isKy)).map MC.mb) rfl HU2.out (some ⟨wr.heap.size + 1, 0, none⟩) 1 1 [m.mb] rfl HS2.out HBg.out HZ2.out ?_; intro v5 w5 hown5 hg5 hat5; have HO5 := hide hown5; have HB5 := hide ((HK1.out.mono hwr).trans ((HK2.out.mono HZ1.out).trans (HU2.out.grown hg5 HZ2.out))); obtain ⟨xa, xn, xc, rfl⟩ := hown5.any3; clear hown5 hg5 hat5))
          go_roundg (ms.length - (k + 1))
          case measure => omega
          case rel => exact ⟨k + 1, rfl, by go_num, by omega, by rw [HT.out, if_pos HP.out, List.map_append]; exact HO5.out, HB.out.trans HB5.out⟩
    · have hlt' : ¬ (k : Int) < (cn : Int) := by omega
      have ek : ms.take k = ms := List.take_of_length_le (by omega)
      rw [ek] at HU
      go_wp2
      go_ret
      exact ⟨_, rfl, HU.out, HB.out⟩

end Go.Proofs.Ytfldiapdfpkdaaa
