/- okey.Of of any bytes: the one list of plain values whose key they are, or none. -/
import Derived.Test.YtfihjhcjkgpgfaaOkeyFirst
import Derived.Test.YtfihjhcjkgpgfaaOkeyOwnV
namespace Go.Proofs.Ytfihjhcjkgpgfaa
open Go.RowKit NumMath
set_option linter.unusedVariables false

def sliceLen : Value → Nat
  | .slice _ n _ => n
  | _ => 0

theorem of_step (xs : List Int) (j size : Nat) (vs : List Val) (v : Val) (hj : j ≤ xs.length) (h : keyL vs = xs.take j) (hf : FirstOk (xs.drop j) v size) : keyL (vs ++ [v]) = xs.take (j + size) ∧ j + size ≤ xs.length := by
  obtain ⟨_, h2, _, h4⟩ := hf
  rw [List.length_drop] at h2
  refine ⟨?_, by omega⟩
  rw [keyL_append, h]
  show _ ++ keyL [v] = _
  rw [keyL_cons, h4]
  show _ ++ (_ ++ []) = _
  rw [List.append_nil, List.take_add]

theorem of_no (xs : List Int) (j : Nat) (vs : List Val) (hj : j < xs.length) (h : keyL vs = xs.take j) (hv : ∀ v ∈ vs, Plain v) (hf : FirstNo (xs.drop j)) : ∀ us, (∀ u ∈ us, Plain u) → ¬ keyL us = xs := by
  intro us hu he
  refine keyL_none vs us (xs.drop j) hv hu ?_ hf ?_
  · intro h0
    have := congrArg List.length h0
    rw [List.length_drop] at this
    simp at this
    omega
  · rw [h, he, List.take_append_drop]

theorem isBytes_drop {w : World} {g off len cap : Nat} {xs : List Int} (h : IsBytes w (some ⟨g, off, none⟩) len cap xs) (hB : BytesAt w g off xs) (hg : g < w.heap.size) (n : Nat) (hn : n ≤ len) :
    IsBytes w (if cap = n then some ⟨g, off, none⟩ else some ⟨g, off + n, none⟩) (len - n) (cap - n) (xs.drop n) := by
  obtain ⟨h1, h2, h3, h4, h5⟩ := h
  refine ⟨by rw [List.length_drop, h1], by omega, by omega, fun c hc => h4 c (List.mem_of_mem_drop hc), ?_⟩
  by_cases hc : cap = n
  · exact .inl (by omega)
  · rw [if_neg hc]
    exact .inr ⟨g, off + n, rfl, hg, bytesAt_drop hB n⟩

/-- what Of answers of the bytes xs -/
def OfPost (w : World) (xs : List Int) (e : Ending) (w' : World) : Prop :=
  ((∃ v vs, e = .returned (.tuple #[v, .int .i64 0]) ∧ OwnV w' w.heap.size v vs ∧ (∀ x ∈ vs, Plain x) ∧ keyL vs = xs) ∨ (e = .returned (.tuple #[.slice none 0 0, .int .i64 20]) ∧ ∀ us, (∀ u ∈ us, Plain u) → ¬ keyL us = xs)) ∧ Below w.heap.size w w'

set_option maxHeartbeats 2000000 in
theorem okof_any (a : Option Addr) (len cap : Nat) (xs : List Int) (w : World) (h : IsBytes w a len cap xs) (hbig : len ≤ 1000000000) :
    Calls Try.prog 15 #[.slice a len cap] w (OfPost w xs) := by
  have HV := hide h
  obtain ⟨hl, hlc, hm, -, -⟩ := h
  have HL : Hid (xs.length = len) := hl
  clear hl
  unfold maxLen at hm
  go_enter Try.func15, Try.ntmps15
  go_wp2
  go_loopw [0, 4] (fun b l wr => ∃ a' len' cap' j vs, b = .slice a' len' cap' ∧ j ≤ len ∧ len' = len - j ∧ IsBytes w a' len' cap' (xs.drop j) ∧ OwnV wr w.heap.size l vs ∧ (∀ x ∈ vs, Plain x) ∧ keyL vs = xs.take j ∧ vs.length ≤ j ∧ Below w.heap.size w wr) (fun b _ _ => sliceLen b)
  case atStart => exact ⟨a, len, cap, 0, [], rfl, Nat.zero_le _, by omega, by rw [List.drop_zero]; exact HV.out, ownV_nil _ _, by simp, rfl, Nat.le_refl _, Below.refl _ _⟩
  case round =>
    obtain ⟨a', len', cap', j, vs, rfl, hj, hl', hB', hown, hpl, hkey, hvl, hb⟩ := hrel
    have hsz := hb.size
    have HB' := hide hB'
    have HO := hide hown
    have HPl := hide hpl
    have HK := hide hkey
    obtain ⟨-, hlc', hm', -, -⟩ := hB'
    clear hown hpl hkey
    have HE := hide hl'
    by_cases h0 : len' = 0
    · subst h0
      clear hl'
      go_wp2
      go_ret2
      refine ⟨.inl ⟨_, vs, rfl, HO.out, HPl.out, ?_⟩, hb⟩
      have := HE.out
      have h3 := HL.out
      rw [HK.out, List.take_of_length_le (by omega)]
    · have hpos : 0 < len' := by omega
      obtain ⟨g, off, rfl, hg, hBt⟩ := HB'.out.at hpos
      have hx : (xs.drop j).length = len' := HB'.out.1
      have HC := hide (first_any g off len' cap' (xs.drop j) wr hx hlc' hm' (hBt.below hb hg) HB'.out.2.2.2.1 (by omega) (by omega) hpos)
      have HBt := hide hBt
      have hj' : j < xs.length := by rw [HL.out]; omega
      have HX := hide hx
      have HJ := hide hj'
      clear hx hBt hl' hj'
      unfold maxLen at hm'
      go_wp2_with (first
        | (go_at_call 27; go_must (refine HC.out.mono ?_); rintro e w2 ⟨⟨vk, vn, vs2⟩, size, rfl, hres, hb2⟩; unfold Val.v; have hb2' := hb.trans (hb2.mono hsz); have hsz2 := hb2'.size; have HO2 := hide (HO.out.keep hb2); clear hb2; rcases hres with hok | ⟨hs0, hno⟩ <;> first | (have HOk := hide hok; have hs0 : (((size : Nat) : Int) == 0) = false := (by have := hok.1; simp; omega); have hs1 : size ≤ len' := (by have := hok.2.1; have := HX.out; omega); clear hok) | (have HNo := hide hno; subst hs0; clear hno))
        | (at_builtin; go_must (refine wp_appV _ rfl (.tmp 17) (.tmp 19) rfl w.heap.size _ _ rfl ((HO2.out.alloc _).alloc _) _ 0 1 1 [⟨vk, vn, vs2⟩] rfl rfl (cellsV_new _ ⟨vk, vn, vs2⟩ _ (by simp)) (by simp only [List.length_singleton]; omega) (by simp; omega) ?_); intro v3 w3 hown3 hg3 hb3; have HO3 := hide hown3; have hb3' := ((hb2'.alloc hsz2 _).alloc (by simp; omega) _).trans hb3; clear hown3 hg3 hb3))
      · go_roundw
        case rel =>
          have hs := of_step xs j size vs ⟨vk, vn, vs2⟩ (Nat.le_of_lt HJ.out) HK.out HOk.out
          have hs2 := hs.2
          have hL := HL.out
          have hE := HE.out
          have hp := HOk.out.1
          refine ⟨_, _, _, j + size, vs ++ [⟨vk, vn, vs2⟩], rfl, by omega, by omega, ?_, HO3.out, ?_, hs.1, by rw [List.length_append, List.length_singleton]; omega, hb3'⟩
          · rw [← List.drop_drop]
            exact isBytes_drop HB'.out HBt.out hg size hs1
          · intro x hx
            rcases List.mem_append.1 hx with hx | hx
            · exact HPl.out x hx
            · rw [List.mem_singleton.1 hx]; exact HOk.out.2.2.1
        case measure => have hp := HOk.out.1; simp [sliceLen]; omega
      · go_ret2
        exact ⟨.inr ⟨rfl, of_no xs j vs HJ.out HK.out HPl.out HNo.out⟩, hb2'.alloc hsz2 _⟩

end Go.Proofs.Ytfihjhcjkgpgfaa
