/- Bytes in memory, cut by indexes; cloned; made. -/
import Derived.Test.YtodmieehdleohaaByt
import Derived.Laws.MakeOwn
import Derived.Laws.Slices
namespace Go.Proofs.Ytodmieehdleohaa
open Go.RowKit NumMath
set_option linter.unusedVariables false
set_option maxRecDepth 100000

theorem isB_part {w : World} {g off len cap : Nat} {xs : List Int} (h : IsBytes w (some ⟨g, off, none⟩) len cap xs) (hg : g < w.heap.size) (hB : BytesAt w g off xs) (lo m c : Nat) (h1 : lo + m ≤ len) (h2 : m ≤ c) (h3 : c ≤ maxLen) :
    IsBytes w (some ⟨g, off + lo, none⟩) m c ((xs.drop lo).take m) := by
  obtain ⟨e1, e2, e3, e4, e5⟩ := h
  refine ⟨by rw [List.length_take, List.length_drop]; omega, h2, h3, fun c hc => e4 c (List.mem_of_mem_drop (List.mem_of_mem_take hc)), .inr ⟨g, off + lo, rfl, hg, ?_⟩⟩
  exact bytesAt_take (bytesAt_drop hB lo) m

theorem isB_head {w : World} {g off len cap : Nat} {xs : List Int} (h : IsBytes w (some ⟨g, off, none⟩) len cap xs) (hg : g < w.heap.size) (hB : BytesAt w g off xs) (m c : Nat) (h1 : m ≤ len) (h2 : m ≤ c) (h3 : c ≤ maxLen) :
    IsBytes w (some ⟨g, off, none⟩) m c (xs.take m) := by
  have := isB_part h hg hB 0 m c (by omega) h2 h3
  simpa using this

theorem isB_none (w : World) (a : Option Addr) (cap : Nat) (h : cap ≤ maxLen) : IsBytes w a 0 cap [] := ⟨rfl, Nat.zero_le _, h, by simp, .inl rfl⟩

/-- bytes, cut by three indexes: where they lie then, and what they are -/
theorem isB_cut3 {w : World} {a : Option Addr} {len cap : Nat} {xs : List Int} (h : IsBytes w a len cap xs) (l k c : Nat) (h1 : l + k ≤ len) (h2 : k ≤ c) (h3 : l + c ≤ cap) (il ih im : Int) (el : il = (l : Int)) (eh : ih = ((l + k : Nat) : Int)) (em : im = ((l + c : Nat) : Int)) :
    ∃ b, (∀ W, (Instr.sliceAt 35 (.slice a len cap) (some (.int .i64 il)) (some (.int .i64 ih)) (some (.int .i64 im))).run Try.prog W = .ok (.slice b k c) W) ∧ IsBytes w b k c ((xs.drop l).take k) := by
  subst el eh em
  refine ⟨if l + c = l then a else a.map (·.add (l * 1)), fun W => ?_, ?_⟩
  · rw [run_sliceAt_slice W 35 _ _ _ _ Try.underlying35, run_slice_lhm W 35 a len cap Try.underlying35 _ _ _ _ _ _ (by omega) (by omega) (by omega) (by omega)]
    have hs : (sizeOf (Try.prog.elem 35)).run Try.prog W = .ok 1 W := by
      obtain ⟨i0, hi, _, hz1, _⟩ := info_parts infoU8
      have he : Try.prog.elem 35 = 5 := by kernel_rfl
      rw [he]
      simp [sizeOf, typeInfo, hi, hz1]
    rw [hs]
    simp only [Result.andThen_ok, sliced, Int.toNat_natCast]
    congr 2 <;> omega
  · have hcap := h.2.2.1
    refine ⟨by rw [List.length_take, List.length_drop, h.1]; omega, h2, by omega, fun x hx => h.2.2.2.1 x (List.mem_of_mem_drop (List.mem_of_mem_take hx)), ?_⟩
    by_cases k0 : k = 0
    · exact .inl k0
    · right
      obtain ⟨g, off, rfl, hg, hB⟩ := h.at (k := 0) (by omega)
      refine ⟨g, off + l, ?_, hg, bytesAt_take (bytesAt_drop hB l) k⟩
      rw [if_neg (by omega)]
      simp [Addr.add]

/-- the size of a byte -/
theorem size_u8 (W : World) : (sizeOf (Try.prog.elem 35)).run Try.prog W = .ok 1 W := by
  obtain ⟨i0, hi, _, hz1, _⟩ := info_parts infoU8
  have he : Try.prog.elem 35 = 5 := by kernel_rfl
  rw [he]
  simp [sizeOf, typeInfo, hi, hz1]

/-- a slice of bytes that begins later in the same array -/
theorem isB_later {w : World} {a : Option Addr} {len cap : Nat} {xs : List Int} (h : IsBytes w a len cap xs) (l k c m : Nat) (h1 : l + k ≤ len) (h2 : k ≤ c) (h3 : l + c ≤ cap) (hm : m = l + c) : IsBytes w (if m = l then a else a.map (·.add (l * 1))) k c ((xs.drop l).take k) := by
  subst hm
  have hcap := h.2.2.1
  refine ⟨by rw [List.length_take, List.length_drop, h.1]; omega, h2, by omega, fun x hx => h.2.2.2.1 x (List.mem_of_mem_drop (List.mem_of_mem_take hx)), ?_⟩
  by_cases k0 : k = 0
  · exact .inl k0
  · right
    obtain ⟨g, off, rfl, hg, hB⟩ := h.at (k := 0) (by omega)
    refine ⟨g, off + l, ?_, hg, bytesAt_take (bytesAt_drop hB l) k⟩
    rw [if_neg (by omega)]
    simp [Addr.add]

/-- x[l:l+k] -/
theorem isB_cut2 {w : World} {a : Option Addr} {len cap : Nat} {xs : List Int} (h : IsBytes w a len cap xs) (l k c : Nat) (h1 : l + k ≤ len) (h3 : l + c = cap) (kl kh : IntKind) (il ih : Int) (el : il = (l : Int)) (eh : ih = ((l + k : Nat) : Int)) :
    ∃ b, (∀ W, (Instr.sliceAt 35 (.slice a len cap) (some (.int kl il)) (some (.int kh ih)) none).run Try.prog W = .ok (.slice b k c) W) ∧ IsBytes w b k c ((xs.drop l).take k) := by
  subst el eh
  have hlc := h.2.1
  refine ⟨_, fun W => ?_, isB_later h l k c cap h1 (by omega) (by omega) h3.symm⟩
  rw [run_sliceAt_slice W 35 _ _ _ _ Try.underlying35, run_slice_lh W 35 a len cap Try.underlying35 _ _ _ _ (by omega) (by omega) (by omega), size_u8]
  simp only [Result.andThen_ok, sliced, Int.toNat_natCast]
  congr 2 <;> omega

/-- x[l:l+k], whatever world the bytes are looked up in -/
theorem isB_cut2W {a : Option Addr} {len cap : Nat} {xs : List Int} (hlc : len ≤ cap) (l k c : Nat) (h1 : l + k ≤ len) (h3 : l + c = cap) (kl kh : IntKind) (il ih : Int) (el : il = (l : Int)) (eh : ih = ((l + k : Nat) : Int)) :
    ∃ b, (∀ W, (Instr.sliceAt 35 (.slice a len cap) (some (.int kl il)) (some (.int kh ih)) none).run Try.prog W = .ok (.slice b k c) W) ∧ ∀ w, IsBytes w a len cap xs → IsBytes w b k c ((xs.drop l).take k) := by
  subst el eh
  refine ⟨_, fun W => ?_, fun w h => isB_later h l k c cap h1 (by omega) (by omega) h3.symm⟩
  rw [run_sliceAt_slice W 35 _ _ _ _ Try.underlying35, run_slice_lh W 35 a len cap Try.underlying35 _ _ _ _ (by omega) (by omega) (by omega), size_u8]
  simp only [Result.andThen_ok, sliced, Int.toNat_natCast]
  congr 2 <;> omega

/-- x[:k] -/
theorem isB_cutTo {w : World} {a : Option Addr} {len cap : Nat} {xs : List Int} (h : IsBytes w a len cap xs) (k : Nat) (h1 : k ≤ len) (kh : IntKind) (ih : Int) (eh : ih = (k : Int)) :
    ∃ b, (∀ W, (Instr.sliceAt 35 (.slice a len cap) none (some (.int kh ih)) none).run Try.prog W = .ok (.slice b k cap) W) ∧ IsBytes w b k cap (xs.take k) := by
  subst eh
  have hlc := h.2.1
  refine ⟨_, fun W => ?_, isB_later h 0 k cap cap (by omega) (by omega) (by omega) (by omega)⟩
  rw [run_sliceAt_slice W 35 _ _ _ _ Try.underlying35, run_slice_h W 35 a len cap Try.underlying35 _ _ (by omega) (by omega), size_u8]
  simp only [Result.andThen_ok, sliced, Int.toNat_natCast]
  congr 2

/-- x[l:] -/
theorem isB_cutFrom {w : World} {a : Option Addr} {len cap : Nat} {xs : List Int} (h : IsBytes w a len cap xs) (l k c : Nat) (h1 : l + k = len) (h3 : l + c = cap) (kl : IntKind) (il : Int) (el : il = (l : Int)) :
    ∃ b, (∀ W, (Instr.sliceAt 35 (.slice a len cap) (some (.int kl il)) none none).run Try.prog W = .ok (.slice b k c) W) ∧ IsBytes w b k c (xs.drop l) := by
  subst el
  have hlc := h.2.1
  have hd : (xs.drop l).take k = xs.drop l := List.take_of_length_le (by rw [List.length_drop, h.1]; omega)
  refine ⟨_, fun W => ?_, by have := isB_later h l k c cap (by omega) (by omega) (by omega) h3.symm; rw [hd] at this; exact this⟩
  rw [run_sliceAt_slice W 35 _ _ _ _ Try.underlying35, run_slice_l W 35 a len cap Try.underlying35 _ _ (by omega) (by omega), size_u8]
  simp only [Result.andThen_ok, sliced, Int.toNat_natCast]
  congr 2 <;> omega

/-- x[l:], whatever world the bytes are looked up in -/
theorem isB_cutFromW {a : Option Addr} {len cap : Nat} {xs : List Int} (hlc : len ≤ cap) (l k c : Nat) (h1 : l + k = len) (h3 : l + c = cap) (kl : IntKind) (il : Int) (el : il = (l : Int)) :
    ∃ b, (∀ W, (Instr.sliceAt 35 (.slice a len cap) (some (.int kl il)) none none).run Try.prog W = .ok (.slice b k c) W) ∧ ∀ w, IsBytes w a len cap xs → IsBytes w b k c (xs.drop l) := by
  subst el
  refine ⟨_, fun W => ?_, fun w h => by
    have hd : (xs.drop l).take k = xs.drop l := List.take_of_length_le (by rw [List.length_drop, h.1]; omega)
    have := isB_later h l k c cap (by omega) (by omega) (by omega) h3.symm
    rw [hd] at this
    exact this⟩
  rw [run_sliceAt_slice W 35 _ _ _ _ Try.underlying35, run_slice_l W 35 a len cap Try.underlying35 _ _ (by omega) (by omega), size_u8]
  simp only [Result.andThen_ok, sliced, Int.toNat_natCast]
  congr 2 <;> omega

theorem clone_src (a : Option Addr) (len cap : Nat) (xs : List Int) (w : World) (hs : SrcB w a len xs) (hbig : len ≤ 1000000000) :
    Calls Try.prog 30 #[.slice a len cap] w fun e w' => ∃ v, e = .returned v ∧ OwnB w' w.heap.size v xs ∧ Below w.heap.size w w' := by
  have HS := hide hs
  cases a with
  | none =>
    have h0 : len = 0 := by
      rcases hs.2 with h | ⟨g, off, h, _⟩
      · exact h
      · cases h
    have hx : xs = [] := List.length_eq_zero_iff.1 (hs.1.trans h0)
    subst h0 hx
    clear hs
    have hnil : ∀ w, (binOp .eql 35 (.slice none 0 cap) (.slice none 0 0)).run Try.prog w = .ok (.bool true) w := fun w => Lib.run_eql_slice_nil w 35 5 none 0 cap 0 0 Try.underlying35
    go_enter Try.func30, Try.ntmps30
    go_wp2
    go_ret
    exact ⟨_, rfl, ownB_nil _ _, Below.refl _ _⟩
  | some x =>
    clear hs
    have hnil : ∀ w, (binOp .eql 35 (.slice (some x) len cap) (.slice none 0 0)).run Try.prog w = .ok (.bool false) w := fun w => Lib.run_eql_slice_nil w 35 5 (some x) len cap 0 0 Try.underlying35
    go_enter Try.func30, Try.ntmps30
    go_wp2_with (first
      | (at_builtin; go_must (refine wp_joinB _ rfl (.tmp 5) (.tmp 6) rfl w.heap.size _ [] rfl (ownB_empty w _ (Nat.le_refl _)) (some x) len cap xs rfl (HS.out.keep (new_below _ _)) (by rw [HS.out.1]; simp; omega) (by simp) ?_); intro v1 w1 hown1 hg1 hat1))
    go_ret
    refine ⟨v1, rfl, hown1, ?_⟩
    exact (new_below _ _).trans ((ownB_empty w _ (Nat.le_refl _)).grown hg1 (by simp))

theorem made_bytes (n : Nat) (hn : n ≤ 1000000000) : ∃ C : Array Value, C.size = n ∧ ∀ W, (Instr.makeSlice 35 (.int .i64 0) (.int .i64 (n : Int))).run Try.prog W = .ok (.slice (some ⟨W.heap.size, 0, none⟩) 0 n) (W.alloc (.cells C 5)) := by
  obtain ⟨i0, hi, hz0, hz1, hz2⟩ := info_parts infoU8
  refine ⟨madeCells (Value.int .u8 0).cells (n * 1), by rw [size_madeCells]; omega, fun W => ?_⟩
  have := run_make (P := Try.prog) W 35 5 i0 (.int .u8 0) Try.underlying35 hi hz0 .i64 .i64 0 (n : Int) (by omega) (by omega) (by rw [hz2]; omega) (by omega)
  rw [hz1, Int.toNat_natCast] at this
  exact this

theorem ownB_made (W : World) (base n : Nat) (C : Array Value) (hC : C.size = n) (hn : n ≤ 1000000000) (hb : base ≤ W.heap.size) : OwnB (W.alloc (.cells C 5)) base (.slice (some ⟨W.heap.size, 0, none⟩) 0 n) [] :=
  World.ownsRow_made W C n hb (by unfold maxLen; omega) (by omega)

end Go.Proofs.Ytodmieehdleohaa
