/- Keys of lists: one way to write each, read from the front; they stand as the lists do. Plain lists of numbers, no program in sight. -/
import Derived.Test.YtpaidekocooliaaOkeyPutC
import Derived.Test.YtpaidekocooliaaOkeyCmp
namespace Go.Proofs.Ytpaidekocooliaa
open Go.RowKit NumMath
set_option linter.unusedVariables false

def isB (c : Int) : Prop := 0 ≤ c ∧ c < 256

/-! texts: from the front -/

theorem esc_cases (c : Int) : (c = 0 ∧ esc c = [0, 255]) ∨ (c ≠ 0 ∧ esc c = [c]) := by
  by_cases h : c = 0
  · exact .inl ⟨h, by rw [h]; rfl⟩
  · exact .inr ⟨h, esc_other h⟩

/-- a text's end comes at no other place -/
theorem esc_front : ∀ (ts us A B : List Int), us.flatMap esc ++ 0 :: 1 :: A = ts.flatMap esc ++ B → ∃ us', us = ts ++ us' ∧ us'.flatMap esc ++ 0 :: 1 :: A = B := by
  intro ts
  induction ts with
  | nil => intro us A B h; exact ⟨us, rfl, h⟩
  | cons t ts ih =>
    intro us A B h
    cases us with
    | nil =>
      exfalso
      rw [List.flatMap_nil, List.nil_append, List.flatMap_cons] at h
      rcases esc_cases t with ⟨_, e⟩ | ⟨e0, e⟩
      · rw [e] at h; simp at h
      · rw [e] at h; simp at h; exact e0 h.1.symm
    | cons u us =>
      rw [List.flatMap_cons, List.flatMap_cons, List.append_assoc, List.append_assoc] at h
      have key : u = t ∧ us.flatMap esc ++ 0 :: 1 :: A = ts.flatMap esc ++ B := by
        rcases esc_cases t with ⟨t0, e⟩ | ⟨t0, e⟩ <;> rcases esc_cases u with ⟨u0, f⟩ | ⟨u0, f⟩ <;> rw [e, f] at h <;> simp at h
        · exact ⟨by omega, h⟩
        · exact absurd h.1 u0
        · exact absurd h.1.symm t0
        · exact h
      obtain ⟨us', e, hr⟩ := ih us A B key.2
      exact ⟨us', by rw [key.1, e]; rfl, hr⟩

theorem esc_end (us A B : List Int) (h : us.flatMap esc ++ 0 :: 1 :: A = 0 :: 1 :: B) : us = [] ∧ A = B := by
  cases us with
  | nil => simp at h; exact ⟨rfl, h⟩
  | cons u us =>
    exfalso
    rw [List.flatMap_cons] at h
    rcases esc_cases u with ⟨_, e⟩ | ⟨e0, e⟩
    · rw [e] at h; simp at h
    · rw [e] at h; simp at h; exact e0 h.1

/-- where it goes on otherwise there is no text -/
theorem esc_none (us A : List Int) (d : Int) (r : List Int) (h1 : d ≠ 1) (h2 : d ≠ 255) (h : us.flatMap esc ++ 0 :: 1 :: A = 0 :: d :: r) : False := by
  cases us with
  | nil => simp at h; exact h1 h.1.symm
  | cons u us =>
    rw [List.flatMap_cons] at h
    rcases esc_cases u with ⟨_, e⟩ | ⟨e0, e⟩
    · rw [e] at h; simp at h; exact h2 h.1.symm
    · rw [e] at h; simp at h; exact e0 h.1

theorem esc_short (us A r : List Int) (hr : r.length < 2) (h : us.flatMap esc ++ 0 :: 1 :: A = r) : False := by
  have := congrArg List.length h
  rw [List.length_append, List.length_cons, List.length_cons] at this
  omega

/-! bytes as numbers -/

theorem sb_range (s : ByteArray) : ∀ c ∈ sb s, isB c := by
  intro c hc
  unfold sb at hc
  obtain ⟨b, _, rfl⟩ := List.mem_map.1 hc
  have := b.toNat_lt
  unfold isB
  omega

theorem sb_strB (xs : List Int) (h : ∀ c ∈ xs, isB c) : sb (strB xs) = xs := by
  unfold sb
  show List.map _ (strOfNums xs).data.toList = xs
  rw [strOfNums_data, List.map_map]
  conv => rhs; rw [← List.map_id xs]
  refine List.map_congr_left fun c hc => ?_
  have hb := h c hc
  unfold isB at hb
  show ((UInt8.ofNat c.toNat).toNat : Int) = c
  rw [byte_of c hb]
  omega

theorem strB_sb (s : ByteArray) : strB (sb s) = s := by
  apply ByteArray.ext
  apply Array.toList_inj.1
  show (strOfNums (sb s)).data.toList = _
  rw [strOfNums_data]
  unfold sb
  rw [List.map_map]
  conv => rhs; rw [← List.map_id s.data.toList]
  refine List.map_congr_left fun c hc => ?_
  show UInt8.ofNat ((c.toNat : Int)).toNat = c
  rw [Int.toNat_natCast]
  exact UInt8.ofNat_toNat

theorem sb_inj {s t : ByteArray} (h : sb s = sb t) : s = t := by rw [← strB_sb s, ← strB_sb t, h]

theorem textL_strB (ts : List Int) (h : ∀ c ∈ ts, isB c) : textL (strB ts) = ts.flatMap esc := by unfold textL; rw [sb_strB ts h]

/-! values -/

/-- without what doesn't count: a Null, an Int or a Text, nothing beside -/
def Plain (v : Val) : Prop := v.fits ∧ ((v.k = 0 ∧ v.n = 0 ∧ v.s = ByteArray.empty) ∨ (v.k = 1 ∧ v.s = ByteArray.empty) ∨ (v.k = 2 ∧ v.n = 0))

theorem put8_inj {m n : Int} (h1 : -9223372036854775808 ≤ m ∧ m ≤ 9223372036854775807) (h2 : -9223372036854775808 ≤ n ∧ n ≤ 9223372036854775807) (h : putL (flipV m) 8 = putL (flipV n) 8) : m = n := by
  have h3 := put_inj (flipV m) (flipV n) 8 (by rw [h])
  have hm := flipV_range m h1.1 h1.2
  have hn := flipV_range n h2.1 h2.2
  rw [pow8 _ hm.1 hm.2, pow8 _ hn.1 hn.2] at h3
  unfold flipV at h3
  omega

theorem keyV_head (v : Val) (h : Plain v) : (v.k = 0 ∧ keyV v = [1]) ∨ (v.k = 1 ∧ keyV v = 2 :: putL (flipV v.n) 8) ∨ (v.k = 2 ∧ keyV v = 3 :: textL v.s ++ [0, 1]) := by
  rcases h.2 with ⟨h0, _⟩ | ⟨h0, _⟩ | ⟨h0, _⟩
  · exact .inl ⟨h0, keyV_null (by omega) (by omega)⟩
  · exact .inr (.inl ⟨h0, keyV_int h0⟩)
  · exact .inr (.inr ⟨h0, keyV_text h0⟩)

/-- one way to write a value, read from the front -/
theorem keyV_cancel (u v : Val) (A B : List Int) (hu : Plain u) (hv : Plain v) (h : keyV u ++ A = keyV v ++ B) : u = v ∧ A = B := by
  obtain ⟨⟨⟨_, _⟩, fu, _⟩, pu⟩ := hu
  obtain ⟨⟨⟨_, _⟩, fv, _⟩, pv⟩ := hv
  obtain ⟨uk, un, us⟩ := u
  obtain ⟨vk, vn, vs⟩ := v
  dsimp only at *
  rcases pu with ⟨rfl, rfl, rfl⟩ | ⟨rfl, rfl⟩ | ⟨rfl, rfl⟩ <;> rcases pv with ⟨rfl, rfl, rfl⟩ | ⟨rfl, rfl⟩ | ⟨rfl, rfl⟩
  · rw [keyV_null (by decide) (by decide)] at h
    simp at h; exact ⟨rfl, h⟩
  · rw [keyV_null (by decide) (by decide), keyV_int rfl] at h
    simp at h
  · rw [keyV_null (by decide) (by decide), keyV_text rfl] at h
    simp at h
  · rw [keyV_int rfl, keyV_null (by decide) (by decide)] at h
    simp at h
  · rw [keyV_int rfl, keyV_int rfl] at h
    simp only [List.cons_append, List.cons.injEq, true_and] at h
    have hl : (putL (flipV un) 8).length = (putL (flipV vn) 8).length := by rw [putL_length, putL_length]
    obtain ⟨h1, h2⟩ := List.append_inj h hl
    exact ⟨by rw [put8_inj fu fv h1], h2⟩
  · rw [keyV_int rfl, keyV_text rfl] at h
    simp at h
  · rw [keyV_text rfl, keyV_null (by decide) (by decide)] at h
    simp at h
  · rw [keyV_text rfl, keyV_int rfl] at h
    simp at h
  · rw [keyV_text rfl, keyV_text rfl] at h
    simp only [List.cons_append, List.append_assoc, List.cons.injEq, true_and, List.nil_append] at h
    unfold textL at h
    obtain ⟨us', e, hr⟩ := esc_front (sb vs) (sb us) A (0 :: 1 :: B) h
    obtain ⟨e2, e3⟩ := esc_end us' A B hr
    rw [e2, List.append_nil] at e
    exact ⟨by rw [sb_inj e], e3⟩

theorem keyL_cons (v : Val) (r : List Val) : keyL (v :: r) = keyV v ++ keyL r := List.flatMap_cons
theorem keyL_append (xs ys : List Val) : keyL (xs ++ ys) = keyL xs ++ keyL ys := List.flatMap_append

theorem keyV_pos (v : Val) : 0 < (keyV v).length := by
  unfold keyV
  split
  · simp
  · split <;> simp

/-- a key that begins as the key of vs is the key of vs and more -/
theorem keyL_front : ∀ (vs us : List Val) (B : List Int), (∀ v ∈ vs, Plain v) → (∀ u ∈ us, Plain u) → keyL us = keyL vs ++ B → ∃ us', us = vs ++ us' ∧ keyL us' = B := by
  intro vs
  induction vs with
  | nil => intro us B _ _ h; exact ⟨us, rfl, h⟩
  | cons v vs ih =>
    intro us B hv hu h
    rw [keyL_cons, List.append_assoc] at h
    cases us with
    | nil =>
      exfalso
      have := congrArg List.length h
      have hp := keyV_pos v
      rw [List.length_append] at this
      have h0 : (keyL []).length = 0 := rfl
      omega
    | cons u us =>
      rw [keyL_cons] at h
      obtain ⟨e1, e2⟩ := keyV_cancel u v _ _ (hu u List.mem_cons_self) (hv v List.mem_cons_self) h
      obtain ⟨us', e, hr⟩ := ih us B (fun x hx => hv x (List.mem_cons_of_mem _ hx)) (fun x hx => hu x (List.mem_cons_of_mem _ hx)) e2
      exact ⟨us', by rw [e1, e]; rfl, hr⟩

theorem keyL_inj {us vs : List Val} (hu : ∀ u ∈ us, Plain u) (hv : ∀ v ∈ vs, Plain v) (h : keyL us = keyL vs) : us = vs := by
  obtain ⟨us', e, hr⟩ := keyL_front vs us [] hv hu (by rw [List.append_nil]; exact h)
  cases us' with
  | nil => rw [e, List.append_nil]
  | cons u r =>
    exfalso
    rw [keyL_cons] at hr
    have := congrArg List.length hr
    have hp := keyV_pos u
    simp at this
    rw [this.1] at hp
    simp at hp

/-- what is not the beginning of a value is the end of no key -/
theorem keyL_none (vs us : List Val) (B : List Int) (hv : ∀ v ∈ vs, Plain v) (hu : ∀ u ∈ us, Plain u) (hB : B ≠ []) (hn : ∀ u, Plain u → ∀ C, keyV u ++ C = B → False) : ¬ keyL us = keyL vs ++ B := by
  intro h
  obtain ⟨us', e, hr⟩ := keyL_front vs us B hv hu h
  cases us' with
  | nil => exact hB hr.symm
  | cons u r =>
    rw [keyL_cons] at hr
    exact hn u (hu u (by rw [e]; simp)) _ hr

/-- a value without what doesn't count -/
def plainV (v : Val) : Val := if v.k = 1 then ⟨1, v.n, ByteArray.empty⟩ else if v.k = 2 then ⟨2, 0, v.s⟩ else ⟨0, 0, ByteArray.empty⟩

theorem plainV_plain (v : Val) (h : v.fits) : Plain (plainV v) := by
  obtain ⟨_, h2, h3⟩ := h
  unfold plainV
  split
  · exact ⟨⟨by dsimp only; omega, h2, by dsimp only; exact Nat.zero_le _⟩, .inr (.inl ⟨rfl, rfl⟩)⟩
  · split
    · exact ⟨⟨by dsimp only; omega, by dsimp only; omega, h3⟩, .inr (.inr ⟨rfl, rfl⟩)⟩
    · exact ⟨⟨by dsimp only; omega, by dsimp only; omega, by dsimp only; exact Nat.zero_le _⟩, .inl ⟨rfl, rfl, rfl⟩⟩

theorem keyV_plain (v : Val) : keyV (plainV v) = keyV v := by
  unfold plainV
  by_cases h1 : v.k = 1
  · rw [if_pos h1, keyV_int rfl, keyV_int h1]
  · rw [if_neg h1]
    by_cases h2 : v.k = 2
    · rw [if_pos h2, keyV_text rfl, keyV_text h2]
    · rw [if_neg h2, keyV_null h2 h1, keyV_null (by decide) (by decide)]

theorem keyL_plain (xs : List Val) : keyL (xs.map plainV) = keyL xs := by
  induction xs with
  | nil => rfl
  | cons v r ih => rw [List.map_cons, keyL_cons, keyL_cons, keyV_plain, ih]

theorem keyV_range (v : Val) : ∀ c ∈ keyV v, 0 ≤ c ∧ c < 256 := by
  have ht : ∀ s : ByteArray, ∀ c ∈ textL s, 0 ≤ c ∧ c < 256 := by
    intro s c hc
    unfold textL at hc
    rw [List.mem_flatMap] at hc
    obtain ⟨d, hd, hc⟩ := hc
    have hr := sb_range s d hd
    unfold isB at hr
    rcases esc_cases d with ⟨_, e⟩ | ⟨_, e⟩
    · rw [e] at hc; simp at hc; omega
    · rw [e] at hc; simp at hc; omega
  intro c hc
  unfold keyV at hc
  split at hc
  · simp at hc
    rcases hc with rfl | hc | rfl | rfl
    · omega
    · exact ht _ c hc
    · omega
    · omega
  · split at hc
    · simp at hc
      rcases hc with rfl | hc
      · omega
      · exact putL_range _ _ c hc
    · simp at hc
      omega

theorem keyL_range (xs : List Val) : ∀ c ∈ keyL xs, 0 ≤ c ∧ c < 256 := by
  intro c hc
  unfold keyL at hc
  rw [List.mem_flatMap] at hc
  obtain ⟨v, _, hv⟩ := hc
  exact keyV_range v c hv

end Go.Proofs.Ytpaidekocooliaa
