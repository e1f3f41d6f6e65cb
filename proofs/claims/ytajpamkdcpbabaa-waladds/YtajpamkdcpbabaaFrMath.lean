/- Frames in plain lists: a text's frame, the text that stands at the beginning of bytes, the texts one behind the other; there and back. No program is in sight. -/
import Derived.Test.YtajpamkdcpbabaaCrcWalks
import Derived.Test.YtajpamkdcpbabaaNumOfMath
namespace Go.Proofs.Ytajpamkdcpbabaa
open Go.RowKit NumMath
set_option linter.unusedVariables false

/-- all of them are bytes -/
def AreB (xs : List Int) : Prop := ∀ c ∈ xs, 0 ≤ c ∧ c < 256

theorem AreB.app {xs ys : List Int} (h : AreB xs) (k : AreB ys) : AreB (xs ++ ys) := fun c hc => by
  rcases List.mem_append.1 hc with hc | hc
  · exact h c hc
  · exact k c hc

theorem AreB.take {xs : List Int} (h : AreB xs) (n : Nat) : AreB (xs.take n) := fun c hc => h c (List.mem_of_mem_take hc)
theorem AreB.drop {xs : List Int} (h : AreB xs) (n : Nat) : AreB (xs.drop n) := fun c hc => h c (List.mem_of_mem_drop hc)
theorem areB_put (u : Int) (n : Nat) : AreB (putL u n) := putL_range u n

/-- a text's frame -/
def frL (t : List Int) : List Int := putL (t.length : Int) 4 ++ (putL (crcSumI (putL (t.length : Int) 4 ++ t)) 4 ++ t)

theorem frL_length (t : List Int) : (frL t).length = 8 + t.length := by
  unfold frL
  rw [List.length_append, List.length_append, putL_length, putL_length]
  omega

theorem frL_are {t : List Int} (h : AreB t) : AreB (frL t) := (areB_put _ _).app ((areB_put _ _).app h)

/-- the text at the beginning -/
def unfr (bs : List Int) : Option (List Int) :=
  if bs.length < 8 then none
  else if 65536 < ofV (bs.take 4) ∨ (bs.length : Int) < 8 + ofV (bs.take 4) then none
  else if ofV ((bs.drop 4).take 4) = crcSumI (bs.take 4 ++ (bs.drop 8).take (ofV (bs.take 4)).toNat) then some ((bs.drop 8).take (ofV (bs.take 4)).toNat)
  else none

/-- four bytes and their number -/
theorem put_of4 (xs : List Int) (hl : xs.length = 4) (h : AreB xs) : putL (ofV xs) 4 = xs := by
  match xs, hl with
  | [a, b, c, d], _ =>
    have ha := h a (by simp)
    have hb := h b (by simp)
    have hc := h c (by simp)
    have hd := h d (by simp)
    have e : ofV [a, b, c, d] = ((a * 256 + b) * 256 + c) * 256 + d := by
      simp only [ofV, List.foldl_cons, List.foldl_nil, ofStep]
      omega
    rw [e]
    simp only [putL, nth_3, nth_2, nth_1, nth_0, List.cons.injEq, and_true]
    omega

theorem of_put4 (u : Int) (h1 : 0 ≤ u) (h2 : u < 4294967296) : ofV (putL u 4) = u := by
  rw [ofV_put u 4 (by decide), show (256 : Int) ^ 4 = 4294967296 by decide]
  omega

theorem fr_take4 (t r : List Int) : (frL t ++ r).take 4 = putL (t.length : Int) 4 := by
  unfold frL
  rw [List.append_assoc, List.take_append_of_le_length (by rw [putL_length]; omega), List.take_of_length_le (by rw [putL_length]; omega)]

theorem fr_drop4 (t r : List Int) : (frL t ++ r).drop 4 = putL (crcSumI (putL (t.length : Int) 4 ++ t)) 4 ++ (t ++ r) := by
  unfold frL
  rw [List.append_assoc, List.drop_append_of_le_length (by rw [putL_length]; omega), List.drop_of_length_le (by rw [putL_length]; omega), List.nil_append, List.append_assoc]

theorem fr_mid (t r : List Int) : ((frL t ++ r).drop 4).take 4 = putL (crcSumI (putL (t.length : Int) 4 ++ t)) 4 := by
  rw [fr_drop4, List.take_append_of_le_length (by rw [putL_length]; omega), List.take_of_length_le (by rw [putL_length]; omega)]

theorem fr_drop8 (t r : List Int) : (frL t ++ r).drop 8 = t ++ r := by
  rw [show 8 = 4 + 4 from rfl, ← List.drop_drop, fr_drop4, List.drop_append_of_le_length (by rw [putL_length]; omega), List.drop_of_length_le (by rw [putL_length]; omega), List.nil_append]

theorem unfr_fr (t r : List Int) (hl : t.length ≤ 65536) (h : AreB t) : unfr (frL t ++ r) = some t := by
  have hlen : (frL t ++ r).length = 8 + t.length + r.length := by rw [List.length_append, frL_length]
  have hn : ofV ((frL t ++ r).take 4) = (t.length : Int) := by rw [fr_take4, of_put4 _ (by omega) (by omega)]
  have hs := crcSumI_range (putL (t.length : Int) 4 ++ t) ((areB_put _ _).app h)
  unfold unfr
  rw [if_neg (by omega), hn, if_neg (by omega), fr_mid, of_put4 _ hs.1 hs.2, fr_take4, fr_drop8, Int.toNat_natCast, List.take_left, if_pos rfl]

theorem unfr_some {bs t : List Int} (h : AreB bs) (e : unfr bs = some t) : t.length ≤ 65536 ∧ bs = frL t ++ bs.drop (8 + t.length) ∧ AreB t ∧ 8 + t.length ≤ bs.length ∧ ofV (bs.take 4) = (t.length : Int) ∧ t = (bs.drop 8).take t.length := by
  unfold unfr at e
  split at e
  · cases e
  · rename_i h8
    split at e
    · cases e
    · rename_i hn
      split at e
      · rename_i hs
        have hr := ofV_range (bs.take 4)
        obtain ⟨n, hn0⟩ := Int.eq_ofNat_of_zero_le hr.1
        rw [hn0] at e hs hn
        rw [Int.toNat_natCast] at e hs
        have et := (Option.some.inj e).symm
        have hlt : t.length = n := by rw [et, List.length_take, List.length_drop]; omega
        have h4 : putL (ofV (bs.take 4)) 4 = bs.take 4 := put_of4 _ (by rw [List.length_take]; omega) (h.take 4)
        have h5 : putL (ofV ((bs.drop 4).take 4)) 4 = (bs.drop 4).take 4 := put_of4 _ (by rw [List.length_take, List.length_drop]; omega) ((h.drop 4).take 4)
        have hA : AreB t := by rw [et]; exact (h.drop 8).take n
        refine ⟨by omega, ?_, hA, by omega, by rw [hn0, hlt], by rw [hlt]; exact et⟩
        unfold frL
        rw [hlt]
        have h6 : putL (n : Int) 4 = bs.take 4 := by rw [← h4, hn0]
        rw [h6]
        have h7 : putL (crcSumI (bs.take 4 ++ t)) 4 = (bs.drop 4).take 4 := by rw [← h5, hs, et]
        rw [h7, List.append_assoc, List.append_assoc]
        have h9 : t ++ bs.drop (8 + n) = bs.drop 8 := by rw [et, ← List.drop_drop, List.take_append_drop]
        rw [h9]
        have h10 : (bs.drop 4).take 4 ++ bs.drop 8 = bs.drop 4 := by
          have := List.take_append_drop 4 (bs.drop 4)
          rw [List.drop_drop] at this
          exact this
        rw [h10, List.take_append_drop]
      · cases e

/-- of a beginning of a frame nothing is told -/
theorem unfr_part (t : List Int) (m : Nat) (hl : t.length ≤ 65536) (h : AreB t) (hm : m < 8 + t.length) : unfr ((frL t).take m) = none := by
  match hu : unfr ((frL t).take m) with
  | none => rfl
  | some t' =>
    exfalso
    obtain ⟨h1, h2, h3, h4, h5, h6⟩ := unfr_some ((frL_are h).take m) hu
    rw [List.length_take, frL_length] at h4
    have e : ((frL t).take m).take 4 = putL (t.length : Int) 4 := by
      rw [List.take_take, Nat.min_eq_left (by omega)]
      have := fr_take4 t []
      rwa [List.append_nil] at this
    rw [e, of_put4 _ (by omega) (by omega)] at h5
    omega

/-- frames one behind the other -/
def flat (L : List (List Int)) : List Int := L.flatMap frL

theorem flat_nil : flat [] = [] := rfl
theorem flat_cons (t : List Int) (L : List (List Int)) : flat (t :: L) = frL t ++ flat L := rfl
theorem flat_app (L M : List (List Int)) : flat (L ++ M) = flat L ++ flat M := List.flatMap_append
theorem flat_snoc (L : List (List Int)) (t : List Int) : flat (L ++ [t]) = flat L ++ frL t := by rw [flat_app, flat_cons, flat_nil, List.append_nil]

/-- texts that may be framed -/
def Texts (L : List (List Int)) : Prop := ∀ t ∈ L, t.length ≤ 65536 ∧ AreB t

theorem Texts.snoc {L : List (List Int)} {t : List Int} (h : Texts L) (hl : t.length ≤ 65536) (ha : AreB t) : Texts (L ++ [t]) := fun x hx => by
  rcases List.mem_append.1 hx with hx | hx
  · exact h x hx
  · rw [List.mem_singleton.1 hx]; exact ⟨hl, ha⟩

theorem flat_are {L : List (List Int)} (h : Texts L) : AreB (flat L) := by
  induction L with
  | nil => intro c hc; simp [flat] at hc
  | cons t L ih => rw [flat_cons]; exact (frL_are (h t List.mem_cons_self).2).app (ih (fun x hx => h x (List.mem_cons_of_mem _ hx)))

/-- L are the texts that stand in bs, as far as they go -/
def AllOf (bs : List Int) (L : List (List Int)) : Prop := Texts L ∧ ∃ r, bs = flat L ++ r ∧ unfr r = none

theorem all_one : ∀ (L M : List (List Int)) (bs : List Int), AllOf bs L → AllOf bs M → L = M := by
  intro L
  induction L with
  | nil =>
    intro M bs h1 h2
    obtain ⟨_, r, e, hn⟩ := h1
    cases M with
    | nil => rfl
    | cons u M =>
      exfalso
      obtain ⟨hT, r', e', hn'⟩ := h2
      have hu := hT u List.mem_cons_self
      rw [flat_nil, List.nil_append] at e
      rw [← e, e', flat_cons, List.append_assoc, unfr_fr u _ hu.1 hu.2] at hn
      cases hn
  | cons t L ih =>
    intro M bs h1 h2
    obtain ⟨hT, r, e, hn⟩ := h1
    have ht := hT t List.mem_cons_self
    cases M with
    | nil =>
      exfalso
      obtain ⟨_, r', e', hn'⟩ := h2
      rw [flat_nil, List.nil_append] at e'
      rw [← e', e, flat_cons, List.append_assoc, unfr_fr t _ ht.1 ht.2] at hn'
      cases hn'
    | cons u M =>
      obtain ⟨hT', r', e', hn'⟩ := h2
      have hu := hT' u List.mem_cons_self
      have k1 := unfr_fr t (flat L ++ r) ht.1 ht.2
      have k2 := unfr_fr u (flat M ++ r') hu.1 hu.2
      rw [flat_cons, List.append_assoc] at e e'
      rw [← e] at k1
      rw [← e', k1] at k2
      have etu := Option.some.inj k2
      subst etu
      have e2 : flat L ++ r = flat M ++ r' := List.append_cancel_left (e.symm.trans e')
      rw [ih M (flat L ++ r) ⟨fun x hx => hT x (List.mem_cons_of_mem _ hx), r, rfl, hn⟩ ⟨fun x hx => hT' x (List.mem_cons_of_mem _ hx), r', e2, hn'⟩]

theorem all_step {bs : List Int} {L : List (List Int)} {t : List Int} {r : List Int} (hb : AreB bs) (hT : Texts L) (e : bs = flat L ++ r) (hu : unfr r = some t) : Texts (L ++ [t]) ∧ bs = flat (L ++ [t]) ++ r.drop (8 + t.length) := by
  have hr : AreB r := fun c hc => hb c (by rw [e]; exact List.mem_append_right _ hc)
  obtain ⟨h1, h2, h3, h4, h5, h6⟩ := unfr_some hr hu
  refine ⟨hT.snoc h1 h3, ?_⟩
  rw [flat_snoc, List.append_assoc, ← h2]
  exact e

theorem flat_take_le (L : List (List Int)) (k : Nat) : (flat (L.take k)).length ≤ (flat L).length := by
  have h := congrArg List.length (congrArg flat (List.take_append_drop k L))
  rw [flat_app, List.length_append] at h
  omega

/-- frames, cut off somewhere: those that are whole -/
theorem all_cut (L : List (List Int)) (cut k : Nat) (hT : Texts L) (hk : k ≤ L.length) (h1 : (flat (L.take k)).length ≤ cut) (h2 : k < L.length → cut < (flat (L.take (k + 1))).length) : AllOf ((flat L).take cut) (L.take k) := by
  refine ⟨fun t ht => hT t (List.mem_of_mem_take ht), ((flat (L.drop k)).take (cut - (flat (L.take k)).length)), ?_, ?_⟩
  · have e : flat L = flat (L.take k) ++ flat (L.drop k) := by rw [← flat_app, List.take_append_drop]
    rw [e, List.take_append, List.take_of_length_le h1]
  · by_cases hlt : k < L.length
    · have h3 := h2 hlt
      have e : L.drop k = L[k] :: L.drop (k + 1) := List.drop_eq_getElem_cons hlt
      have ht := hT L[k] (List.getElem_mem hlt)
      rw [List.take_succ_eq_append_getElem hlt, flat_snoc, List.length_append, frL_length] at h3
      rw [e, flat_cons, List.take_append_of_le_length (by rw [frL_length]; omega)]
      exact unfr_part _ _ ht.1 ht.2 (by omega)
    · rw [List.drop_of_length_le (by omega)]
      simp [flat, unfr]

/-- a frame of which one bit is turned is none with that text -/
theorem bit_none (t : List Int) (m : Nat) (u : Int) (hl : t.length ≤ 65536) (h : AreB t) (hm : m < 8 + t.length) (hu : 0 ≤ u ∧ u < 256) (hne : u ≠ (frL t).getD m 0) : unfr ((frL t).set m u) ≠ some t := by
  intro e
  have hA : AreB ((frL t).set m u) := fun c hc => by
    rcases List.mem_or_eq_of_mem_set hc with hc | rfl
    · exact frL_are h c hc
    · exact hu
  obtain ⟨h1, h2, h3, h4, h5, h6⟩ := unfr_some hA e
  have hlen : ((frL t).set m u).length = 8 + t.length := by rw [List.length_set, frL_length]
  rw [List.drop_of_length_le (by omega), List.append_nil] at h2
  have h7 := congrArg (fun l => l.getD m 0) h2
  rw [List.getD_eq_getElem?_getD, List.getElem?_set_self (by rw [frL_length]; exact hm)] at h7
  exact hne h7

end Go.Proofs.Ytajpamkdcpbabaa
