/- The deeds, one beside the other: what each call does to both. -/
import Derived.Test.YtodmieehdleohaaMp2
import Derived.Test.YtodmieehdleohaaMx5
import Derived.Test.YtodmieehdleohaaMx3
import Derived.Test.YtodmieehdleohaaMsB
namespace Go.Proofs.Ytodmieehdleohaa
open Go.RowKit NumMath Go.ChangeShapes Go.WideShapes Go.Deep
set_option linter.unusedVariables false
set_option maxRecDepth 100000

def trimQ (Q : Nat → List MMsg) : Nat → List MMsg := fun x => if 2 ≤ x ∧ x < 103 then Q x else []

theorem trim_in {Q : Nat → List MMsg} {i : Nat} (h1 : 2 ≤ i) (h2 : i < 103) : trimQ Q i = Q i := if_pos ⟨h1, h2⟩

theorem Core.trim {W w : World} {B p q : Nat} {fa : Option Addr} {fl fc z s now : Nat} {cs : Nat → Value} {kv wv : Value} {K : List (Int × Int)} {L : List (MMsg × Int)} {C : Int → Int → Bool} {Q : Nat → List MMsg} {F : List (Int × Int)} (h : Core W w B p q fa fl fc z s now cs kv wv K L C Q F) : Core W w B p q fa fl fc z s now cs kv wv K L C (trimQ Q) F :=
  ⟨h.hB, h.hw, ⟨h.m.cell, h.m.fz, h.m.pb, h.m.rng, h.m.ap, h.m.op, h.m.map, h.m.fates, h.m.fr, fun i h1 h2 => by rw [trim_in h1 h2]; exact h.m.seg i h1 h2, fun i y h1 h2 h3 => by rw [trim_in h1 h2] at h3; exact h.m.dat i y h1 h2 h3⟩, h.x, h.ap, fun i y h1 h2 h3 => by rw [trim_in h1 h2] at h3; exact h.dat i y h1 h2 h3, h.ok, h.bel⟩

theorem Rel.trim {Q : Nat → List MMsg} {now : Nat} {L : List (PMsg × Int)} (h : Rel (pq Q) now L) : Rel (pq (trimQ Q)) now L :=
  ⟨h.rng, by have := h.due; unfold pq at *; rw [trim_in (by omega) (by omega)]; exact this, fun i hi => by have := h.lat i hi; unfold pq at *; rw [trim_in (by omega) (by omega)]; exact this⟩

/-- both, behind k deeds; l messages are in flight -/
def TwoN (W w : World) (B p q : Nat) (fa : Option Addr) (fl fc : Nat) (x0 : List (Int × Int)) (k l : Nat) : Prop :=
  ∃ z s now cs kv wv K L C Q, Two W w B p q fa fl fc x0 k z s now cs kv wv K L C Q ∧ L.length = l

/-- the program's mesh went on, the reference's not yet -/
structure Half (n : Nat) (W w : World) (B p q : Nat) (fa : Option Addr) (fl fc : Nat) (x0 : List (Int × Int)) (k z s now : Nat) (cs : Nat → Value) (kv wv : Value) (K : List (Int × Int)) (L : List (MMsg × Int)) (C : Int → Int → Bool) (Q : Nat → List MMsg) (s' : Nat) (C' : Int → Int → Bool) (Q' : Nat → List MMsg) : Prop where
  core : Core W w B p q fa fl fc z s now cs kv wv K L C' Q' (x0.drop s')
  rel : Rel (pq Q) now (pl L)
  cut : CutR C K
  bz : z ≤ k + 1
  bs : s ≤ k
  bn : now ≤ k
  bK : K.length ≤ k
  bL : L.length ≤ 3 * k
  xn : ∀ j, XB q kv wv j → j < n

theorem Half.keep {n : Nat} {W w w' : World} {B p q : Nat} {fa : Option Addr} {fl fc : Nat} {x0 : List (Int × Int)} {k z s now : Nat} {cs : Nat → Value} {kv wv : Value} {K : List (Int × Int)} {L : List (MMsg × Int)} {C : Int → Int → Bool} {Q : Nat → List MMsg} {s' : Nat} {C' : Int → Int → Bool} {Q' : Nat → List MMsg} (h : Half n W w B p q fa fl fc x0 k z s now cs kv wv K L C Q s' C' Q') (hb : Below w.heap.size w w') : Half n W w' B p q fa fl fc x0 k z s now cs kv wv K L C Q s' C' Q' :=
  ⟨h.core.keep hb, h.rel, h.cut, h.bz, h.bs, h.bn, h.bK, h.bL, h.xn⟩

theorem Two.keep {W w w' : World} {B p q : Nat} {fa : Option Addr} {fl fc : Nat} {x0 : List (Int × Int)} {k z s now : Nat} {cs : Nat → Value} {kv wv : Value} {K : List (Int × Int)} {L : List (MMsg × Int)} {C : Int → Int → Bool} {Q : Nat → List MMsg} (h : Two W w B p q fa fl fc x0 k z s now cs kv wv K L C Q) (hb : Below w.heap.size w w') : Two W w' B p q fa fl fc x0 k z s now cs kv wv K L C Q :=
  ⟨h.core.keep hb, h.rel, h.cut, h.bz, h.bs, h.bn, h.bK, h.bL⟩

theorem TwoN.keep {W w w' : World} {B p q : Nat} {fa : Option Addr} {fl fc : Nat} {x0 : List (Int × Int)} {k l : Nat} (h : TwoN W w B p q fa fl fc x0 k l) (hb : Below w.heap.size w w') : TwoN W w' B p q fa fl fc x0 k l := by
  obtain ⟨z, s, now, cs, kv, wv, K, L, C, Q, h, hl⟩ := h
  exact ⟨z, s, now, cs, kv, wv, K, L, C, Q, h.keep hb, hl⟩

theorem TwoN.bel {W w : World} {B p q : Nat} {fa : Option Addr} {fl fc : Nat} {x0 : List (Int × Int)} {k l : Nat} (h : TwoN W w B p q fa fl fc x0 k l) : Below W.heap.size W w := by
  obtain ⟨z, s, now, cs, kv, wv, K, L, C, Q, h, hl⟩ := h
  exact h.core.bel

theorem keepsN {M : Nat → Prop} {n : Nat} {w w' : World} (h : Keeps M w w') (hM : ∀ k, M k → k < n) : Keeps (fun j => j < n) w w' :=
  ⟨h.os, h.tape, h.output, h.size, fun k hk hn => h.block k hk (fun hm => hn (hM k hm))⟩

def HalfSend (n : Nat) (W w : World) (B p q : Nat) (fa : Option Addr) (fl fc : Nat) (x0 : List (Int × Int)) (k : Nat) (m : MMsg) : Prop :=
  ∃ z s now cs kv wv K L C Q Q', Half n W w B p q fa fl fc x0 k z s now cs kv wv K L C Q (s + 1) C Q' ∧ pq Q' = (send1 C (x0.drop s, pq Q) m.pure).2

theorem two_send1 {W w : World} {B p q : Nat} {fa : Option Addr} {fl fc : Nat} {x0 : List (Int × Int)} {k l : Nat} (h : TwoN W w B p q fa fl fc x0 k l) (hk : k ≤ 60) (m : MMsg) (hm : m.okX (fun _ => False) W) (hs : m.small) (w2 : World) (hb : Below w.heap.size w w2) (g : Nat) (hg : w.heap.size ≤ g) (hG : IsG w2 (some ⟨g, 0, none⟩) 1 1 [m]) :
    Calls Try.prog 9 #[.pointer (some ⟨p, 0, none⟩), .slice (some ⟨g, 0, none⟩) 1 1] w2 fun e w' => e = .returned (.tuple #[]) ∧ HalfSend w.heap.size W w' B p q fa fl fc x0 k m ∧ Keeps (fun j => j < w.heap.size) w2 w' := by
  obtain ⟨z, s, now, cs, kv, wv, K, L, C, Q0, ⟨hc0, hr0, hcut, bz, bs, bn, bK, bL⟩, -⟩ := h
  have hc := hc0.trim
  have hr := hr0.trim
  obtain ⟨Q, hQ⟩ : ∃ Q, Q = trimQ Q0 := ⟨_, rfl⟩
  have hQl : ∀ x, (Q x).length ≤ 180 := by
    intro x
    rw [hQ]
    by_cases hx : 2 ≤ x ∧ x < 103
    · have := Q_le hr x hx.1 hx.2
      unfold pl at this
      rw [List.length_map] at this
      omega
    · unfold trimQ
      rw [if_neg hx]
      exact Nat.zero_le _
  rw [← hQ] at hc hr
  clear hc0 hr0 hQ
  have c2 := hc.keep hb
  refine (sendE_any (XB q kv wv) B p z cs (x0.drop s) C Q (some ⟨g, 0, none⟩) 1 1 [m] w2 c2.m (fun k hk => (c2.x.lt hk).2) c2.dat hG (.inr (fun y hy hs => by cases hy; have := (Spine.lt hc.m hs).2; dsimp only at this; omega)) (fun y hy => by simp at hy; subst hy; exact (hm.more (Y := Spine p cs) (fun k hk => .inr (Nat.le_trans hc.hB (Spine.lt hc.m hk).1))).keep c2.bel) (fun y hy => by simp at hy; subst hy; exact hs) (fun x => by have := hQl x; omega) (by omega)).mono ?_
  rintro e w' ⟨rfl, cs', Q', hM, hq⟩
  refine ⟨rfl, ⟨z, s, now, cs', kv, wv, K, L, C, Q, Q', ⟨c2.mesh (by have := hM.is; have e : (sendL C (x0.drop s, pq Q) ([m].map MMsg.pure)).1 = x0.drop (s + 1) := (by show (x0.drop s).tail = _; rw [List.tail_drop]); rw [e] at this; exact this) hM.kp hM.sp hM.nw, hr, hcut, by omega, bs, bn, bK, bL, fun j hj => (hc.x.lt hj).2⟩, hq⟩, keepsN hM.kp (fun j hj => (Spine.lt hc.m hj).2)⟩

theorem clamp_rng (t n : Int) (hn : 0 ≤ n) : 0 ≤ clampF t n ∧ clampF t n ≤ n := by
  unfold clampF
  split
  · exact ⟨Int.le_refl _, hn⟩
  · split <;> omega

theorem two_send2 {n : Nat} {W w : World} {B p q : Nat} {fa : Option Addr} {fl fc : Nat} {x0 : List (Int × Int)} {k : Nat} {m : MMsg} (h : HalfSend n W w B p q fa fl fc x0 k m) (hk : k ≤ 60) (hF : IsF W fa fl fc x0) (hfl : fl ≤ 30) (hm : m.okX (fun _ => False) W) (w2 : World) (hb : Below w.heap.size w w2) (g : Nat) (hG : CellG w2 g 0 m) :
    Calls Try.prog 10 #[.pointer (some ⟨q, 0, none⟩), .slice (some ⟨g, 0, none⟩) 1 1] w2 fun e w' => e = .returned (.tuple #[]) ∧ ∃ l, TwoN W w' B p q fa fl fc x0 (k + 1) l := by
  obtain ⟨z, s, now, cs, kv, wv, K, L, C, Q, Q', ⟨hc, hr, hcut, bz, bs, bn, bK, bL, xn⟩, hq⟩ := h
  have c2 := hc.keep hb
  have hfo : 0 < fl → ∀ g off, fa = some ⟨g, off, none⟩ → ¬ g = q := by
    intro h0 g' off e1 e2
    rcases hF.2.2.2.2 with h1 | ⟨g3, off3, e3, h3, -⟩
    · omega
    · rw [e1] at e3
      cases e3
      have := hc.x.qb.1
      have := hc.hB
      omega
  refine (xsend_any B q fa fl fc s now kv wv K L x0 m g w2 c2.x c2.hw (hF.keep c2.bel) hfo (by omega) hG (by omega) (by omega) (by omega)).mono ?_
  rintro e w' ⟨rfl, kv', wv', hM⟩
  refine ⟨rfl, _, z, s + 1, now, cs, kv', wv', K, _, C, Q', ⟨c2.ref hM.is hM.kp hM.sp (fun y hy => ?_), ?_, hcut, bz, by omega, by omega, by omega, ?_⟩, rfl⟩
  · rcases List.mem_append.1 hy with h1 | h1
    · exact hc.ok y h1
    · rw [List.mem_replicate] at h1
      rw [h1.2]
      exact hm
  · rw [hq, pl_append, pl_rep]
    unfold send1 timesX
    have e1 : C (min m.pure.fr m.pure.tt) (max m.pure.fr m.pure.tt) = isCutK K m.fr m.tt := hcut m.fr m.tt hm.fr hm.tt
    rw [e1]
    dsimp only
    rw [fateOf_drop]
    dsimp only
    cases isCutK K m.fr m.tt with
    | true =>
      simp only [if_true, List.replicate_zero, List.append_nil]
      exact hr
    | false =>
      simp only [Bool.false_eq_true, if_false]
      have r2 := clamp_rng (x0.getD s (1, 0)).2 100 (by decide)
      obtain ⟨d, hd⟩ : ∃ d : Nat, clampF (x0.getD s (1, 0)).2 100 = d := ⟨(clampF (x0.getD s (1, 0)).2 100).toNat, by omega⟩
      rw [hd, Int.toNat_natCast]
      exact rel_send hr m.pure _ d (by omega)
  · rw [List.length_append, List.length_replicate]
    have r1 := clamp_rng (x0.getD s (1, 0)).1 3 (by decide)
    have : timesX (x0.getD s (1, 0)).1 (isCutK K m.fr m.tt) ≤ 3 := by
      unfold timesX
      split <;> omega
    omega

def HalfTick (n : Nat) (W w : World) (B p q : Nat) (fa : Option Addr) (fl fc : Nat) (x0 : List (Int × Int)) (k : Nat) : Prop :=
  ∃ z s now cs kv wv K L C Q, Half n W w B p q fa fl fc x0 k z s now cs kv wv K L C Q s C (shiftQ Q)

theorem two_tick1 {W w : World} {B p q : Nat} {fa : Option Addr} {fl fc : Nat} {x0 : List (Int × Int)} {k l : Nat} (h : TwoN W w B p q fa fl fc x0 k l) (hk : k ≤ 60) :
    Calls Try.prog 14 #[.pointer (some ⟨p, 0, none⟩)] w fun e w' => e = .returned (.tuple #[]) ∧ HalfTick w.heap.size W w' B p q fa fl fc x0 k := by
  obtain ⟨z, s, now, cs, kv, wv, K, L, C, Q, ⟨hc, hr, hcut, bz, bs, bn, bK, bL⟩, -⟩ := h
  have q2 := Q_le hr 2 (by omega) (by omega)
  have q3 := Q_le hr 3 (by omega) (by omega)
  unfold pl at q2 q3
  rw [List.length_map] at q2 q3
  refine (tickM_any B p z cs (x0.drop s) C Q w hc.m hc.hw (by omega)).mono ?_
  rintro e w' ⟨rfl, hp⟩
  obtain ⟨cs', hc'⟩ := hc.post hp (fun i m h1 h2 h3 => shift_mem i m h1 h2 h3)
  exact ⟨rfl, z, s, now, cs', kv, wv, K, L, C, Q, ⟨hc', hr, hcut, by omega, bs, bn, bK, bL, fun j hj => (hc.x.lt hj).2⟩⟩

theorem two_tick2 {n : Nat} {W w : World} {B p q : Nat} {fa : Option Addr} {fl fc : Nat} {x0 : List (Int × Int)} {k : Nat} (h : HalfTick n W w B p q fa fl fc x0 k) (hk : k ≤ 60) :
    Calls Try.prog 15 #[.pointer (some ⟨q, 0, none⟩)] w fun e w' => e = .returned (.tuple #[]) ∧ ∃ l, TwoN W w' B p q fa fl fc x0 (k + 1) l := by
  obtain ⟨z, s, now, cs, kv, wv, K, L, C, Q, ⟨hc, hr, hcut, bz, bs, bn, bK, bL, xn⟩⟩ := h
  refine (xtick_any B q fa fl fc s now kv wv K L w hc.x (by omega)).mono ?_
  rintro e w' ⟨rfl, kv', wv', h1, h2, h3⟩
  exact ⟨rfl, _, z, s, now + 1, cs, kv', wv', K, L, C, shiftQ Q, ⟨hc.ref h1 h2 h3 hc.ok, by rw [pq_shift]; exact rel_tick hr, hcut, bz, by omega, by omega, by omega, by omega⟩, rfl⟩

def HalfCut (n : Nat) (W w : World) (B p q : Nat) (fa : Option Addr) (fl fc : Nat) (x0 : List (Int × Int)) (k : Nat) (x y : Int) (c : Bool) : Prop :=
  ∃ z s now cs kv wv K L C Q, Half n W w B p q fa fl fc x0 k z s now cs kv wv K L C Q s (cutC C x y c) Q

theorem two_cut1 {W w : World} {B p q : Nat} {fa : Option Addr} {fl fc : Nat} {x0 : List (Int × Int)} {k l : Nat} (h : TwoN W w B p q fa fl fc x0 k l) (hk : k ≤ 60) (x y : Int) (hx : UU x) (hy : UU y) (c : Bool) (w2 : World) (hb : Below w.heap.size w w2) :
    Calls Try.prog 16 #[.pointer (some ⟨p, 0, none⟩), .int .u64 x, .int .u64 y, .bool c] w2 fun e w' => e = .returned (.tuple #[]) ∧ HalfCut w.heap.size W w' B p q fa fl fc x0 k x y c ∧ Keeps (fun j => j < w.heap.size) w2 w' := by
  obtain ⟨z, s, now, cs, kv, wv, K, L, C, Q, ⟨hc, hr, hcut, bz, bs, bn, bK, bL⟩, -⟩ := h
  have c2 := hc.keep hb
  have fin : ∀ z', z' ≤ k + 1 → ∀ (e : Ending) (w' : World), (e = .returned (.tuple #[]) ∧ MPost w2 B p z' cs (x0.drop s) (cutC C x y c) Q w') → e = .returned (.tuple #[]) ∧ HalfCut w.heap.size W w' B p q fa fl fc x0 k x y c ∧ Keeps (fun j => j < w.heap.size) w2 w' := by
    rintro z' hz' e w' ⟨rfl, hp⟩
    have hp' := hp
    obtain ⟨cs', hc'⟩ := c2.post hp (fun i m h1 h2 h3 => ⟨i, h1, h2, h3⟩)
    obtain ⟨_, _, kp, _⟩ := hp'
    exact ⟨rfl, ⟨z', s, now, cs', kv, wv, K, L, C, Q, ⟨hc', hr, hcut, hz', bs, bn, bK, bL, fun j hj => (hc.x.lt hj).2⟩⟩, keepsN kp (fun j hj => (Spine.lt hc.m hj).2)⟩
  cases c with
  | true => exact (cutM_yes B p z cs (x0.drop s) C Q x y w2 c2.m (by omega) hx hy).mono (fin (z + 1) (by omega))
  | false => exact (cutM_no B p z cs (x0.drop s) C Q x y w2 c2.m hx hy).mono (fin z (by omega))

theorem two_cut2 {n : Nat} {W w : World} {B p q : Nat} {fa : Option Addr} {fl fc : Nat} {x0 : List (Int × Int)} {k : Nat} {x y : Int} {c : Bool} (h : HalfCut n W w B p q fa fl fc x0 k x y c) (hk : k ≤ 60) (w2 : World) (hb : Below w.heap.size w w2) :
    Calls Try.prog 17 #[.pointer (some ⟨q, 0, none⟩), .int .u64 x, .int .u64 y, .bool c] w2 fun e w' => e = .returned (.tuple #[]) ∧ ∃ l, TwoN W w' B p q fa fl fc x0 (k + 1) l := by
  obtain ⟨z, s, now, cs, kv, wv, K, L, C, Q, ⟨hc, hr, hcut, bz, bs, bn, bK, bL, xn⟩⟩ := h
  have c2 := hc.keep hb
  refine (xcut_any B q fa fl fc s now kv wv K L x y c w2 c2.x c2.hw (by omega)).mono ?_
  rintro e w' ⟨rfl, kv', wv', h1, h2, h3⟩
  exact ⟨rfl, _, z, s, now, cs, kv', wv', _, L, _, Q, ⟨c2.ref h1 h2 h3 hc.ok, hr, cutR_cut hcut x y c, bz, by omega, by omega, by have := cutK_len K x y c; omega, by omega⟩, rfl⟩

def HalfNext (n : Nat) (W w : World) (B p q : Nat) (fa : Option Addr) (fl fc : Nat) (x0 : List (Int × Int)) (k : Nat) (m : MMsg) (b : Bool) : Prop :=
  ∃ z s now cs kv wv K L C Q Q', Half n W w B p q fa fl fc x0 k z s now cs kv wv K L C Q s C Q' ∧ ((b = false ∧ Q 2 = [] ∧ Q' = Q ∧ m = msg0) ∨ ∃ r, b = true ∧ Q 2 = m :: r ∧ Q' = upd Q 2 r ∧ m.okX (fun j => XB q kv wv j) w)

theorem two_next1 {W w : World} {B p q : Nat} {fa : Option Addr} {fl fc : Nat} {x0 : List (Int × Int)} {k l : Nat} (h : TwoN W w B p q fa fl fc x0 k l) :
    Calls Try.prog 11 #[.pointer (some ⟨p, 0, none⟩)] w fun e w' => ∃ (m : MMsg) (b : Bool), e = .returned (.tuple #[.agg #[.int .i64 m.k, .int .u64 m.fr, .int .u64 m.tt, .int .u64 m.tm, .int .u64 m.ix, .int .u64 m.lt, .int .u64 m.cm, .int .u64 m.hn, .bool m.rj, .slice m.ea m.en m.ec, .int .u64 m.si, .int .u64 m.st, .slice m.ma m.mn m.mc, .slice m.sa m.sn m.sc], .bool b]) ∧ HalfNext w.heap.size W w' B p q fa fl fc x0 k m b ∧ w.heap.size ≤ w'.heap.size := by
  obtain ⟨z, s, now, cs, kv, wv, K, L, C, Q, ⟨hc, hr, hcut, bz, bs, bn, bK, bL⟩, -⟩ := h
  refine (nextM_any B p z cs (x0.drop s) C Q w hc.m hc.hw).mono ?_
  rintro e w' (⟨hq, rfl, hp⟩ | ⟨m, r, hq, rfl, hok, hp⟩)
  · have hp' := hp
    obtain ⟨cs', hc'⟩ := hc.post hp (fun i m h1 h2 h3 => ⟨i, h1, h2, h3⟩)
    obtain ⟨_, _, kp, _⟩ := hp'
    exact ⟨msg0, false, rfl, ⟨z, s, now, cs', kv, wv, K, L, C, Q, Q, ⟨hc', hr, hcut, by omega, bs, bn, bK, bL, fun j hj => (hc.x.lt hj).2⟩, .inl ⟨rfl, hq, rfl, rfl⟩⟩, kp.size⟩
  · have hp' := hp
    obtain ⟨cs', hc'⟩ := hc.post hp (fun i y h1 h2 h3 => by
      by_cases e : i = 2
      · subst e
        rw [upd_at] at h3
        exact ⟨2, by omega, by omega, by rw [hq]; exact List.mem_cons_of_mem _ h3⟩
      · rw [upd_ne _ _ _ e] at h3
        exact ⟨i, h1, h2, h3⟩)
    obtain ⟨_, _, kp, sp⟩ := hp'
    have ho := okX_turn (X' := fun j => XB q kv wv j) (hc.dat 2 m (by omega) (by omega) (by rw [hq]; exact List.mem_cons_self)) kp (fun k hk => .inr hk) (fun k hk => .inl (.inl hk))
    exact ⟨m, true, rfl, ⟨z, s, now, cs', kv, wv, K, L, C, Q, upd Q 2 r, ⟨hc', hr, hcut, by omega, bs, bn, bK, bL, fun j hj => (hc.x.lt hj).2⟩, .inr ⟨r, rfl, hq, rfl, ho⟩⟩, kp.size⟩

theorem two_next2 {n : Nat} {W w : World} {B p q : Nat} {fa : Option Addr} {fl fc : Nat} {x0 : List (Int × Int)} {k : Nat} {m : MMsg} {b : Bool} (h : HalfNext n W w B p q fa fl fc x0 k m b) (hk : k ≤ 60) (w2 : World) (hb : Below w.heap.size w w2) :
    Calls Try.prog 12 #[.pointer (some ⟨q, 0, none⟩)] w2 fun e w' => ∃ (y : MMsg), e = .returned (.tuple #[.agg #[.int .i64 y.k, .int .u64 y.fr, .int .u64 y.tt, .int .u64 y.tm, .int .u64 y.ix, .int .u64 y.lt, .int .u64 y.cm, .int .u64 y.hn, .bool y.rj, .slice y.ea y.en y.ec, .int .u64 y.si, .int .u64 y.st, .slice y.ma y.mn y.mc, .slice y.sa y.sn y.sc], .bool b]) ∧ (∃ l, TwoN W w' B p q fa fl fc x0 (k + 1) l) ∧ m.okX (fun _ => False) w' ∧ y.okX (fun _ => False) w' ∧ m.pure = y.pure ∧ Keeps (fun j => j < n) w2 w' := by
  obtain ⟨z, s, now, cs, kv, wv, K, L, C, Q, Q', ⟨hc, hr, hcut, bz, bs, bn, bK, bL, xn⟩, hq⟩ := h
  have c2 := hc.keep hb
  refine (xnext_any B q fa fl fc s now kv wv K L w2 c2.x c2.hw (by omega)).mono ?_
  rintro e w' (⟨hbest, rfl, kv', wv', h1, h2, h3⟩ | ⟨i, hi, hbest, rfl, kv', wv', h1, h2, h3⟩)
  · have hq2 := best_none hr hbest
    have hq3 : Q 2 = [] := by unfold pq at hq2; simpa using hq2
    rcases hq with ⟨rfl, -, rfl, rfl⟩ | ⟨r, -, hq4, -⟩
    · exact ⟨msg0, rfl, ⟨_, z, s, now, cs, kv', wv', K, L, C, Q', ⟨c2.ref h1 h2 h3 hc.ok, hr, hcut, bz, by omega, by omega, by omega, by omega⟩, rfl⟩, ok_msgK _ _ _ ⟨by decide, by decide⟩, ok_msgK _ _ _ ⟨by decide, by decide⟩, rfl, keepsN h2 xn⟩
    · rw [hq3] at hq4; cases hq4
  · obtain ⟨r2, hq2, hr2⟩ := best_some hr i hi hbest
    rcases hq with ⟨-, hq4, -⟩ | ⟨r, rfl, hq4, rfl, hok⟩
    · unfold pq at hq2
      rw [hq4] at hq2
      cases hq2
    · have e5 : pq Q 2 = m.pure :: r.map MMsg.pure := by unfold pq; rw [hq4]; rfl
      rw [e5] at hq2
      obtain ⟨e6, e7⟩ := List.cons.inj hq2
      have hyok : ((L.getD i fly0).1).okX (fun _ => False) W := by
        refine hc.ok _ ?_
        simp [List.getD, List.getElem?_eq_getElem hi]
      have c3 := c2.ref (L' := L.eraseIdx i) h1 h2 h3 (fun y hy => hc.ok y (List.mem_of_mem_eraseIdx hy))
      refine ⟨(L.getD i fly0).1, rfl, ⟨_, z, s, now, cs, kv', wv', K, _, C, _, ⟨c3, ?_, hcut, bz, by omega, by omega, by omega, ?_⟩, rfl⟩, okX_turn (hok.keep hb) h2 (fun k hk => hk) (fun k hk => hk.elim), hyok.keep c3.bel, e6, keepsN h2 xn⟩
      · rw [pq_upd, e7]; exact hr2
      · have := List.length_eraseIdx_le L i; omega

theorem two_wait1 {W w : World} {B p q : Nat} {fa : Option Addr} {fl fc : Nat} {x0 : List (Int × Int)} {k l : Nat} (h : TwoN W w B p q fa fl fc x0 k l) (hk : k ≤ 61) :
    Calls Try.prog 18 #[.pointer (some ⟨p, 0, none⟩)] w fun e w' => e = .returned (.int .i64 (l : Nat)) ∧ w' = w := by
  obtain ⟨z, s, now, cs, kv, wv, K, L, C, Q, ⟨hc, hr, hcut, bz, bs, bn, bK, bL⟩, rfl⟩ := h
  have e := waitN_all hr
  unfold pl at e
  rw [List.length_map] at e
  rw [← e]
  exact waitM_any B p z cs (x0.drop s) C Q w hc.m (fun k hk => by have := waitN_le hr k hk; unfold pl at this; rw [List.length_map] at this; omega)

theorem two_wait2 {W w : World} {B p q : Nat} {fa : Option Addr} {fl fc : Nat} {x0 : List (Int × Int)} {k l : Nat} (h : TwoN W w B p q fa fl fc x0 k l) :
    Calls Try.prog 19 #[.pointer (some ⟨q, 0, none⟩)] w fun e w' => e = .returned (.int .i64 (l : Nat)) ∧ w' = w := by
  obtain ⟨z, s, now, cs, kv, wv, K, L, C, Q, ⟨hc, hr, hcut, bz, bs, bn, bK, bL⟩, rfl⟩ := h
  exact xwait_any B q fa fl fc s now kv wv K L w hc.x

theorem same_any (m y : MMsg) (w : World) (hp : m.pure = y.pure) (h1 : m.okX (fun _ => False) w) (h2 : y.okX (fun _ => False) w) (ga gb : Nat) (hx : CellG w ga 0 m) (hy : CellG w gb 0 y) (hga : ga < w.heap.size) (hgb : gb < w.heap.size) :
    Calls Try.prog 13 #[.slice (some ⟨ga, 0, none⟩) 1 1, .slice (some ⟨gb, 0, none⟩) 1 1] w fun e w' => e = .returned (.bool true) ∧ Below w.heap.size w w' := by
  obtain ⟨k, fr, tt, tm, ix, lt, cm, hn, rj, ea, en, ec, es, si, st, ma, mn, mc, mm, sa, sn, sc, sd⟩ := m
  obtain ⟨k', fr', tt', tm', ix', lt', cm', hn', rj', ea', en', ec', es', si', st', ma', mn', mc', mm', sa', sn', sc', sd'⟩ := y
  simp only [MMsg.pure, PMsg.mk.injEq] at hp
  obtain ⟨rfl, rfl, rfl, rfl, rfl, rfl, rfl, rfl, rfl, hes, rfl, rfl, rfl, rfl⟩ := hp
  have e1 := h1.es
  have e2 := h2.es
  have n1 := h1.mm
  have n2 := h2.mm
  dsimp only at e1 e2 n1 n2
  have hen : en' = en := by have := congrArg List.length hes; rw [List.length_map, List.length_map] at this; have := e1.1; have := e2.1; omega
  have hmn : mn' = mn := by have := n1.1; have := n2.1; omega
  subst hen hmn
  exact sameMs_one _ _ _ _ _ _ _ _ _ _ _ _ _ _ _ _ _ _ _ _ _ _ _ _ _ _ _ _ _ _ _ _ _ w hx hy hga hgb e1 e2 hes n1 n2 h1.sd h2.sd

end Go.Proofs.Ytodmieehdleohaa
