/- MeshPlain: what waits, call by call. -/
import Derived.Test.YtodmieehdleohaaMsB
import Derived.Test.YtodmieehdleohaaMsC
import Derived.Test.YtodmieehdleohaaMsQ
namespace Go.Proofs.Ytodmieehdleohaa
open Go.RowKit NumMath Go.ChangeShapes Go.WideShapes Go.Deep
set_option linter.unusedVariables false
set_option maxRecDepth 100000

def passes (C : Int → Int → Bool) (m : PMsg) : Bool := !(C (min m.fr m.tt) (max m.fr m.tt))

/-- without fates each message that passes waits once -/
theorem sendL_plain (C : Int → Int → Bool) (l : List PMsg) : ∀ q : Nat → List PMsg, sendL C ([], q) l = ([], upd q 2 (q 2 ++ l.filter (passes C))) := by
  induction l with
  | nil =>
    intro q
    show ([], q) = _
    congr 1
    funext x
    unfold upd
    split
    · rename_i e; subst e; simp
    · rfl
  | cons m r ih =>
    intro q
    show sendL C (send1 C ([], q) m) r = _
    have e : send1 C ([], q) m = ([], if C (min m.fr m.tt) (max m.fr m.tt) then q else upd q 2 (q 2 ++ [m])) := rfl
    rw [e, ih]
    congr 1
    funext x
    by_cases hx : x = 2
    · subst hx
      rw [upd_at, upd_at]
      by_cases hc : C (min m.fr m.tt) (max m.fr m.tt) = true
      · rw [if_pos hc]
        have : passes C m = false := by unfold passes; rw [hc]; rfl
        rw [List.filter_cons_of_neg (by rw [this]; decide)]
      · rw [if_neg hc, upd_at]
        have : passes C m = true := by unfold passes; simp [hc]
        rw [List.filter_cons_of_pos this, List.append_assoc]
        rfl
    · rw [upd_ne _ _ _ hx, upd_ne _ _ _ hx]
      split
      · rfl
      · rw [upd_ne _ _ _ hx]

/-- a mesh without fates on which nothing waits -/
structure PM (n : Nat) (W w : World) (B p : Nat) (C : Int → Int → Bool) : Prop where
  hB : W.heap.size ≤ B
  hw : B ≤ w.heap.size
  bel : Below W.heap.size W w
  ex : ∃ z cs, z ≤ n ∧ IsMesh w B p z cs [] C (fun _ => [])

/-- a mesh without fates on which the messages l are due -/
structure PL (W w : World) (B p : Nat) (C : Int → Int → Bool) (l : List PMsg) : Prop where
  hB : W.heap.size ≤ B
  hw : B ≤ w.heap.size
  bel : Below W.heap.size W w
  ex : ∃ z cs Q, IsMesh w B p z cs [] C Q ∧ (Q 2).map MMsg.pure = l

theorem PM.keep {n : Nat} {W w w' : World} {B p : Nat} {C : Int → Int → Bool} (h : PM n W w B p C) (hb : Below w.heap.size w w') : PM n W w' B p C := by
  obtain ⟨h1, h2, h3, z, cs, h4, h5⟩ := h
  exact ⟨h1, Nat.le_trans h2 hb.size, h3.trans (hb.mono h3.size), z, cs, h4, h5.keep hb⟩

theorem PL.keep {W w w' : World} {B p : Nat} {C : Int → Int → Bool} {l : List PMsg} (h : PL W w B p C l) (hb : Below w.heap.size w w') : PL W w' B p C l := by
  obtain ⟨h1, h2, h3, z, cs, Q, h4, h5⟩ := h
  exact ⟨h1, Nat.le_trans h2 hb.size, h3.trans (hb.mono h3.size), z, cs, Q, h4.keep hb, h5⟩

theorem spine_bel {W w w' : World} {B p z : Nat} {cs : Nat → Value} {F : List (Int × Int)} {C : Int → Int → Bool} {Q : Nat → List MMsg} (hB : W.heap.size ≤ B) (hw : B ≤ w.heap.size) (hb : Below W.heap.size W w) (hm : IsMesh w B p z cs F C Q) (hk : Keeps (Spine p cs) w w') : Below W.heap.size W w' :=
  hb.trans (hk.below (B := W.heap.size) hb.size (fun k h => Nat.le_trans hB (Spine.lt hm h).1))

theorem pm_new (W w : World) (hb : Below W.heap.size W w) : Calls Try.prog 6 #[.slice none 0 0] w fun e w' => ∃ p, e = .returned (.pointer (some ⟨p, 0, none⟩)) ∧ PM 0 W w' w.heap.size p (fun _ _ => false) := by
  refine (newM_any none 0 0 [] w (isF_nil _) (by omega)).mono ?_
  rintro e w' ⟨p, cs, rfl, hm, hb2⟩
  exact ⟨p, rfl, hb.size, hb2.size, hb.trans (hb2.mono hb.size), 0, cs, by omega, hm⟩

theorem pm_cut {W w : World} {B p : Nat} (h : PM 0 W w B p (fun _ _ => false)) (x y : Int) (hx : UU x) (hy : UU y) :
    Calls Try.prog 16 #[.pointer (some ⟨p, 0, none⟩), .int .u64 x, .int .u64 y, .bool true] w fun e w' => e = .returned (.tuple #[]) ∧ PM 1 W w' B p (cutC (fun _ _ => false) x y true) := by
  obtain ⟨h1, h2, h3, z, cs, hz, hm⟩ := h
  refine (cutM_yes B p z cs [] (fun _ _ => false) (fun _ => []) x y w hm (by omega) hx hy).mono ?_
  rintro e w' ⟨rfl, cs', hm', hk, hs⟩
  exact ⟨rfl, h1, Nat.le_trans h2 hk.size, spine_bel h1 h2 h3 hm hk, z + 1, cs', by omega, hm'⟩

theorem pm_send {n : Nat} {W w : World} {B p : Nat} {C : Int → Int → Bool} (h : PM n W w B p C) (a : Option Addr) (len cap : Nat) (ms : List MMsg) (hG : IsGs W a len cap ms) (hl : len ≤ 30) :
    Calls Try.prog 9 #[.pointer (some ⟨p, 0, none⟩), .slice a len cap] w fun e w' => e = .returned (.tuple #[]) ∧ PL W w' B p C ((ms.map MMsg.pure).filter (passes C)) := by
  obtain ⟨h1, h2, h3, z, cs, hz, hm⟩ := h
  have hO : OffA (Spine p cs) len a := by
    rcases hG.1.2.2.2 with h0 | ⟨g, off, rfl, hg, _⟩
    · exact .inl h0
    · refine .inr (fun y hy hs => ?_)
      cases hy
      have := (Spine.lt hm hs).1
      dsimp only at this
      omega
  refine (sendM_any B p z cs [] C (fun _ => []) a len cap ms w hm (hG.1.keep h3) hO (fun y hy => ((hG.2 y hy).1.more (Y := Spine p cs) (fun k hk => .inr (Nat.le_trans h1 (Spine.lt hm hk).1))).keep h3) (fun y hy => (hG.2 y hy).2) (fun x => by simp; omega) (by omega)).mono ?_
  rintro e w' ⟨rfl, cs', Q', hM, hq⟩
  rw [sendL_plain] at hM hq
  refine ⟨rfl, h1, Nat.le_trans h2 hM.kp.size, spine_bel h1 h2 h3 hm hM.kp, z, cs', Q', hM.is, ?_⟩
  have e : pq Q' = upd (pq (fun _ => [])) 2 (pq (fun _ => []) 2 ++ (ms.map MMsg.pure).filter (passes C)) := hq
  have e2 := congrFun e 2
  rw [upd_at] at e2
  exact e2

theorem pl_next_none {W w : World} {B p : Nat} {C : Int → Int → Bool} (h : PL W w B p C []) :
    Calls Try.prog 11 #[.pointer (some ⟨p, 0, none⟩)] w fun e w' => e = .returned (.tuple #[.agg #[.int .i64 msg0.k, .int .u64 msg0.fr, .int .u64 msg0.tt, .int .u64 msg0.tm, .int .u64 msg0.ix, .int .u64 msg0.lt, .int .u64 msg0.cm, .int .u64 msg0.hn, .bool msg0.rj, .slice msg0.ea msg0.en msg0.ec, .int .u64 msg0.si, .int .u64 msg0.st, .slice msg0.ma msg0.mn msg0.mc, .slice msg0.sa msg0.sn msg0.sc], .bool false]) ∧ Below W.heap.size W w' := by
  obtain ⟨h1, h2, h3, z, cs, Q, hm, hq⟩ := h
  refine (nextM_none B p z cs [] C Q w hm (List.map_eq_nil_iff.1 hq)).mono ?_
  rintro e w' ⟨rfl, cs', hm', hk, hs⟩
  exact ⟨rfl, spine_bel h1 h2 h3 hm hk⟩

theorem pl_next_some {W w : World} {B p : Nat} {C : Int → Int → Bool} {m0 : PMsg} {r : List PMsg} (h : PL W w B p C (m0 :: r)) (w2 : World) (hb : Below w.heap.size w w2) :
    Calls Try.prog 11 #[.pointer (some ⟨p, 0, none⟩)] w2 fun e w' => ∃ y : MMsg, e = .returned (.tuple #[.agg #[.int .i64 y.k, .int .u64 y.fr, .int .u64 y.tt, .int .u64 y.tm, .int .u64 y.ix, .int .u64 y.lt, .int .u64 y.cm, .int .u64 y.hn, .bool y.rj, .slice y.ea y.en y.ec, .int .u64 y.si, .int .u64 y.st, .slice y.ma y.mn y.mc, .slice y.sa y.sn y.sc], .bool true]) ∧ y.pure = m0 ∧ y.okX (fun _ => False) w' ∧ PL W w' B p C r ∧ Keeps (fun j => j < w.heap.size) w2 w' := by
  have hk2 := h.keep hb
  obtain ⟨_, _, _, z, cs, Q, hm, hq⟩ := h
  obtain ⟨y, Q2, e2, hy, hr⟩ := List.map_eq_cons_iff.1 hq
  have hm2 := hm.keep hb
  obtain ⟨h1, h2, h3, -⟩ := hk2
  refine (nextM_some B p z cs [] C Q y Q2 w2 hm2 h2 e2).mono ?_
  rintro e w' ⟨rfl, hok, cs', hm', hk, hs⟩
  refine ⟨y, rfl, hy, hok, ⟨h1, Nat.le_trans h2 hk.size, spine_bel h1 h2 h3 hm2 hk, z, cs', _, hm', ?_⟩, ⟨hk.os, hk.tape, hk.output, hk.size, fun k h5 h6 => hk.block k h5 (fun h7 => h6 (Spine.lt hm h7).2)⟩⟩
  rw [upd_at]
  exact hr

/-- who is cut off when two are -/
theorem cut_yes (f t x y : Int) (h : x = f ∧ y = t ∨ x = t ∧ y = f) : cutC (fun _ _ => false) t f true (min x y) (max x y) = true := by
  unfold cutC
  have h1 : min x y = min t f := by omega
  have h2 : max x y = max t f := by omega
  simp [h1, h2]

theorem cut_no (f t x y : Int) (h : ¬ (x = f ∧ y = t ∨ x = t ∧ y = f)) : cutC (fun _ _ => false) t f true (min x y) (max x y) = false := by
  unfold cutC
  have h1 : ¬ (min x y = min t f ∧ max x y = max t f) := by omega
  simp only [Bool.false_or, if_true]
  rw [Bool.and_eq_false_iff]
  by_cases h2 : min x y = min t f
  · right
    have : ¬ max x y = max t f := fun h3 => h1 ⟨h2, h3⟩
    simpa using this
  · left
    simpa using h2

theorem drop_at (ms : List MMsg) (k : Nat) (h : k < ms.length) : ms.drop k = ms.getD k msg0 :: ms.drop (k + 1) := by
  have e : ms.getD k msg0 = ms[k] := by simp [List.getD, List.getElem?_eq_getElem h]
  rw [e]
  exact List.drop_eq_getElem_cons h

/-- what is due from the k-th message on -/
def dueL (C : Int → Int → Bool) (ms : List MMsg) (k : Nat) : List PMsg := ((ms.drop k).map MMsg.pure).filter (passes C)

theorem due_pass {C : Int → Int → Bool} {ms : List MMsg} {k : Nat} (h : k < ms.length) {m : MMsg} (hm : ms.getD k msg0 = m) (hp : C (min m.fr m.tt) (max m.fr m.tt) = false) : dueL C ms k = m.pure :: dueL C ms (k + 1) := by
  unfold dueL
  rw [drop_at ms k h, hm, List.map_cons, List.filter_cons_of_pos]
  show passes C m.pure = true
  unfold passes
  have : C (min m.pure.fr m.pure.tt) (max m.pure.fr m.pure.tt) = false := hp
  rw [this]; rfl

theorem due_cut {C : Int → Int → Bool} {ms : List MMsg} {k : Nat} (h : k < ms.length) {m : MMsg} (hm : ms.getD k msg0 = m) (hp : C (min m.fr m.tt) (max m.fr m.tt) = true) : dueL C ms k = dueL C ms (k + 1) := by
  unfold dueL
  rw [drop_at ms k h, hm, List.map_cons, List.filter_cons_of_neg]
  show ¬ passes C m.pure = true
  unfold passes
  have : C (min m.pure.fr m.pure.tt) (max m.pure.fr m.pure.tt) = true := hp
  rw [this]; decide

theorem due_end (C : Int → Int → Bool) (ms : List MMsg) (k : Nat) (h : ms.length = k) : dueL C ms k = [] := by
  unfold dueL
  rw [List.drop_eq_nil_of_le (by omega)]
  rfl

end Go.Proofs.Ytodmieehdleohaa
