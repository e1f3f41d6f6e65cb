/- The program's table beside the reference's, call by call; the law LockDoes. -/
import Derived.Test.YtbnojmaknlfphaaDoorDrE
import Derived.Test.YtbnojmaknlfphaaDoorLkC
namespace Go.Proofs.YtbnojmaknlfphaaDoor
open Go.RowKit NumMath Go.ChangeShapes Go.WideShapes Go.Deep
set_option linter.unusedVariables false
set_option maxRecDepth 100000

/-- the program's table at p beside the reference's at q -/
structure Two (w0 w : World) (p q n m : Nat) (tp tx : Tab) : Prop where
  ex : ∃ hv wv hs ws ha hn hc wa wn wc xs ys, IsT (fun k => k = q) w0.heap.size w p hv wv hs ws ∧ hs.map ML.l = tp.held ∧ ws.map ML.l = tp.wait ∧ TxT w0 w q ha hn hc wa wn wc xs ys ∧ xs.map ML.l = tx.held ∧ ys.map ML.l = tx.wait ∧ (∀ y, ha = some y → ¬ Xt p hv wv y.block ∧ y.block < w.heap.size) ∧ (∀ y, wa = some y → ¬ Xt p hv wv y.block ∧ y.block < w.heap.size)
  inv : TabI tp
  u : ∀ x ∈ tp.held ++ tp.wait, U64 x.tx ∧ x.lo.length ≤ 20 ∧ x.hi.length ≤ 20
  nh : tp.held.length ≤ n
  nw : tp.wait.length ≤ n
  mh : tx.held.length ≤ m
  mw : tx.wait.length ≤ m
  b : Below w0.heap.size w0 w
  q0 : w0.heap.size ≤ q ∧ q < w.heap.size

theorem Two.keep {w0 w w' : World} {p q n m : Nat} {tp tx : Tab} (h : Two w0 w p q n m tp tx) (hb : Below w.heap.size w w') : Two w0 w' p q n m tp tx := by
  obtain ⟨⟨hv, wv, hs, ws, ha, hn, hc, wa, wn, wc, xs, ys, h1, h2, h3, h4, h5, h6, h7, h8⟩, i, u, nh, nw, mh, mw, b, q0⟩ := h
  exact ⟨⟨hv, wv, hs, ws, ha, hn, hc, wa, wn, wc, xs, ys, h1.keep hb, h2, h3, h4.keep hb, h5, h6, fun y hy => ⟨(h7 y hy).1, Nat.lt_of_lt_of_le (h7 y hy).2 hb.size⟩, fun y hy => ⟨(h8 y hy).1, Nat.lt_of_lt_of_le (h8 y hy).2 hb.size⟩⟩, i, u, nh, nw, mh, mw, b.trans (hb.mono b.size), q0.1, Nat.lt_of_lt_of_le q0.2 hb.size⟩

theorem Two.mono {w0 w : World} {p q n m n' m' : Nat} {tp tx : Tab} (h : Two w0 w p q n m tp tx) (hn : n ≤ n') (hm : m ≤ m') : Two w0 w p q n' m' tp tx :=
  ⟨h.ex, h.inv, h.u, Nat.le_trans h.nh hn, Nat.le_trans h.nw hn, Nat.le_trans h.mh hm, Nat.le_trans h.mw hm, h.b, h.q0⟩

/-- the program's one alone -/
theorem Two.law {w0 w : World} {p q n m : Nat} {tp tx : Tab} (h : Two w0 w p q n m tp tx) : ∃ ha hn hc wa wn wc hs ws, TpA w p ha hn hc wa wn wc hs ws ∧ hs.map ML.l = tp.held ∧ ws.map ML.l = tp.wait := by
  obtain ⟨⟨hv, wv, hs, ws, ha, hn, hc, wa, wn, wc, xs, ys, h1, h2, h3, _⟩, _⟩ := h
  obtain ⟨ga, gn, gc, ia, iin, ic, rfl, rfl, hT⟩ := h1.read
  exact ⟨ga, gn, gc, ia, iin, ic, hs, ws, hT, h2, h3⟩

theorem TxT.lies {w0 w w' : World} {q : Nat} {ha : Option Addr} {hn hc : Nat} {wa : Option Addr} {wn wc : Nat} {hs ws : List ML} (h : TxT w0 w q ha hn hc wa wn wc hs ws) {X : Nat → Prop} (hk : Keeps X w w') (hq : ¬ X q) (hX : ∀ k, X k → w0.heap.size ≤ k) (h1 : ∀ y, ha = some y → ¬ X y.block) (h2 : ∀ y, wa = some y → ¬ X y.block) : TxT w0 w' q ha hn hc wa wn wc hs ws := by
  have hb := hk.block q h.lt hq
  exact ⟨(World.cell?_of_block (a := ⟨q, 0, none⟩) hb).trans h.c0, (World.cell?_of_block (a := ⟨q, 1, none⟩) hb).trans h.c1, Nat.lt_of_lt_of_le h.lt hk.size, fun j => (World.frozen?_of_block (a := ⟨q, j, none⟩) hb).trans (h.fz j), h.h.lies hk (.inr h1), h.wt.lies hk (.inr h2), kp_to h.b0 (Keeps.wider hk hX), h.q0, h.ho, h.wo, h.oh, h.ow, h.fh, h.fw⟩

/-- what a call of the program's leaves, with what was laid since w1 -/
def PartP (w1 w w' : World) : Prop := ∃ X : Nat → Prop, Keeps X w w' ∧ ∀ k, X k → k < w1.heap.size

theorem two_step {w0 w1 w w' : World} {p q n m n' : Nat} {tp tp' tx : Tab} (h : Two w0 w1 p q n m tp tx) (hb : Below w1.heap.size w1 w) {hv wv : Value} {hs ws : List ML} {ha : Option Addr} {hn hc : Nat} {wa : Option Addr} {wn wc : Nat} {xs ys : List ML}
    (hI : IsT (fun k => k = q) w0.heap.size w1 p hv wv hs ws) (hX : TxT w0 w1 q ha hn hc wa wn wc xs ys) (e5 : xs.map ML.l = tx.held) (e6 : ys.map ML.l = tx.wait) (e7 : ∀ y, ha = some y → ¬ Xt p hv wv y.block ∧ y.block < w1.heap.size) (e8 : ∀ y, wa = some y → ¬ Xt p hv wv y.block ∧ y.block < w1.heap.size)
    {hs' ws' : List ML} (k : TPost (fun k => k = q) w0.heap.size w p hv wv hs' ws' w') (g1 : hs'.map ML.l = tp'.held) (g2 : ws'.map ML.l = tp'.wait) (hi : TabI tp') (hu : ∀ x ∈ tp'.held ++ tp'.wait, U64 x.tx ∧ x.lo.length ≤ 20 ∧ x.hi.length ≤ 20) (hl : tp'.held.length ≤ n' ∧ tp'.wait.length ≤ n') :
    Two w0 w' p q n' m tp' tx ∧ PartP w1 w w' := by
  obtain ⟨hv', wv', k1, k2, k3, k4⟩ := k
  have hxl := hI.xl
  have hst := xt_step (p := p) k3 k4
  refine ⟨⟨⟨hv', wv', hs', ws', ha, hn, hc, wa, wn, wc, xs, ys, k1, g1, g2, (hX.keep hb).lies k2 (fun e => hI.gx q e rfl) (fun j hj => (hxl j hj).1) (fun y hy => (e7 y hy).1) (fun y hy => (e8 y hy).1), e5, e6, fun y hy => ⟨fun hx => ?_, Nat.lt_of_lt_of_le (e7 y hy).2 (Nat.le_trans hb.size k2.size)⟩, fun y hy => ⟨fun hx => ?_, Nat.lt_of_lt_of_le (e8 y hy).2 (Nat.le_trans hb.size k2.size)⟩⟩, hi, hu, hl.1, hl.2, h.mh, h.mw, kp_to (h.b.trans (hb.mono h.b.size)) (Keeps.wider k2 (fun j hj => (hxl j hj).1)), h.q0.1, Nat.lt_of_lt_of_le h.q0.2 (Nat.le_trans hb.size k2.size)⟩, Xt p hv wv, k2, fun j hj => (hxl j hj).2⟩
  · rcases hst _ hx with h1 | h1
    · exact (e7 y hy).1 h1
    · have := (e7 y hy).2; have := hb.size; omega
  · rcases hst _ hx with h1 | h1
    · exact (e8 y hy).1 h1
    · have := (e8 y hy).2; have := hb.size; omega

theorem two_pask {w0 w1 w : World} {p q n m : Nat} {tp tx : Tab} (h : Two w0 w1 p q n m tp tx) (hb : Below w1.heap.size w1 w) (x : ML) (hx : x.ok w0) (hu : U64 x.l.tx) (h1 : x.ln ≤ 20) (h2 : x.hn ≤ 20) (hn : n ≤ 60) :
    Calls Tryd.prog 20 #[.pointer (some ⟨p, 0, none⟩), .agg #[.int .u64 x.l.tx, .int .i64 x.l.lv, .int .i64 x.l.md, .slice x.la x.ln x.lc, .slice x.ha x.hn x.hc]] w fun e w' => e = .returned (.tuple #[.bool (askL tp x.l).2.1, .int .i64 (askL tp x.l).2.2]) ∧ Two w0 w' p q (n + 1) m (askL tp x.l).1 tx ∧ PartP w1 w w' := by
  obtain ⟨hv, wv, hs, ws, ha, hn', hc, wa, wn, wc, xs, ys, hI, e1, e2, hX, e5, e6, e7, e8⟩ := h.ex
  have hI2 := hI.keep hb
  have hxl := hI.xl
  have hno : (ws.map (fun m => m.l.tx)).Nodup := by
    have := h.inv.one
    rw [← e2, List.map_map] at this
    exact this
  have nh := h.nh
  have nw := h.nw
  refine (pask_any hI2 x (foot_law hx (h.b.trans (hb.mono h.b.size)) (fun k hk => (hxl k hk).1)) (by omega) (by omega) hu (fun m hm => (mapU e1 e2 h.u m hm).1) hno (by rw [← List.length_map (f := ML.l), e1]; omega) (by rw [← List.length_map (f := ML.l), e2]; omega)).mono ?_
  rintro e w' ⟨rfl, hs', ws', g1, g2, g3⟩
  rw [e1, e2] at g1 g2 ⊢
  refine ⟨rfl, two_step h hb hI hX e5 e6 e7 e8 g3 g1 g2 (h.inv.ask x.l) (fun y hy => ?_) ⟨by have := (ask_len tp x.l).1; omega, by have := (ask_len tp x.l).2; omega⟩⟩
  rcases ask_mem hy with hy | hy
  · exact h.u y hy
  · subst hy
    exact ⟨hu, by rw [hx.lo.1]; exact h1, by rw [hx.hi.1]; exact h2⟩

theorem two_pfree {w0 w1 w : World} {p q n m : Nat} {tp tx : Tab} (h : Two w0 w1 p q n m tp tx) (hb : Below w1.heap.size w1 w) (t : Int) :
    Calls Tryd.prog 18 #[.pointer (some ⟨p, 0, none⟩), .int .u64 t] w fun e w' => e = .returned (.int .i64 ((freeL tp t).2 : Int)) ∧ Two w0 w' p q n m (freeL tp t).1 tx ∧ PartP w1 w w' := by
  obtain ⟨hv, wv, hs, ws, ha, hn', hc, wa, wn, wc, xs, ys, hI, e1, e2, hX, e5, e6, e7, e8⟩ := h.ex
  have hI2 := hI.keep hb
  have hf1 : (hs.filter (fun m => m.l.tx != t)).map ML.l = tp.held.filter (fun h => h.tx != t) := by rw [filterM, e1]
  have hf2 : (ws.filter (fun m => m.l.tx != t)).map ML.l = leaveL tp.wait t lck0 := by rw [filterM, e2, leave_filter (fun w hw => bad_tx (h.inv.ok w hw))]
  refine (pfree_any hI2 t).mono ?_
  rintro e w' ⟨rfl, k⟩
  refine ⟨?_, two_step h hb hI hX e5 e6 e7 e8 k hf1 hf2 (h.inv.free t) (fun y hy => h.u y ?_) ⟨Nat.le_trans (List.length_filter_le _ _) h.nh, Nat.le_trans (leave_len _ _ _) h.nw⟩⟩
  · unfold freeL
    dsimp only
    rw [← hf1, ← e1, List.length_map, List.length_map]
  · rcases List.mem_append.1 hy with hy | hy
    · exact List.mem_append_left _ (List.mem_filter.1 hy).1
    · exact List.mem_append_right _ (mem_leave.1 hy).1

theorem two_xstep {w0 w w' : World} {p q n m m' : Nat} {tp tx tx' : Tab} (h : Two w0 w p q n m tp tx) {hv wv : Value} {hs ws : List ML} {ha wa : Option Addr}
    (hI : IsT (fun k => k = q) w0.heap.size w p hv wv hs ws) (e1 : hs.map ML.l = tp.held) (e2 : ws.map ML.l = tp.wait) (e7 : ∀ y, ha = some y → ¬ Xt p hv wv y.block ∧ y.block < w.heap.size) (e8 : ∀ y, wa = some y → ¬ Xt p hv wv y.block ∧ y.block < w.heap.size)
    {ha' : Option Addr} {hn' hc' : Nat} {wa' : Option Addr} {wn' wc' : Nat} {xs' ys' : List ML} (k : TxN w0 w q ha wa tx' w' ha' hn' hc' wa' wn' wc' xs' ys') (hl : tx'.held.length ≤ m' ∧ tx'.wait.length ≤ m') : Two w0 w' p q n m' tp tx' ∧ Keeps (fun k => k = q) w w' := by
  have hq0 := h.q0
  have hxl := hI.xl
  have hI' : IsT (fun k => k = q) w0.heap.size w' p hv wv hs ws := hI.other k.kp (fun j hj => ⟨.inl hj, by rw [hj]; exact Nat.lt_of_lt_of_le hq0.2 k.kp.size⟩) (fun e => by have := hI.b0; omega)
  have hof : ∀ {a a' : Option Addr}, (∀ y, a = some y → ¬ Xt p hv wv y.block ∧ y.block < w.heap.size) → (a' = a ∨ ∀ y, a' = some y → w.heap.size ≤ y.block ∧ y.block < w'.heap.size) → ∀ y, a' = some y → ¬ Xt p hv wv y.block ∧ y.block < w'.heap.size := by
    intro a a' e f y hy
    rcases f with f | f
    · rw [f] at hy
      exact ⟨(e y hy).1, Nat.lt_of_lt_of_le (e y hy).2 k.kp.size⟩
    · exact ⟨fun hx => by have := (hxl _ hx).2; have := (f y hy).1; omega, (f y hy).2⟩
  exact ⟨⟨⟨hv, wv, hs, ws, ha', hn', hc', wa', wn', wc', xs', ys', hI', e1, e2, k.tt, k.eh, k.ew, hof e7 k.ph, hof e8 k.pw⟩, h.inv, h.u, h.nh, h.nw, hl.1, hl.2, k.tt.b0, hq0.1, Nat.lt_of_lt_of_le hq0.2 k.kp.size⟩, k.kp⟩

theorem two_xask {w0 w : World} {p q n m : Nat} {tp tx : Tab} (h : Two w0 w p q n m tp tx) (x : ML) (hx : x.ok w0) (hm : m ≤ 60) :
    Calls Tryd.prog 21 #[.pointer (some ⟨q, 0, none⟩), .agg #[.int .u64 x.l.tx, .int .i64 x.l.lv, .int .i64 x.l.md, .slice x.la x.ln x.lc, .slice x.ha x.hn x.hc]] w fun e w' => e = .returned (.tuple #[.bool (askL tx x.l).2.1, .int .i64 (askL tx x.l).2.2]) ∧ Two w0 w' p q n (m + 1) tp (askL tx x.l).1 ∧ Keeps (fun k => k = q) w w' := by
  obtain ⟨hv, wv, hs, ws, ha, hn', hc, wa, wn, wc, xs, ys, hI, e1, e2, hX, e5, e6, e7, e8⟩ := h.ex
  have mh := h.mh
  have mw := h.mw
  refine (xask_any w0 q ha hn' hc wa wn wc xs ys x w hX hx (by have := hX.h.1; rw [← e5, List.length_map] at mh; omega) (by have := hX.wt.1; rw [← e6, List.length_map] at mw; omega)).mono ?_
  rintro e w' ⟨rfl, ha', hn2, hc', wa', wn', wc', hs', ws', k⟩
  rw [e5, e6] at k ⊢
  exact ⟨rfl, two_xstep h hI e1 e2 e7 e8 k ⟨by have := (ask_len tx x.l).1; omega, by have := (ask_len tx x.l).2; omega⟩⟩

theorem two_xfree {w0 w : World} {p q n m : Nat} {tp tx : Tab} (h : Two w0 w p q n m tp tx) (t : Int) (hm : m ≤ 100) :
    Calls Tryd.prog 19 #[.pointer (some ⟨q, 0, none⟩), .int .u64 t] w fun e w' => e = .returned (.int .i64 ((freeL tx t).2 : Int)) ∧ Two w0 w' p q n m tp (freeL tx t).1 ∧ Keeps (fun k => k = q) w w' := by
  obtain ⟨hv, wv, hs, ws, ha, hn', hc, wa, wn, wc, xs, ys, hI, e1, e2, hX, e5, e6, e7, e8⟩ := h.ex
  have mh := h.mh
  have mw := h.mw
  refine (xfree_any w0 q ha hn' hc wa wn wc xs ys t w hX (by have := hX.h.1; rw [← e5, List.length_map] at mh; omega) (by have := hX.wt.1; rw [← e6, List.length_map] at mw; omega)).mono ?_
  rintro e w' ⟨ha', hn2, hc', wa', wn', wc', hs', ws', rfl, k⟩
  rw [e5, e6] at k ⊢
  exact ⟨rfl, two_xstep h hI e1 e2 e7 e8 k ⟨Nat.le_trans (List.length_filter_le _ _) h.mh, Nat.le_trans (leave_len _ _ _) h.mw⟩⟩


theorem pheldT {w0 w : World} {p q n m : Nat} {t tx : Tab} (h : Two w0 w p q n m t tx) (hn : n ≤ 100) (V : World) (hV : Below w.heap.size w V) : Calls Tryd.prog 23 #[.pointer (some ⟨p, 0, none⟩)] V fun e w' => LockL V t.held e w' := by
  obtain ⟨ha, n1, c1, wa, n2, c2, hs, ws, hT, e1, e2⟩ := h.law
  have nh := h.nh
  refine (pheld_any V p ha n1 c1 wa n2 c2 hs ws (hT.keep hV) (by have := hT.h.1; rw [← e1, List.length_map] at nh; omega) (fun m hm => ?_)).mono ?_
  · have := mapU e1 e2 h.u m (List.mem_append_left _ hm)
    have h1 := (hT.ho m hm).lo.1
    have h2 := (hT.ho m hm).hi.1
    omega
  · rintro e w' ⟨a, k, c, ys, rfl, g1, g2, g3, g4⟩
    exact ⟨a, k, c, ys, rfl, g1.is, g2.trans e1, g3, g4⟩

theorem pwaitT {w0 w : World} {p q n m : Nat} {t tx : Tab} (h : Two w0 w p q n m t tx) (hn : n ≤ 100) (V : World) (hV : Below w.heap.size w V) : Calls Tryd.prog 24 #[.pointer (some ⟨p, 0, none⟩)] V fun e w' => LockL V t.wait e w' := by
  obtain ⟨ha, n1, c1, wa, n2, c2, hs, ws, hT, e1, e2⟩ := h.law
  have nw := h.nw
  refine (pwaiting_any V p ha n1 c1 wa n2 c2 hs ws (hT.keep hV) (by have := hT.wt.1; rw [← e2, List.length_map] at nw; omega) (fun m hm => ?_)).mono ?_
  · have := mapU e1 e2 h.u m (List.mem_append_right _ hm)
    have h1 := (hT.wo m hm).lo.1
    have h2 := (hT.wo m hm).hi.1
    omega
  · rintro e w' ⟨a, k, c, ys, rfl, g1, g2, g3, g4⟩
    exact ⟨a, k, c, ys, rfl, g1.is, g2.trans e2, g3, g4⟩

theorem pedgeT {w0 w : World} {p q n m : Nat} {t tx : Tab} (h : Two w0 w p q n m t tx) (hn : n ≤ 100) (V : World) (hV : Below w.heap.size w V) : Calls Tryd.prog 26 #[.pointer (some ⟨p, 0, none⟩)] V fun e w' => ∃ a n c, e = .returned (.slice a n c) ∧ IsY layE w' a n c (edgesL t.held t.wait) ∧ Below V.heap.size V w' := by
  obtain ⟨ha, n1, c1, wa, n2, c2, hs, ws, hT, e1, e2⟩ := h.law
  have nh := h.nh
  have nw := h.nw
  have hno : (ws.map (fun m => m.l.tx)).Nodup := by
    have := h.inv.one
    rw [← e2, List.map_map] at this
    exact this
  refine (pedges_any V p ha n1 c1 wa n2 c2 hs ws (hT.keep hV) (by have := hT.h.1; rw [← e1, List.length_map] at nh; omega) (by have := hT.wt.1; rw [← e2, List.length_map] at nw; omega) hno).mono ?_
  rintro e w' ⟨v, rfl, g1, g2⟩
  obtain ⟨a, k, c, rfl⟩ := g1.any3
  rw [e1, e2] at g1
  exact ⟨a, k, c, rfl, g1.is, g2⟩

theorem xedgeT {w0 w : World} {p q n m : Nat} {t tx : Tab} (h : Two w0 w p q n m t tx) (hm : m ≤ 100) (V : World) (hV : Below w.heap.size w V) : Calls Tryd.prog 27 #[.pointer (some ⟨q, 0, none⟩)] V fun e w' => ∃ a n c, e = .returned (.slice a n c) ∧ IsY layE w' a n c (edgesL tx.held tx.wait) ∧ Below V.heap.size V w' := by
  obtain ⟨hv, wv, hs, ws, ha, hn', hc, wa, wn, wc, xs, ys, hI, e1, e2, hX, e5, e6, e7, e8⟩ := h.ex
  have mh := h.mh
  have mw := h.mw
  refine (xedges_any q ha hn' hc wa wn wc xs ys V (hX.keep hV).a (by have := hX.h.1; rw [← e5, List.length_map] at mh; omega) (by have := hX.wt.1; rw [← e6, List.length_map] at mw; omega)).mono ?_
  rintro e w' ⟨v, rfl, g1, g2⟩
  obtain ⟨a, k, c, rfl⟩ := g1.any3
  rw [e5, e6] at g1
  exact ⟨a, k, c, rfl, g1.is, g2⟩

/-- the reference's lists, as they are read -/
def XL (w : World) (a : Option Addr) (n c : Nat) (l : List Lck) : Prop := ∃ xs : List ML, IsY layK w a n c xs ∧ xs.map ML.l = l ∧ ∀ x ∈ xs, x.ok w

theorem xread {w0 w : World} {p q n m : Nat} {t tx : Tab} (h : Two w0 w p q n m t tx) : ∃ ha hn hc wa wn wc, w.cell? ⟨q, 0, none⟩ = some (.slice ha hn hc) ∧ w.cell? ⟨q, 1, none⟩ = some (.slice wa wn wc) ∧ XL w ha hn hc tx.held ∧ XL w wa wn wc tx.wait := by
  obtain ⟨hv, wv, hs, ws, ha, hn', hc, wa, wn, wc, xs, ys, hI, e1, e2, hX, e5, e6, e7, e8⟩ := h.ex
  exact ⟨ha, hn', hc, wa, wn, wc, hX.c0, hX.c1, ⟨xs, hX.h, e5, fun x hx => (hX.ho x hx).keep hX.b0⟩, ⟨ys, hX.wt, e6, fun x hx => (hX.wo x hx).keep hX.b0⟩⟩

theorem sameX {w V : World} {a : Option Addr} {n c : Nat} {l : List Lck} (h : XL w a n c l) (hV : Below w.heap.size w V) {b : Option Addr} {k d : Nat} {ys : List ML} (h1 : IsY layK V b k d ys) (h2 : ys.map ML.l = l) (h3 : ∀ y ∈ ys, y.ok V) : Calls Tryd.prog 22 #[.slice b k d, .slice a n c] V fun e w' => e = .returned (.bool true) ∧ Below V.heap.size V w' := by
  obtain ⟨xs, g1, g2, g3⟩ := h
  have := sameLocks_any b k d ys a n c xs V h1 (g1.keep hV) h3 (fun x hx => (g3 x hx).keep hV)
  rw [h2, g2, decide_eq_true rfl] at this
  exact this

theorem two_new (w : World) (hF : FitW w) : Calls Tryd.prog 17 #[] w fun e w' => e = .returned (.pointer (some ⟨w.heap.size, 0, none⟩)) ∧ Two w (w'.alloc (.cells #[.slice none 0 0, .slice none 0 0] 37)) w.heap.size w'.heap.size 0 0 ⟨[], []⟩ ⟨[], []⟩ := by
  refine (pnew_any w hF (fun _ => False) (fun _ h => h.elim)).mono ?_
  rintro e w' ⟨hv, wv, rfl, h1, h2⟩
  refine ⟨rfl, ?_⟩
  have hb := new_below w' (.cells #[.slice none 0 0, .slice none 0 0] 37)
  have hr := rangeY_new w' w'.heap.size #[.slice none 0 0, .slice none 0 0] 37 rfl
  have hI := h1.other (G' := fun k => k = w'.heap.size) (Below.keeps hb _) (fun k hk => ⟨.inr (by rw [hk]; exact Nat.le_refl _), by rw [hk]; simp⟩) (fun h => h)
  refine ⟨⟨hv, wv, [], [], none, 0, 0, none, 0, 0, [], [], hI, rfl, rfl, ⟨hr 0 _ rfl, hr 1 _ rfl, by simp, fun j => fzY_new _ _ _ _, isY_nil _, isY_nil _, h2.trans (hb.mono h2.size), h2.size, by simp, by simp, .inl rfl, .inl rfl, .inl rfl, .inl rfl⟩, rfl, rfl, by simp, by simp⟩, tabI_new, by simp, by simp, by simp, by simp, by simp, h2.trans (hb.mono h2.size), h2.size, by simp⟩

/-- the deed's box -/
theorem boxD (wr : World) (d : MQ) {V : World} (h : V.heap[wr.heap.size]? = (wr.alloc (.cells #[.bool false, .int .u64 d.m.l.tx, .int .i64 d.m.l.lv, .int .i64 d.m.l.md, .slice d.m.la d.m.ln d.m.lc, .slice d.m.ha d.m.hn d.m.hc] 39)).heap[wr.heap.size]?) : V.cell? ⟨wr.heap.size, 0, none⟩ = some (.bool false) ∧ V.cell? ⟨wr.heap.size, 1, none⟩ = some (.int .u64 d.m.l.tx) ∧ V.cell? ⟨wr.heap.size, 2, none⟩ = some (.int .i64 d.m.l.lv) ∧ V.cell? ⟨wr.heap.size, 3, none⟩ = some (.int .i64 d.m.l.md) ∧ V.cell? ⟨wr.heap.size, 4, none⟩ = some (.slice d.m.la d.m.ln d.m.lc) ∧ V.cell? ⟨wr.heap.size, 5, none⟩ = some (.slice d.m.ha d.m.hn d.m.hc) := by
  have hr := rangeY_same (rangeY_new wr wr.heap.size #[.bool false, .int .u64 d.m.l.tx, .int .i64 d.m.l.lv, .int .i64 d.m.l.md, .slice d.m.la d.m.ln d.m.lc, .slice d.m.ha d.m.hn d.m.hc] 39 rfl) h
  exact ⟨hr 0 _ rfl, hr 1 _ rfl, hr 2 _ rfl, hr 3 _ rfl, hr 4 _ rfl, hr 5 _ rfl⟩

set_option maxHeartbeats 8000000 in
theorem ldoes_any (a : Option Addr) (n c : Nat) (ds : List MQ) (w : World) (h : IsDeeds14 w a n c ds) (hF : FitW w) :
    Calls Tryd.prog 4 #[.slice a n c] w fun e w' => e = .returned (.bool true) ∧ Below w.heap.size w w' := by
  have HAw := hide (awake14_any w hF)
  have H := hide h
  have HF := hide hF
  have HL := hide h.1.1
  have hm : (n : Int) ≤ 9223372036854775807 := by have := h.1.2.1; have := h.1.2.2.1; unfold maxLen at this; omega
  clear h hF
  go_enter Tryd.func4, Tryd.ntmps4
  go_upto_region 3 with (first
    | (go_at_call 9; go_must (refine HAw.out.mono ?_); rintro e w1 ⟨rfl, hb1⟩; have HB1 := hide hb1; clear hb1))
  have HFw := hide (few14_any a n c ds w1 ⟨H.out.1.keep HB1.out, fun d hd => ⟨(H.out.2 d hd).1.keep HB1.out, (H.out.2 d hd).2⟩⟩)
  cases hsm : (ds.all smallQ && decide (n ≤ 40)) with
  | false =>
    rw [hsm] at HFw
    clear hsm
    go_wp2_with (first
      | (go_at_call 16; go_must (refine HFw.out.mono ?_); rintro e w2 ⟨rfl, hb2⟩; have HB2 := hide hb2; clear hb2))
    go_ret
    exact ⟨rfl, HB1.out.trans (HB2.out.mono HB1.out.size)⟩
  | true =>
    rw [hsm] at HFw
    have HSmall := hide (small_at hsm)
    clear hsm
    go_upto_region 5 with (first
      | (go_at_call 16; go_must (refine HFw.out.mono ?_); rintro e w2 ⟨rfl, hb2⟩; have HB2 := hide hb2; clear hb2))
    have HN2 := hide (HB1.out.trans (HB2.out.mono HB1.out.size))
    have HNw := hide (two_new w2 (HF.out.keep HN2.out))
    have HY2 := hide (H.out.1.keep HN2.out)
    have HG2 := hide (fun d hd => (⟨(H.out.2 d hd).1.keep HN2.out, (H.out.2 d hd).2⟩ : ML.got d.m w2))
    clear HAw HFw H HF
    go_wp2_with (first
      | (go_at_call 17; go_must (refine HNw.out.mono ?_); rintro e w3 ⟨rfl, hT3⟩; have HT3 : Hid (Two w2 (w3.alloc (.cells #[.slice none 0 0, .slice none 0 0] 37)) w2.heap.size w3.heap.size 0 0 (stT ds 0) (stT ds 0)) := hT3; clear hT3))
    obtain ⟨q, hq⟩ : ∃ q, q = w3.heap.size := ⟨_, rfl⟩
    obtain ⟨w4, hw4⟩ : ∃ W, W = w3.alloc (.cells #[.slice none 0 0, .slice none 0 0] 37) := ⟨_, rfl⟩
    rw [← hw4, ← hq] at HT3
    rw [← hw4, ← hq]
    clear hw4 hq
    go_loopg [21] n (fun gk i wr => ∃ k : Nat, gk = n - k ∧ i = .int .i64 k ∧ k ≤ n ∧ Two w2 wr w2.heap.size q k k (stT ds k) (stT ds k))
    case atStart => exact ⟨0, rfl, rfl, Nat.zero_le _, HT3.out⟩
    case round =>
      obtain ⟨k, rfl, rfl, hk, hT⟩ := hrel
      have HT := hide hT
      have hB2r := hT.b
      have hsw := hB2r.size
      have hqlt := hT.q0.2
      clear hT
      by_cases hlt : k < n
      · have hlt' : (k : Int) < (n : Int) := by omega
        obtain ⟨d, hdk⟩ := dq_at (ds := ds) (k := k) (by have := HL.out; omega)
        obtain ⟨g, off, rfl, hg, hC⟩ := HY2.out.at hlt
        obtain ⟨d0, d1, d2, d3, d4, d5⟩ := at6_list (hC.same (hB2r.block g hg)) hdk
        have hmem := List.mem_of_getElem? hdk
        have HDk := hide (HG2.out d hmem)
        have HSm := hide (HSmall.out.1 d hmem)
        have HBN := hide (new_below wr (.cells #[.bool d.fr, .int .u64 d.m.l.tx, .int .i64 d.m.l.lv, .int .i64 d.m.l.md, .slice d.m.la d.m.ln d.m.lc, .slice d.m.ha d.m.hn d.m.hc] 39))
        have HSt := hide (stT_more hdk)
        have h40 := HSmall.out.2
        clear hC hdk hB2r hmem
        by_cases hfr : d.fr = true
        · have HFr := hide hfr
          rw [hfr] at d0 HBN
          clear hfr
          go_upto_region 10 with fail
          have HTx := hide (fun (V : World) (hV : V.heap[wr.heap.size]? = (wr.alloc (.cells #[.bool true, .int .u64 d.m.l.tx, .int .i64 d.m.l.lv, .int .i64 d.m.l.md, .slice d.m.la d.m.ln d.m.lc, .slice d.m.ha d.m.hn d.m.hc] 39)).heap[wr.heap.size]?) => (World.cell?_of_block (a := ⟨wr.heap.size, 1, none⟩) hV).trans (show (wr.alloc (.cells #[.bool true, .int .u64 d.m.l.tx, .int .i64 d.m.l.lv, .int .i64 d.m.l.md, .slice d.m.la d.m.ln d.m.lc, .slice d.m.ha d.m.hn d.m.hc] 39)).cell? ⟨wr.heap.size, 1, none⟩ = some (.int .u64 d.m.l.tx) by simp))
          refine startG (fun V => V.heap[wr.heap.size]? = (wr.alloc (.cells #[.bool true, .int .u64 d.m.l.tx, .int .i64 d.m.l.lv, .int .i64 d.m.l.md, .slice d.m.la d.m.ln d.m.lc, .slice d.m.ha d.m.hn d.m.hc] 39)).heap[wr.heap.size]?) (fun i => false) (by kernel_rfl) ?_
          refine' takeG (i := 0) (v := _) rfl (by kernel_rfl) (by kernel_rfl) (by kernel_rfl) (by kernel_rfl) (fun _ _ _ h => h) (by rfl) (rfl) ?_ ?_; rotate_left
          · (intro V hSV; have e1 := HTx.out V hSV; go_simp; all_goals (with_reducible rfl))
          (try simp only [Act.put, List.setIfInBounds_toArray, List.set_cons_zero, List.set_cons_succ])
          refine' takeG (i := 1) (v := _) rfl (by kernel_rfl) (by kernel_rfl) (by kernel_rfl) (by kernel_rfl) (fun _ _ _ h => h) (by rfl) (rfl) ?_ ?_; rotate_left
          · (intro V hSV; have e1 := HTx.out V hSV; go_simp; all_goals (with_reducible rfl))
          (try simp only [Act.put, List.setIfInBounds_toArray, List.set_cons_zero, List.set_cons_succ])
          refine' takeG (i := 2) (v := _) rfl (by kernel_rfl) (by kernel_rfl) (by kernel_rfl) (by kernel_rfl) (fun _ _ _ h => h) (by rfl) (rfl) ?_ ?_; rotate_left
          · (intro V hSV; have e1 := HTx.out V hSV; go_simp; all_goals (with_reducible rfl))
          (try simp only [Act.put, List.setIfInBounds_toArray, List.set_cons_zero, List.set_cons_succ])
          refine' takeG (i := 3) (v := _) rfl (by kernel_rfl) (by kernel_rfl) (by kernel_rfl) (by kernel_rfl) (fun _ _ _ h => h) (by rfl) (rfl) ?_ ?_; rotate_left
          · (intro V hSV; have e1 := HTx.out V hSV; go_simp; all_goals (with_reducible rfl))
          (try simp only [Act.put, List.setIfInBounds_toArray, List.set_cons_zero, List.set_cons_succ])
          refine' takeG (i := 5) (v := _) rfl (by kernel_rfl) (by kernel_rfl) (by kernel_rfl) (by kernel_rfl) (fun _ _ _ h => h) (by rfl) (rfl) ?_ ?_; rotate_left
          · (intro V hSV; have e1 := HTx.out V hSV; go_simp; all_goals (with_reducible rfl))
          (try simp only [Act.put, List.setIfInBounds_toArray, List.set_cons_zero, List.set_cons_succ])
          refine' takeG (i := 6) (v := _) rfl (by kernel_rfl) (by kernel_rfl) (by kernel_rfl) (by kernel_rfl) (fun _ _ _ h => h) (by rfl) (rfl) ?_ ?_; rotate_left
          · (intro V hSV; have e1 := HTx.out V hSV; go_simp; all_goals (with_reducible rfl))
          (try simp only [Act.put, List.setIfInBounds_toArray, List.set_cons_zero, List.set_cons_succ])
          refine' takeG (i := 7) (v := _) rfl (by kernel_rfl) (by kernel_rfl) (by kernel_rfl) (by kernel_rfl) (fun _ _ _ h => h) (by rfl) (rfl) ?_ ?_; rotate_left
          · (intro V hSV; have e1 := HTx.out V hSV; go_simp; all_goals (with_reducible rfl))
          (try simp only [Act.put, List.setIfInBounds_toArray, List.set_cons_zero, List.set_cons_succ])
          refine' takeG (i := 8) (v := _) rfl (by kernel_rfl) (by kernel_rfl) (by kernel_rfl) (by kernel_rfl) (fun _ _ _ h => h) (by rfl) (rfl) ?_ ?_; rotate_left
          · (intro V hSV; have e1 := HTx.out V hSV; go_simp; all_goals (with_reducible rfl))
          (try simp only [Act.put, List.setIfInBounds_toArray, List.set_cons_zero, List.set_cons_succ])
          refine callE (i := 4) rfl (by kernel_rfl) (fun K hK => ?_)
          go_simp
          refine (two_pfree HT.out (HBN.out.trans (Below.refl wr.heap.size (wr.alloc (.cells #[.bool true, .int .u64 d.m.l.tx, .int .i64 d.m.l.lv, .int .i64 d.m.l.md, .slice d.m.la d.m.ln d.m.lc, .slice d.m.ha d.m.hn d.m.hc] 39))).drew) d.m.l.tx).mono ?_
          rintro e w5 ⟨rfl, hT5, X5, hk5, hX5⟩
          have hS5 : w5.heap[wr.heap.size]? = (wr.alloc (.cells #[.bool true, .int .u64 d.m.l.tx, .int .i64 d.m.l.lv, .int .i64 d.m.l.md, .slice d.m.la d.m.ln d.m.lc, .slice d.m.ha d.m.hn d.m.hc] 39)).heap[wr.heap.size]? := hk5.block wr.heap.size (by simp) (fun e => by have := hX5 _ e; omega)
          have HT5 := hide hT5
          refine hK.out _ _ (fun _ => hS5) ?_
          clear hT5 hk5 hX5
          clear hK K
          (try simp only [Act.put, List.setIfInBounds_toArray, List.set_cons_zero, List.set_cons_succ])
          refine callE (i := 9) rfl (by kernel_rfl) (fun K hK => ?_)
          go_simp
          refine (two_xfree HT5.out d.m.l.tx (by omega)).mono ?_
          rintro e w6 ⟨rfl, hT6, hk6⟩
          have hqb := HT.out.q0.2
          have hw5s : wr.heap.size < w5.heap.size := by
            by_cases hlt5 : wr.heap.size < w5.heap.size
            · exact hlt5
            · exfalso
              rw [Array.getElem?_eq_none (by omega)] at hS5
              have := heap_alloc_new wr (.cells #[.bool true, .int .u64 d.m.l.tx, .int .i64 d.m.l.lv, .int .i64 d.m.l.md, .slice d.m.la d.m.ln d.m.lc, .slice d.m.ha d.m.hn d.m.hc] 39)
              rw [this] at hS5; cases hS5
          have hS6 : w6.heap[wr.heap.size]? = (wr.alloc (.cells #[.bool true, .int .u64 d.m.l.tx, .int .i64 d.m.l.lv, .int .i64 d.m.l.md, .slice d.m.la d.m.ln d.m.lc, .slice d.m.ha d.m.hn d.m.hc] 39)).heap[wr.heap.size]? := (hk6.block wr.heap.size hw5s (fun e => by have e : wr.heap.size = q := e; omega)).trans hS5
          have HT6 : Hid (Two w2 w6 w2.heap.size q (k + 1) (k + 1) (stT ds (k + 1)) (stT ds (k + 1))) := by
            show Two _ _ _ _ _ _ _ _
            rw [HSt.out]
            unfold runT
            rw [if_pos HFr.out]
            exact hT6.mono (by omega) (by omega)
          refine hK.out _ _ (fun _ => hS6) ?_
          clear hT6 hk6
          clear hK K
          (try simp only [Act.put, List.setIfInBounds_toArray, List.set_cons_zero, List.set_cons_succ])
          refine callE (i := 10) rfl (by kernel_rfl) (fun K hK => ?_)
          go_simp
          refine hK.out _ _ (fun _ => hS6) ?_
          clear hK K
          (try simp only [Act.put, List.setIfInBounds_toArray, List.set_cons_zero, List.set_cons_succ])
          refine doneE (by kernel_rfl) ?_ _
          have hnn : (((freeL (stT ds k) d.m.l.tx).2 : Int) != ((freeL (stT ds k) d.m.l.tx).2 : Int)) = false := by simp
          go_upto_region 16 with fail
          obtain ⟨xa, xn, xc, va, vn, vc, hxc, hvc, hxl⟩ := xread HT6.out
          have HTq := hide (fun V (hV : Below w6.heap.size w6 V) => And.intro ((hV.cell (p := ⟨q, 0, none⟩) HT6.out.q0.2).trans hxc) ((hV.cell (p := ⟨q, 1, none⟩) HT6.out.q0.2).trans hvc))
          have HRx := hide (And.intro hxc (And.intro hvc hxl))
          clear hxc hvc hxl
          refine startT (by kernel_rfl) ?_
          refine' takeT (i := 0) (v := _) rfl (by kernel_rfl) (by kernel_rfl) (by kernel_rfl) (fun _ _ _ h => h) (by rfl) (Below.refl _ _) ?_ ?_; rotate_left
          · (intro V hSV; have tq := (HTq.out V (below_undrew hSV)); obtain ⟨t0, t1⟩ := tq; go_simp; all_goals (with_reducible rfl))
          (try simp only [Act.put, List.setIfInBounds_toArray, List.set_cons_zero, List.set_cons_succ])
          refine' takeT (i := 2) (v := _) rfl (by kernel_rfl) (by kernel_rfl) (by kernel_rfl) (fun _ _ _ h => h) (by rfl) (Below.refl _ _) ?_ ?_; rotate_left
          · (intro V hSV; have tq := (HTq.out V (below_undrew hSV)); obtain ⟨t0, t1⟩ := tq; go_simp; all_goals (with_reducible rfl))
          (try simp only [Act.put, List.setIfInBounds_toArray, List.set_cons_zero, List.set_cons_succ])
          refine' takeT (i := 3) (v := _) rfl (by kernel_rfl) (by kernel_rfl) (by kernel_rfl) (fun _ _ _ h => h) (by rfl) (Below.refl _ _) ?_ ?_; rotate_left
          · (intro V hSV; have tq := (HTq.out V (below_undrew hSV)); obtain ⟨t0, t1⟩ := tq; go_simp; all_goals (with_reducible rfl))
          (try simp only [Act.put, List.setIfInBounds_toArray, List.set_cons_zero, List.set_cons_succ])
          refine' takeT (i := 4) (v := _) rfl (by kernel_rfl) (by kernel_rfl) (by kernel_rfl) (fun _ _ _ h => h) (by rfl) (Below.refl _ _) ?_ ?_; rotate_left
          · (intro V hSV; have tq := (HTq.out V (below_undrew hSV)); obtain ⟨t0, t1⟩ := tq; go_simp; all_goals (with_reducible rfl))
          (try simp only [Act.put, List.setIfInBounds_toArray, List.set_cons_zero, List.set_cons_succ])
          refine' takeT (i := 5) (v := _) rfl (by kernel_rfl) (by kernel_rfl) (by kernel_rfl) (fun _ _ _ h => h) (by rfl) (Below.refl _ _) ?_ ?_; rotate_left
          · (intro V hSV; have tq := (HTq.out V (below_undrew hSV)); obtain ⟨t0, t1⟩ := tq; go_simp; all_goals (with_reducible rfl))
          (try simp only [Act.put, List.setIfInBounds_toArray, List.set_cons_zero, List.set_cons_succ])
          refine callT (i := 1) rfl (by kernel_rfl) (fun K hK => ?_)
          go_simp
          refine (pheldT HT6.out (by omega) w6.drew ((Below.refl _ w6).drew)).mono ?_
          rintro e w7 ⟨ya, yn, yc, ys, rfl, hy1, hy2, hy3, hb7⟩
          have HY1 := hide hy1
          have HY2 := hide hy2
          have HY3 := hide hy3
          clear hy1 hy2 hy3
          refine hK.out _ _ (hb7) ?_
          clear hK K
          (try simp only [Act.put, List.setIfInBounds_toArray, List.set_cons_zero, List.set_cons_succ])
          refine callT (i := 6) rfl (by kernel_rfl) (fun K hK => ?_)
          go_simp
          refine (sameX HRx.out.2.2.1 (below_undrew hb7) HY1.out HY2.out HY3.out).mono ?_
          rintro e w8 ⟨rfl, hb8⟩
          have hq8 := hb7.trans (hb8.mono hb7.size)
          refine hK.out _ _ (hb8) ?_
          clear hK K
          (try simp only [Act.put, List.setIfInBounds_toArray, List.set_cons_zero, List.set_cons_succ])
          refine callT (i := 7) rfl (by kernel_rfl) (fun K hK => ?_)
          go_simp
          refine hK.out _ _ (Below.refl _ _) ?_
          clear hK K
          (try simp only [Act.put, List.setIfInBounds_toArray, List.set_cons_zero, List.set_cons_succ])
          refine callT (i := 8) rfl (by kernel_rfl) (fun K hK => ?_)
          go_simp
          refine hK.out _ _ (Below.refl _ _) ?_
          clear hK K
          (try simp only [Act.put, List.setIfInBounds_toArray, List.set_cons_zero, List.set_cons_succ])
          refine' takeT (i := 9) (v := _) rfl (by kernel_rfl) (by kernel_rfl) (by kernel_rfl) (fun _ _ _ h => h) (by rfl) (Below.refl _ _) ?_ ?_; rotate_left
          · (intro V hSV; have tq := (HTq.out V ((below_undrew hq8).trans (hSV.mono (below_undrew hq8).size))); obtain ⟨t0, t1⟩ := tq; go_simp; all_goals (with_reducible rfl))
          (try simp only [Act.put, List.setIfInBounds_toArray, List.set_cons_zero, List.set_cons_succ])
          refine' takeT (i := 11) (v := _) rfl (by kernel_rfl) (by kernel_rfl) (by kernel_rfl) (fun _ _ _ h => h) (by rfl) (Below.refl _ _) ?_ ?_; rotate_left
          · (intro V hSV; have tq := (HTq.out V ((below_undrew hq8).trans (hSV.mono (below_undrew hq8).size))); obtain ⟨t0, t1⟩ := tq; go_simp; all_goals (with_reducible rfl))
          (try simp only [Act.put, List.setIfInBounds_toArray, List.set_cons_zero, List.set_cons_succ])
          refine' takeT (i := 12) (v := _) rfl (by kernel_rfl) (by kernel_rfl) (by kernel_rfl) (fun _ _ _ h => h) (by rfl) (Below.refl _ _) ?_ ?_; rotate_left
          · (intro V hSV; have tq := (HTq.out V ((below_undrew hq8).trans (hSV.mono (below_undrew hq8).size))); obtain ⟨t0, t1⟩ := tq; go_simp; all_goals (with_reducible rfl))
          (try simp only [Act.put, List.setIfInBounds_toArray, List.set_cons_zero, List.set_cons_succ])
          refine' takeT (i := 13) (v := _) rfl (by kernel_rfl) (by kernel_rfl) (by kernel_rfl) (fun _ _ _ h => h) (by rfl) (Below.refl _ _) ?_ ?_; rotate_left
          · (intro V hSV; have tq := (HTq.out V ((below_undrew hq8).trans (hSV.mono (below_undrew hq8).size))); obtain ⟨t0, t1⟩ := tq; go_simp; all_goals (with_reducible rfl))
          (try simp only [Act.put, List.setIfInBounds_toArray, List.set_cons_zero, List.set_cons_succ])
          refine' takeT (i := 14) (v := _) rfl (by kernel_rfl) (by kernel_rfl) (by kernel_rfl) (fun _ _ _ h => h) (by rfl) (Below.refl _ _) ?_ ?_; rotate_left
          · (intro V hSV; have tq := (HTq.out V ((below_undrew hq8).trans (hSV.mono (below_undrew hq8).size))); obtain ⟨t0, t1⟩ := tq; go_simp; all_goals (with_reducible rfl))
          (try simp only [Act.put, List.setIfInBounds_toArray, List.set_cons_zero, List.set_cons_succ])
          refine callT (i := 10) rfl (by kernel_rfl) (fun K hK => ?_)
          go_simp
          refine (pwaitT HT6.out (by omega) w8 (below_undrew hq8)).mono ?_
          rintro e w9 ⟨ua, un, uc, us, rfl, hy1, hy2, hy3, hb9⟩
          have HU1 := hide hy1
          have HU2 := hide hy2
          have HU3 := hide hy3
          clear hy1 hy2 hy3
          have hq9 := hq8.trans (hb9.mono hq8.size)
          refine hK.out _ _ (hb9) ?_
          clear hK K
          (try simp only [Act.put, List.setIfInBounds_toArray, List.set_cons_zero, List.set_cons_succ])
          refine callT (i := 15) rfl (by kernel_rfl) (fun K hK => ?_)
          go_simp
          refine (sameX HRx.out.2.2.2 (below_undrew hq9) HU1.out HU2.out HU3.out).mono ?_
          rintro e w10 ⟨rfl, hb10⟩
          have hq10 := hq9.trans (hb10.mono hq9.size)
          refine hK.out _ _ (hb10) ?_
          clear hK K
          (try simp only [Act.put, List.setIfInBounds_toArray, List.set_cons_zero, List.set_cons_succ])
          refine callT (i := 16) rfl (by kernel_rfl) (fun K hK => ?_)
          go_simp
          refine hK.out _ _ (Below.refl _ _) ?_
          clear hK K
          (try simp only [Act.put, List.setIfInBounds_toArray, List.set_cons_zero, List.set_cons_succ])
          refine callT (i := 17) rfl (by kernel_rfl) (fun K hK => ?_)
          go_simp
          refine hK.out _ _ (Below.refl _ _) ?_
          clear hK K
          (try simp only [Act.put, List.setIfInBounds_toArray, List.set_cons_zero, List.set_cons_succ])
          refine callT (i := 18) rfl (by kernel_rfl) (fun K hK => ?_)
          go_simp
          refine hK.out _ _ (Below.refl _ _) ?_
          clear hK K
          (try simp only [Act.put, List.setIfInBounds_toArray, List.set_cons_zero, List.set_cons_succ])
          refine' takeT (i := 19) (v := _) rfl (by kernel_rfl) (by kernel_rfl) (by kernel_rfl) (fun _ _ _ h => h) (by rfl) (Below.refl _ _) ?_ ?_; rotate_left
          · (intro V hSV; have tq := (HTq.out V ((below_undrew hq10).trans (hSV.mono (below_undrew hq10).size))); obtain ⟨t0, t1⟩ := tq; go_simp; all_goals (with_reducible rfl))
          (try simp only [Act.put, List.setIfInBounds_toArray, List.set_cons_zero, List.set_cons_succ])
          refine' takeT (i := 21) (v := _) rfl (by kernel_rfl) (by kernel_rfl) (by kernel_rfl) (fun _ _ _ h => h) (by rfl) (Below.refl _ _) ?_ ?_; rotate_left
          · (intro V hSV; have tq := (HTq.out V ((below_undrew hq10).trans (hSV.mono (below_undrew hq10).size))); obtain ⟨t0, t1⟩ := tq; go_simp; all_goals (with_reducible rfl))
          (try simp only [Act.put, List.setIfInBounds_toArray, List.set_cons_zero, List.set_cons_succ])
          refine callT (i := 20) rfl (by kernel_rfl) (fun K hK => ?_)
          go_simp
          refine (pedgeT HT6.out (by omega) w10 (below_undrew hq10)).mono ?_
          rintro e w11 ⟨ea, en, ec, rfl, he11, hb11⟩
          have HE1 := hide he11
          clear he11
          have hq11 := hq10.trans (hb11.mono hq10.size)
          refine hK.out _ _ (hb11) ?_
          clear hK K
          (try simp only [Act.put, List.setIfInBounds_toArray, List.set_cons_zero, List.set_cons_succ])
          refine callT (i := 22) rfl (by kernel_rfl) (fun K hK => ?_)
          go_simp
          refine (xedgeT HT6.out (by omega) w11 (below_undrew hq11)).mono ?_
          rintro e w12 ⟨fa, fn, fc, rfl, hf12, hb12⟩
          have HE2 := hide (HE1.out.keep hb12)
          have HF2 := hide hf12
          clear hf12
          have hq12 := hq11.trans (hb12.mono hq11.size)
          refine hK.out _ _ (hb12) ?_
          clear hK K
          (try simp only [Act.put, List.setIfInBounds_toArray, List.set_cons_zero, List.set_cons_succ])
          refine callT (i := 23) rfl (by kernel_rfl) (fun K hK => ?_)
          go_simp
          refine (sameE_self _ _ _ _ _ _ _ w12 HE2.out HF2.out).mono ?_
          rintro e w13 ⟨rfl, hb13⟩
          have hq13 := hq12.trans (hb13.mono hq12.size)
          refine hK.out _ _ (hb13) ?_
          clear hK K
          (try simp only [Act.put, List.setIfInBounds_toArray, List.set_cons_zero, List.set_cons_succ])
          refine callT (i := 24) rfl (by kernel_rfl) (fun K hK => ?_)
          go_simp
          refine hK.out _ _ (Below.refl _ _) ?_
          clear hK K
          (try simp only [Act.put, List.setIfInBounds_toArray, List.set_cons_zero, List.set_cons_succ])
          refine callT (i := 25) rfl (by kernel_rfl) (fun K hK => ?_)
          go_simp
          refine hK.out _ _ (Below.refl _ _) ?_
          clear hK K
          (try simp only [Act.put, List.setIfInBounds_toArray, List.set_cons_zero, List.set_cons_succ])
          refine wpAnyH_done (by kernel_rfl) ?_ _
          go_wp2
          go_roundg (n - (k + 1))
          case measure => omega
          case rel => exact ⟨k + 1, rfl, by go_num, by omega, HT6.out.keep (below_undrew hq13)⟩
        · have HFr := hide hfr
          have hfr' : d.fr = false := by simpa using hfr
          rw [hfr'] at d0 HBN
          have HPa := hide (two_pask HT.out HBN.out d.m HDk.out.1 HDk.out.2 HSm.out.1 HSm.out.2 (by omega))
          obtain ⟨r, hr⟩ : ∃ r, r = askL (stT ds k) d.m.l := ⟨_, rfl⟩
          have HR := hide hr
          rw [← hr] at HPa
          obtain ⟨rt, rb, rc⟩ := r
          have hnb : (rb != rb) = false := by simp
          have hnc : (rc != rc) = false := by simp
          clear hfr hfr' hr
          go_upto_region 16 with (first
            | (go_at_call 21; go_must (refine (two_xask HT5.out d.m HDk.out.1 (by omega)).mono ?_); rw [← HR.out]; rintro e w6 ⟨rfl, hT6, -⟩; have HT6 : Hid (Two w2 w6 w2.heap.size q (k + 1) (k + 1) (stT ds (k + 1)) (stT ds (k + 1))) := (by show Two _ _ _ _ _ _ _ _; rw [HSt.out]; unfold runT; rw [if_neg HFr.out, ← HR.out]; exact hT6); clear hT6)
            | (go_at_call 20; go_must (refine HPa.out.mono ?_); rintro e w5 ⟨rfl, hT5, X5, hk5, hX5⟩; have HT5 := hide hT5; obtain ⟨x0, x1, x2, x3, x4, x5⟩ := boxD wr d (hk5.block wr.heap.size (by simp) (fun e => by have := hX5 _ e; omega)); clear hT5 hk5 hX5))
          obtain ⟨xa, xn, xc, va, vn, vc, hxc, hvc, hxl⟩ := xread HT6.out
          have HTq := hide (fun V (hV : Below w6.heap.size w6 V) => And.intro ((hV.cell (p := ⟨q, 0, none⟩) HT6.out.q0.2).trans hxc) ((hV.cell (p := ⟨q, 1, none⟩) HT6.out.q0.2).trans hvc))
          have HRx := hide (And.intro hxc (And.intro hvc hxl))
          clear hxc hvc hxl
          refine startT (by kernel_rfl) ?_
          refine' takeT (i := 0) (v := _) rfl (by kernel_rfl) (by kernel_rfl) (by kernel_rfl) (fun _ _ _ h => h) (by rfl) (Below.refl _ _) ?_ ?_; rotate_left
          · (intro V hSV; have tq := (HTq.out V (below_undrew hSV)); obtain ⟨t0, t1⟩ := tq; go_simp; all_goals (with_reducible rfl))
          (try simp only [Act.put, List.setIfInBounds_toArray, List.set_cons_zero, List.set_cons_succ])
          refine' takeT (i := 2) (v := _) rfl (by kernel_rfl) (by kernel_rfl) (by kernel_rfl) (fun _ _ _ h => h) (by rfl) (Below.refl _ _) ?_ ?_; rotate_left
          · (intro V hSV; have tq := (HTq.out V (below_undrew hSV)); obtain ⟨t0, t1⟩ := tq; go_simp; all_goals (with_reducible rfl))
          (try simp only [Act.put, List.setIfInBounds_toArray, List.set_cons_zero, List.set_cons_succ])
          refine' takeT (i := 3) (v := _) rfl (by kernel_rfl) (by kernel_rfl) (by kernel_rfl) (fun _ _ _ h => h) (by rfl) (Below.refl _ _) ?_ ?_; rotate_left
          · (intro V hSV; have tq := (HTq.out V (below_undrew hSV)); obtain ⟨t0, t1⟩ := tq; go_simp; all_goals (with_reducible rfl))
          (try simp only [Act.put, List.setIfInBounds_toArray, List.set_cons_zero, List.set_cons_succ])
          refine' takeT (i := 4) (v := _) rfl (by kernel_rfl) (by kernel_rfl) (by kernel_rfl) (fun _ _ _ h => h) (by rfl) (Below.refl _ _) ?_ ?_; rotate_left
          · (intro V hSV; have tq := (HTq.out V (below_undrew hSV)); obtain ⟨t0, t1⟩ := tq; go_simp; all_goals (with_reducible rfl))
          (try simp only [Act.put, List.setIfInBounds_toArray, List.set_cons_zero, List.set_cons_succ])
          refine' takeT (i := 5) (v := _) rfl (by kernel_rfl) (by kernel_rfl) (by kernel_rfl) (fun _ _ _ h => h) (by rfl) (Below.refl _ _) ?_ ?_; rotate_left
          · (intro V hSV; have tq := (HTq.out V (below_undrew hSV)); obtain ⟨t0, t1⟩ := tq; go_simp; all_goals (with_reducible rfl))
          (try simp only [Act.put, List.setIfInBounds_toArray, List.set_cons_zero, List.set_cons_succ])
          refine callT (i := 1) rfl (by kernel_rfl) (fun K hK => ?_)
          go_simp
          refine (pheldT HT6.out (by omega) w6.drew ((Below.refl _ w6).drew)).mono ?_
          rintro e w7 ⟨ya, yn, yc, ys, rfl, hy1, hy2, hy3, hb7⟩
          have HY1 := hide hy1
          have HY2 := hide hy2
          have HY3 := hide hy3
          clear hy1 hy2 hy3
          refine hK.out _ _ (hb7) ?_
          clear hK K
          (try simp only [Act.put, List.setIfInBounds_toArray, List.set_cons_zero, List.set_cons_succ])
          refine callT (i := 6) rfl (by kernel_rfl) (fun K hK => ?_)
          go_simp
          refine (sameX HRx.out.2.2.1 (below_undrew hb7) HY1.out HY2.out HY3.out).mono ?_
          rintro e w8 ⟨rfl, hb8⟩
          have hq8 := hb7.trans (hb8.mono hb7.size)
          refine hK.out _ _ (hb8) ?_
          clear hK K
          (try simp only [Act.put, List.setIfInBounds_toArray, List.set_cons_zero, List.set_cons_succ])
          refine callT (i := 7) rfl (by kernel_rfl) (fun K hK => ?_)
          go_simp
          refine hK.out _ _ (Below.refl _ _) ?_
          clear hK K
          (try simp only [Act.put, List.setIfInBounds_toArray, List.set_cons_zero, List.set_cons_succ])
          refine callT (i := 8) rfl (by kernel_rfl) (fun K hK => ?_)
          go_simp
          refine hK.out _ _ (Below.refl _ _) ?_
          clear hK K
          (try simp only [Act.put, List.setIfInBounds_toArray, List.set_cons_zero, List.set_cons_succ])
          refine' takeT (i := 9) (v := _) rfl (by kernel_rfl) (by kernel_rfl) (by kernel_rfl) (fun _ _ _ h => h) (by rfl) (Below.refl _ _) ?_ ?_; rotate_left
          · (intro V hSV; have tq := (HTq.out V ((below_undrew hq8).trans (hSV.mono (below_undrew hq8).size))); obtain ⟨t0, t1⟩ := tq; go_simp; all_goals (with_reducible rfl))
          (try simp only [Act.put, List.setIfInBounds_toArray, List.set_cons_zero, List.set_cons_succ])
          refine' takeT (i := 11) (v := _) rfl (by kernel_rfl) (by kernel_rfl) (by kernel_rfl) (fun _ _ _ h => h) (by rfl) (Below.refl _ _) ?_ ?_; rotate_left
          · (intro V hSV; have tq := (HTq.out V ((below_undrew hq8).trans (hSV.mono (below_undrew hq8).size))); obtain ⟨t0, t1⟩ := tq; go_simp; all_goals (with_reducible rfl))
          (try simp only [Act.put, List.setIfInBounds_toArray, List.set_cons_zero, List.set_cons_succ])
          refine' takeT (i := 12) (v := _) rfl (by kernel_rfl) (by kernel_rfl) (by kernel_rfl) (fun _ _ _ h => h) (by rfl) (Below.refl _ _) ?_ ?_; rotate_left
          · (intro V hSV; have tq := (HTq.out V ((below_undrew hq8).trans (hSV.mono (below_undrew hq8).size))); obtain ⟨t0, t1⟩ := tq; go_simp; all_goals (with_reducible rfl))
          (try simp only [Act.put, List.setIfInBounds_toArray, List.set_cons_zero, List.set_cons_succ])
          refine' takeT (i := 13) (v := _) rfl (by kernel_rfl) (by kernel_rfl) (by kernel_rfl) (fun _ _ _ h => h) (by rfl) (Below.refl _ _) ?_ ?_; rotate_left
          · (intro V hSV; have tq := (HTq.out V ((below_undrew hq8).trans (hSV.mono (below_undrew hq8).size))); obtain ⟨t0, t1⟩ := tq; go_simp; all_goals (with_reducible rfl))
          (try simp only [Act.put, List.setIfInBounds_toArray, List.set_cons_zero, List.set_cons_succ])
          refine' takeT (i := 14) (v := _) rfl (by kernel_rfl) (by kernel_rfl) (by kernel_rfl) (fun _ _ _ h => h) (by rfl) (Below.refl _ _) ?_ ?_; rotate_left
          · (intro V hSV; have tq := (HTq.out V ((below_undrew hq8).trans (hSV.mono (below_undrew hq8).size))); obtain ⟨t0, t1⟩ := tq; go_simp; all_goals (with_reducible rfl))
          (try simp only [Act.put, List.setIfInBounds_toArray, List.set_cons_zero, List.set_cons_succ])
          refine callT (i := 10) rfl (by kernel_rfl) (fun K hK => ?_)
          go_simp
          refine (pwaitT HT6.out (by omega) w8 (below_undrew hq8)).mono ?_
          rintro e w9 ⟨ua, un, uc, us, rfl, hy1, hy2, hy3, hb9⟩
          have HU1 := hide hy1
          have HU2 := hide hy2
          have HU3 := hide hy3
          clear hy1 hy2 hy3
          have hq9 := hq8.trans (hb9.mono hq8.size)
          refine hK.out _ _ (hb9) ?_
          clear hK K
          (try simp only [Act.put, List.setIfInBounds_toArray, List.set_cons_zero, List.set_cons_succ])
          refine callT (i := 15) rfl (by kernel_rfl) (fun K hK => ?_)
          go_simp
          refine (sameX HRx.out.2.2.2 (below_undrew hq9) HU1.out HU2.out HU3.out).mono ?_
          rintro e w10 ⟨rfl, hb10⟩
          have hq10 := hq9.trans (hb10.mono hq9.size)
          refine hK.out _ _ (hb10) ?_
          clear hK K
          (try simp only [Act.put, List.setIfInBounds_toArray, List.set_cons_zero, List.set_cons_succ])
          refine callT (i := 16) rfl (by kernel_rfl) (fun K hK => ?_)
          go_simp
          refine hK.out _ _ (Below.refl _ _) ?_
          clear hK K
          (try simp only [Act.put, List.setIfInBounds_toArray, List.set_cons_zero, List.set_cons_succ])
          refine callT (i := 17) rfl (by kernel_rfl) (fun K hK => ?_)
          go_simp
          refine hK.out _ _ (Below.refl _ _) ?_
          clear hK K
          (try simp only [Act.put, List.setIfInBounds_toArray, List.set_cons_zero, List.set_cons_succ])
          refine callT (i := 18) rfl (by kernel_rfl) (fun K hK => ?_)
          go_simp
          refine hK.out _ _ (Below.refl _ _) ?_
          clear hK K
          (try simp only [Act.put, List.setIfInBounds_toArray, List.set_cons_zero, List.set_cons_succ])
          refine' takeT (i := 19) (v := _) rfl (by kernel_rfl) (by kernel_rfl) (by kernel_rfl) (fun _ _ _ h => h) (by rfl) (Below.refl _ _) ?_ ?_; rotate_left
          · (intro V hSV; have tq := (HTq.out V ((below_undrew hq10).trans (hSV.mono (below_undrew hq10).size))); obtain ⟨t0, t1⟩ := tq; go_simp; all_goals (with_reducible rfl))
          (try simp only [Act.put, List.setIfInBounds_toArray, List.set_cons_zero, List.set_cons_succ])
          refine' takeT (i := 21) (v := _) rfl (by kernel_rfl) (by kernel_rfl) (by kernel_rfl) (fun _ _ _ h => h) (by rfl) (Below.refl _ _) ?_ ?_; rotate_left
          · (intro V hSV; have tq := (HTq.out V ((below_undrew hq10).trans (hSV.mono (below_undrew hq10).size))); obtain ⟨t0, t1⟩ := tq; go_simp; all_goals (with_reducible rfl))
          (try simp only [Act.put, List.setIfInBounds_toArray, List.set_cons_zero, List.set_cons_succ])
          refine callT (i := 20) rfl (by kernel_rfl) (fun K hK => ?_)
          go_simp
          refine (pedgeT HT6.out (by omega) w10 (below_undrew hq10)).mono ?_
          rintro e w11 ⟨ea, en, ec, rfl, he11, hb11⟩
          have HE1 := hide he11
          clear he11
          have hq11 := hq10.trans (hb11.mono hq10.size)
          refine hK.out _ _ (hb11) ?_
          clear hK K
          (try simp only [Act.put, List.setIfInBounds_toArray, List.set_cons_zero, List.set_cons_succ])
          refine callT (i := 22) rfl (by kernel_rfl) (fun K hK => ?_)
          go_simp
          refine (xedgeT HT6.out (by omega) w11 (below_undrew hq11)).mono ?_
          rintro e w12 ⟨fa, fn, fc, rfl, hf12, hb12⟩
          have HE2 := hide (HE1.out.keep hb12)
          have HF2 := hide hf12
          clear hf12
          have hq12 := hq11.trans (hb12.mono hq11.size)
          refine hK.out _ _ (hb12) ?_
          clear hK K
          (try simp only [Act.put, List.setIfInBounds_toArray, List.set_cons_zero, List.set_cons_succ])
          refine callT (i := 23) rfl (by kernel_rfl) (fun K hK => ?_)
          go_simp
          refine (sameE_self _ _ _ _ _ _ _ w12 HE2.out HF2.out).mono ?_
          rintro e w13 ⟨rfl, hb13⟩
          have hq13 := hq12.trans (hb13.mono hq12.size)
          refine hK.out _ _ (hb13) ?_
          clear hK K
          (try simp only [Act.put, List.setIfInBounds_toArray, List.set_cons_zero, List.set_cons_succ])
          refine callT (i := 24) rfl (by kernel_rfl) (fun K hK => ?_)
          go_simp
          refine hK.out _ _ (Below.refl _ _) ?_
          clear hK K
          (try simp only [Act.put, List.setIfInBounds_toArray, List.set_cons_zero, List.set_cons_succ])
          refine callT (i := 25) rfl (by kernel_rfl) (fun K hK => ?_)
          go_simp
          refine hK.out _ _ (Below.refl _ _) ?_
          clear hK K
          (try simp only [Act.put, List.setIfInBounds_toArray, List.set_cons_zero, List.set_cons_succ])
          refine wpAnyH_done (by kernel_rfl) ?_ _
          go_wp2
          go_roundg (n - (k + 1))
          case measure => omega
          case rel => exact ⟨k + 1, rfl, by go_num, by omega, HT6.out.keep (below_undrew hq13)⟩
      · obtain rfl : k = n := by omega
        clear hB2r
        go_wp2
        go_ret
        exact ⟨rfl, HN2.out.trans (HT.out.b.mono HN2.out.size)⟩

end Go.Proofs.YtbnojmaknlfphaaDoor
