/- The reference's Meta in memory: where its parts lie; what clients were told, as plain values. The reference's Meta.one: kinds that change nothing; catalog; locks. Printed by part/gen_mxe.py. The reference's Meta.one: begin. Printed by part/gen_mxf.py. -/
import Derived.Test.YtcgiicmmfleinaaGreatDoorMxP
import Derived.Test.YtcgiicmmfleinaaGreatDoorLoA
import Derived.Test.YtcgiicmmfleinaaGreatDoorMqJ
import Derived.BigRegion
import Derived.RegionTactic
namespace Go.Proofs.YtcgiicmmfleinaaGreatDoor
open Go.RowKit NumMath Go.ChangeShapes Go.WideShapes Go.Deep
set_option linter.unusedVariables false
set_option maxRecDepth 100000

/-- where the reference's machine lies -/
structure Xm where
  p : Nat
  la : Option Addr
  ln : Nat
  lc : Nat
  tl : List MTo
  sv : Value
  ha : Option Addr
  hn : Nat
  hc : Nat
  wa : Option Addr
  wn : Nat
  wc : Nat
  hs : List ML
  ws : List ML
  ta : Option Addr
  tn : Nat
  tc : Nat
  ms : List MTb

/-- the blocks that a call of it may write -/
def Xm.X (a : Xm) (k : Nat) : Prop := k = a.p ∨ a.sv.ownBlock = some k

/-- what clients were told, against what a machine keeps -/
def LaX (tl : List MTo) (la : Int → Option (Int × Res)) : Prop :=
  ∀ cl, cl ≠ 0 → (la cl = none ∧ tl.filter (fun t => t.cl == cl) = []) ∨ (∃ t r, la cl = some (t.sq, r) ∧ t.r.p = r.p ∧ tl.filter (fun t => t.cl == cl) = [t])

theorem laX_new : LaX [] (fun _ => none) := fun cl _ => .inl ⟨rfl, rfl⟩

theorem hit_filter (tl : List MTo) (cl sq : Int) (h : cl ≠ 0) : tl.find? (hitT cl sq) = (tl.filter (fun t => t.cl == cl)).find? (fun t => decide (sq ≤ t.sq)) := by
  induction tl with
  | nil => rfl
  | cons t l ih =>
    by_cases h1 : t.cl = cl
    · have e : (t.cl == cl) = true := by simpa using h1
      have e2 : hitT cl sq t = decide (sq ≤ t.sq) := by
        unfold hitT
        rw [e, show (cl != 0) = true by simpa using h]
        simp
      rw [List.filter_cons_of_pos (by simpa using h1), List.find?_cons, List.find?_cons, e2, ih]
    · have e2 : hitT cl sq t = false := by
        unfold hitT
        rw [show (t.cl == cl) = false by simpa using h1]
        simp
      rw [List.filter_cons_of_neg (by simpa using h1), List.find?_cons, e2, ih]

theorem was_zero (tl : List MTo) (sq : Int) : wasT tl 0 sq = (resR 0, false) := by
  unfold wasT
  rw [find_no (fun j u _ _ => by unfold hitT; simp)]

theorem was_none {tl : List MTo} {la : Int → Option (Int × Res)} {cl : Int} (sq : Int) (h : LaX tl la) (h0 : cl ≠ 0) (hl : la cl = none) : wasT tl cl sq = (resR 0, false) := by
  rcases h cl h0 with ⟨-, e⟩ | ⟨t, r, e, -, -⟩
  · unfold wasT
    rw [hit_filter tl cl sq h0, e]
    rfl
  · rw [hl] at e; cases e

theorem was_some {tl : List MTo} {la : Int → Option (Int × Res)} {cl sq0 : Int} {r0 : Res} (sq : Int) (h : LaX tl la) (h0 : cl ≠ 0) (hl : la cl = some (sq0, r0)) :
    (sq0 = sq → ∃ t ∈ tl, wasT tl cl sq = (t.r, true) ∧ t.r.p = r0.p) ∧ (sq0 ≠ sq → sq < sq0 → wasT tl cl sq = (resR 1, true)) ∧ (sq0 ≠ sq → ¬ sq < sq0 → wasT tl cl sq = (resR 0, false)) := by
  rcases h cl h0 with ⟨e, -⟩ | ⟨t, r, e, ep, ef⟩
  · rw [hl] at e; cases e
  · rw [hl] at e
    have e1 : (sq0, r0) = (t.sq, r) := Option.some.inj e
    obtain ⟨rfl, rfl⟩ : sq0 = t.sq ∧ r0 = r := ⟨congrArg Prod.fst e1, congrArg Prod.snd e1⟩
    have hm : t ∈ tl := (List.mem_filter.1 (by rw [ef]; exact List.mem_singleton.2 rfl)).1
    refine ⟨fun hq => ⟨t, hm, ?_, ep⟩, fun hq hlt => ?_, fun hq hlt => ?_⟩
    · unfold wasT
      rw [hit_filter tl cl sq h0, ef, List.find?_cons, show decide (sq ≤ t.sq) = true by simp; omega]
      exact if_pos hq
    · unfold wasT
      rw [hit_filter tl cl sq h0, ef, List.find?_cons, show decide (sq ≤ t.sq) = true by simp; omega]
      exact if_neg hq
    · unfold wasT
      rw [hit_filter tl cl sq h0, ef, List.find?_cons, show decide (sq ≤ t.sq) = false by simp; omega]
      rfl

theorem filt_other (tl : List MTo) {cl k : Int} (h : k ≠ cl) : (tl.filter (fun t => t.cl != cl)).filter (fun t => t.cl == k) = tl.filter (fun t => t.cl == k) := by
  rw [List.filter_filter]
  congr 1
  funext t
  by_cases e : t.cl = k
  · simp [e, h]
  · simp [e]

theorem filt_same (tl : List MTo) (cl : Int) : (tl.filter (fun t => t.cl != cl)).filter (fun t => t.cl == cl) = [] := by
  rw [List.filter_filter, List.filter_eq_nil_iff]
  intro t _
  simp

theorem laX_note {tl : List MTo} {la : Int → Option (Int × Res)} {cl sq : Int} {r : MRr} {R : Res} (h : LaX tl la) (h0 : cl ≠ 0) (hr : r.p = R.p) : LaX (noteT tl cl sq r) (fun k => if k = cl then some (sq, R) else la k) := by
  intro k hk
  by_cases e : k = cl
  · subst e
    refine .inr ⟨⟨k, sq, r⟩, R, by simp, hr, ?_⟩
    unfold noteT
    rw [if_neg h0, List.filter_append, filt_same]
    simp
  · have e2 : (noteT tl cl sq r).filter (fun t => t.cl == k) = tl.filter (fun t => t.cl == k) := by
      unfold noteT
      rw [if_neg h0, List.filter_append, filt_other tl e]
      simp [Ne.symm e]
    dsimp only
    rw [if_neg e, e2]
    exact h k hk

theorem laX_note0 {tl : List MTo} {la : Int → Option (Int × Res)} {sq : Int} {r : MRr} (h : LaX tl la) : LaX (noteT tl 0 sq r) la := by
  intro k hk
  have e2 : (noteT tl 0 sq r).filter (fun t => t.cl == k) = tl.filter (fun t => t.cl == k) := by
    unfold noteT
    rw [if_pos rfl, List.append_nil, filt_other tl hk]
  rw [e2]
  exact h k hk

theorem note_len (tl : List MTo) (cl sq : Int) (r : MRr) : (noteT tl cl sq r).length ≤ tl.length + 1 := by
  unfold noteT
  rw [List.length_append]
  have := List.length_filter_le (fun (t : MTo) => t.cl != cl) tl
  split <;> simp <;> omega

theorem note_mem {tl : List MTo} {cl sq : Int} {r : MRr} {t : MTo} (h : t ∈ noteT tl cl sq r) : t ∈ tl ∨ t.r = r := by
  unfold noteT at h
  rcases List.mem_append.1 h with h | h
  · exact .inl (List.mem_filter.1 h).1
  · split at h
    · cases h
    · rw [List.mem_singleton] at h
      exact .inr (by rw [h])

/-- the reference's machine in memory: w0 is a world ahead of it, F are somebody else's blocks -/
structure IsXm (F : Nat → Prop) (w0 w : World) (a : Xm) (z : Nat) (S : Mac) : Prop where
  c0 : w.cell? ⟨a.p, 0, none⟩ = some (.slice a.la a.ln a.lc)
  c1 : w.cell? ⟨a.p, 1, none⟩ = some (.int .u64 S.ck)
  c2 : w.cell? ⟨a.p, 2, none⟩ = some a.sv
  c5 : w.cell? ⟨a.p, 5, none⟩ = some (.slice a.ta a.tn a.tc)
  so : OwnY laySt w w0.heap.size a.sv S.ss
  sp : a.sv.ownBlock ≠ some a.p
  lk : O3.TxT (fun j => w.cell? ⟨a.p, j, none⟩) w0 w a.p a.ha a.hn a.hc a.wa a.wn a.wc a.hs a.ws
  eh : a.hs.map ML.l = S.tab.held
  ew : a.ws.map ML.l = S.tab.wait
  hx : ∀ y, a.ha = some y → a.sv.ownBlock ≠ some y.block ∧ ¬ F y.block ∧ y.block < w.heap.size
  wx : ∀ y, a.wa = some y → a.sv.ownBlock ≠ some y.block ∧ ¬ F y.block ∧ y.block < w.heap.size
  tb : Foot (fun k => a.X k ∨ F k) w (fun V => IsY layTb V a.ta a.tn a.tc a.ms ∧ ∀ m ∈ a.ms, m.ok V)
  tm : a.ms.map MTb.t = S.tbs
  ft : a.ta = none ∨ ∃ g off, a.ta = some ⟨g, off, none⟩
  lo : Foot (fun k => a.X k ∨ F k) w (fun V => IsY layTo V a.la a.ln a.lc a.tl ∧ ∀ t ∈ a.tl, t.r.ok V)
  lx : LaX a.tl S.la
  ll : a.tl.length ≤ z
  fx : ∀ k, F k → w0.heap.size ≤ k ∧ k < w.heap.size
  fd : ∀ k, F k → ¬ a.X k
  i : MacI z S

theorem O3.TxT.re {oc : Nat → Option Value} {w0 w : World} {q : Nat} {ha : Option Addr} {hn hc : Nat} {wa : Option Addr} {wn wc : Nat} {hs ws : List ML} (h : O3.TxT oc w0 w q ha hn hc wa wn wc hs ws) : O3.TxT (fun j => w.cell? ⟨q, j, none⟩) w0 w q ha hn hc wa wn wc hs ws :=
  { h with oc := fun _ _ _ => rfl }

theorem IsXm.lt {F : Nat → Prop} {w0 w : World} {a : Xm} {z : Nat} {S : Mac} (h : IsXm F w0 w a z S) : a.p < w.heap.size := h.lk.lt

theorem IsXm.xl {F : Nat → Prop} {w0 w : World} {a : Xm} {z : Nat} {S : Mac} (h : IsXm F w0 w a z S) : ∀ k, a.X k → w0.heap.size ≤ k ∧ k < w.heap.size := by
  intro k hk
  rcases hk with rfl | hk
  · exact ⟨h.lk.q0, h.lk.lt⟩
  · exact h.so.lt k hk

theorem IsXm.keep {F : Nat → Prop} {w0 w w' : World} {a : Xm} {z : Nat} {S : Mac} (h : IsXm F w0 w a z S) (hb : Below w.heap.size w w') : IsXm F w0 w' a z S :=
  ⟨(hb.cell (p := ⟨a.p, 0, none⟩) h.lt).trans h.c0, (hb.cell (p := ⟨a.p, 1, none⟩) h.lt).trans h.c1, (hb.cell (p := ⟨a.p, 2, none⟩) h.lt).trans h.c2, (hb.cell (p := ⟨a.p, 5, none⟩) h.lt).trans h.c5, h.so.keep hb, h.sp, (h.lk.keep hb).re, h.eh, h.ew,
   fun y hy => ⟨(h.hx y hy).1, (h.hx y hy).2.1, Nat.lt_of_lt_of_le (h.hx y hy).2.2 hb.size⟩, fun y hy => ⟨(h.wx y hy).1, (h.wx y hy).2.1, Nat.lt_of_lt_of_le (h.wx y hy).2.2 hb.size⟩, h.tb.keep hb, h.tm, h.ft, h.lo.keep hb, h.lx, h.ll, fun k hk => ⟨(h.fx k hk).1, Nat.lt_of_lt_of_le (h.fx k hk).2 hb.size⟩, h.fd, h.i⟩

/-- somebody else's blocks are written -/
theorem IsXm.other {F G : Nat → Prop} {w0 w w' : World} {a : Xm} {z : Nat} {S : Mac} (h : IsXm F w0 w a z S) (hk : Keeps F w w') (hG : ∀ k, G k → (F k ∨ w.heap.size ≤ k) ∧ k < w'.heap.size) : IsXm G w0 w' a z S := by
  have hp : w'.heap[a.p]? = w.heap[a.p]? := hk.block a.p h.lt (fun hf => h.fd _ hf (.inl rfl))
  have hs := h.lk.b0.size
  have hGF : ∀ k, (a.X k ∨ G k) → (a.X k ∨ F k) ∨ w.heap.size ≤ k := fun k hk2 => by
    rcases hk2 with h1 | h1
    · exact .inl (.inl h1)
    · rcases (hG k h1).1 with h2 | h2
      · exact .inl (.inr h2)
      · exact .inr h2
  have hk2 : Keeps (fun k => a.X k ∨ F k) w w' := Keeps.wider hk (fun k hk => .inr hk)
  have hcell : ∀ j, w'.cell? ⟨a.p, j, none⟩ = w.cell? ⟨a.p, j, none⟩ := fun j => World.cell?_of_block (a := ⟨a.p, j, none⟩) hp
  have ho : ∀ {y : Option Addr}, (∀ b, y = some b → a.sv.ownBlock ≠ some b.block ∧ ¬ F b.block ∧ b.block < w.heap.size) → ∀ b, y = some b → a.sv.ownBlock ≠ some b.block ∧ ¬ G b.block ∧ b.block < w'.heap.size := fun hy b hb => ⟨(hy b hb).1, fun hg => by
    rcases (hG _ hg).1 with h2 | h2
    · exact (hy b hb).2.1 h2
    · have := (hy b hb).2.2; omega, Nat.lt_of_lt_of_le (hy b hb).2.2 hk.size⟩
  refine ⟨(hcell 0).trans h.c0, (hcell 1).trans h.c1, (hcell 2).trans h.c2, (hcell 5).trans h.c5, h.so.lies (fun g hg => hk.block g (h.so.lt g hg).2 (fun hf => h.fd _ hf (.inr hg))), h.sp, ?_, h.eh, h.ew, ho h.hx, ho h.wx, h.tb.step hk2 hGF, h.tm, h.ft, h.lo.step hk2 hGF, h.lx, h.ll, fun k hg => ⟨?_, (hG k hg).2⟩, fun k hg hx => ?_, h.i⟩
  · exact ⟨(hcell 3).trans h.lk.c0, (hcell 4).trans h.lk.c1, Nat.lt_of_lt_of_le h.lt hk.size, fun j => (World.frozen?_of_block (a := ⟨a.p, j, none⟩) hp).trans (h.lk.fz j), h.lk.h.lies hk (.inr (fun y hy => (h.hx y hy).2.1)), h.lk.wt.lies hk (.inr (fun y hy => (h.wx y hy).2.1)), h.lk.b0.trans (hk.below hs (fun k hf => (h.fx k hf).1)), h.lk.q0, h.lk.ho, h.lk.wo, h.lk.oh, h.lk.ow, h.lk.fh, h.lk.fw, fun _ _ _ => rfl⟩
  · rcases (hG k hg).1 with h2 | h2
    · exact (h.fx k h2).1
    · omega
  · rcases (hG k hg).1 with h2 | h2
    · exact h.fd k h2 hx
    · have := (h.xl k hx).2; omega

theorem IsXm.more {F : Nat → Prop} {w0 w : World} {a : Xm} {z y : Nat} {S : Mac} (h : IsXm F w0 w a z S) (hz : z ≤ y) : IsXm F w0 w a y S :=
  { h with ll := Nat.le_trans h.ll hz, i := h.i.mono hz }

/-- what a call of the reference's machine leaves -/
def XsPost (F : Nat → Prop) (w0 w : World) (a : Xm) (z : Nat) (x : Res × Mac) (e : Ending) (w' : World) : Prop :=
  ∃ (a' : Xm) (r : MRr), e = .returned (.agg #[.int .i64 r.er, .int .u64 r.tx, .int .u64 r.ts, .bool r.fl, .slice r.ss.a r.ss.n r.ss.c, .slice r.ce.a r.ce.n r.ce.c, .slice r.tb.a r.tb.n r.tb.c]) ∧ r.p = x.1.p ∧ Foot (fun k => a'.X k ∨ F k) w' (fun V => r.ok V) ∧ IsXm F w0 w' a' z x.2 ∧ a'.p = a.p ∧ Keeps a.X w w' ∧ ∀ k, a'.X k → a.X k ∨ w.heap.size ≤ k

end Go.Proofs.YtcgiicmmfleinaaGreatDoor

namespace Go.Proofs.YtcgiicmmfleinaaGreatDoor
open Go.RowKit NumMath Go.ChangeShapes Go.WideShapes Go.Deep
set_option linter.unusedVariables false
set_option linter.unusedSimpArgs false
set_option maxRecDepth 100000

/-- an answer that changes nothing of the machine -/
theorem xs_same {F : Nat → Prop} {w0 w W : World} {a : Xm} {z y : Nat} {S : Mac} (h : IsXm F w0 w a z S) (hb : Below w.heap.size w W) (r : MRr) {R : Res} (hr : r.p = R.p) (hf : Foot (fun k => a.X k ∨ F k) w (fun V => r.ok V)) (hz : z ≤ y) :
    XsPost F w0 w a y (R, S) (.returned (.agg #[.int .i64 r.er, .int .u64 r.tx, .int .u64 r.ts, .bool r.fl, .slice r.ss.a r.ss.n r.ss.c, .slice r.ce.a r.ce.n r.ce.c, .slice r.tb.a r.tb.n r.tb.c])) W :=
  ⟨a, r, rfl, hr, hf.keep hb, (h.keep hb).more hz, rfl, Below.keeps hb _, fun k hk => .inl hk⟩

/-- a box of a call of its own is somebody else's, as long as it works -/
theorem IsXm.box {F : Nat → Prop} {w0 w W : World} {a : Xm} {z : Nat} {S : Mac} (h : IsXm F w0 w a z S) (hb : Below w.heap.size w W) {b : Nat} (h1 : w.heap.size ≤ b) (h2 : b < W.heap.size) : IsXm (fun k => F k ∨ k = b) w0 W a z S :=
  h.other (Below.keeps hb F) (fun k hk => by
    rcases hk with hk | rfl
    · exact ⟨.inl hk, Nat.lt_of_lt_of_le (h.fx k hk).2 hb.size⟩
    · exact ⟨.inr h1, h2⟩)

/-- the end of a call: its result is laid into its box -/
theorem xs_done {F : Nat → Prop} {w0 w W3 V W : World} {a a' : Xm} {z y b : Nat} {S : Mac} {x : Res × Mac} (h : IsXm F w0 w a z S) (hb : Below w.heap.size w W3) (hkp : Keeps a.X W3 V) (h' : IsXm (fun k => F k ∨ k = b) w0 V a' y x.2) (hX : ∀ k, a'.X k → a.X k ∨ w.heap.size ≤ k) (hp : a'.p = a.p) (hb1 : w.heap.size ≤ b) (hkk : Keeps (fun k => k = b) V W) (r : MRr) (hr : r.p = x.1.p) (hf : Foot (fun k => a'.X k ∨ (F k ∨ k = b)) V (fun V => r.ok V)) :
    XsPost F w0 w a y x (.returned (.agg #[.int .i64 r.er, .int .u64 r.tx, .int .u64 r.ts, .bool r.fl, .slice r.ss.a r.ss.n r.ss.c, .slice r.ce.a r.ce.n r.ce.c, .slice r.tb.a r.tb.n r.tb.c])) W := by
  refine ⟨a', r, rfl, hr, ?_, ?_, hp, ?_, hX⟩
  · exact hf.step (Keeps.wider hkk (fun k hk => .inr (.inr hk))) (fun k hk => by
      rcases hk with hk | hk
      · exact .inl (.inl hk)
      · exact .inl (.inr (.inl hk)))
  · exact h'.other (Keeps.wider hkk (fun k hk => .inr hk)) (fun k hk => ⟨.inl (.inl hk), Nat.lt_of_lt_of_le (h'.fx k (.inl hk)).2 hkk.size⟩)
  · exact kpThen (kpThen (Below.keeps hb _) (fun k hk => .inl hk) hkp) (fun k (e : k = b) => .inr (by omega)) hkk

/-- the locks as a call of them leaves them -/
theorem IsXm.lockd {F : Nat → Prop} {w0 w w' : World} {a : Xm} {z y : Nat} {S : Mac} (h : IsXm F w0 w a z S) {T : Tab} {ha' : Option Addr} {hn' hc' : Nat} {wa' : Option Addr} {wn' wc' : Nat} {hs' ws' : List ML}
    (hN : O3.TxN (fun j => w.cell? ⟨a.p, j, none⟩) w0 w a.p a.ha a.wa T w' ha' hn' hc' wa' wn' wc' hs' ws') (hi : MacI y { S with tab := T }) (hz : z ≤ y) :
    IsXm F w0 w' { a with ha := ha', hn := hn', hc := hc', wa := wa', wn := wn', wc := wc', hs := hs', ws := ws' } y { S with tab := T } := by
  have hcell : ∀ j, j ≠ 3 → j ≠ 4 → w'.cell? ⟨a.p, j, none⟩ = w.cell? ⟨a.p, j, none⟩ := hN.tt.oc
  have hk2 : Keeps (fun k => a.X k ∨ F k) w w' := Keeps.wider hN.kp (fun k hk => .inl (.inl hk))
  have ho : ∀ {x x' : Option Addr}, (∀ b, x = some b → a.sv.ownBlock ≠ some b.block ∧ ¬ F b.block ∧ b.block < w.heap.size) → (x' = x ∨ ∀ b, x' = some b → w.heap.size ≤ b.block ∧ b.block < w'.heap.size) → ∀ b, x' = some b → a.sv.ownBlock ≠ some b.block ∧ ¬ F b.block ∧ b.block < w'.heap.size := by
    intro x x' hx he b hb
    rcases he with rfl | he
    · exact ⟨(hx b hb).1, (hx b hb).2.1, Nat.lt_of_lt_of_le (hx b hb).2.2 hN.kp.size⟩
    · have h1 := he b hb
      refine ⟨fun e => ?_, fun e => ?_, h1.2⟩
      · have := (h.so.lt _ e).2; omega
      · have := (h.fx _ e).2; omega
  exact ⟨(hcell 0 (by omega) (by omega)).trans h.c0, (hcell 1 (by omega) (by omega)).trans h.c1, (hcell 2 (by omega) (by omega)).trans h.c2, (hcell 5 (by omega) (by omega)).trans h.c5, h.so.lies (fun g hg => hN.kp.block g (h.so.lt g hg).2 (fun e => h.sp (by rw [hg, e]))), h.sp, hN.tt.re, hN.eh, hN.ew, ho h.hx hN.ph, ho h.wx hN.pw, h.tb.step hk2 (fun k hk => .inl hk), h.tm, h.ft, h.lo.step hk2 (fun k hk => .inl hk), h.lx, Nat.le_trans h.ll hz, fun k hk => ⟨(h.fx k hk).1, Nat.lt_of_lt_of_le (h.fx k hk).2 hN.kp.size⟩, h.fd, hi⟩

set_option maxHeartbeats 4000000 in
theorem xone0_any {F : Nat → Prop} {w0 w : World} {a : Xm} {z : Nat} {S : Mac} (h : IsXm F w0 w a z S) (c : MCmd) (hc : c.ok w0) (hf : c.c.Few) (hz : z ≤ 159) (hn1 : c.kd ≠ 1) (hn2 : c.kd ≠ 2) (hn3 : c.kd ≠ 3) (hn4 : c.kd ≠ 4) (hn5 : c.kd ≠ 5) (hn6 : c.kd ≠ 6) (hn7 : c.kd ≠ 7) :
    Calls Tryz.prog 30 #[.pointer (some ⟨a.p, 0, none⟩), .agg #[.int .u64 c.cl, .int .u64 c.sq, .int .i64 c.kd, .int .u64 c.tx, .int .u64 c.ts, .bool c.fl, .int .u64 c.lk.l.tx, .int .i64 c.lk.l.lv, .int .i64 c.lk.l.md, .slice c.lk.la c.lk.ln c.lk.lc, .slice c.lk.ha c.lk.hn c.lk.hc, .slice c.lo.a c.lo.n c.lo.c, .slice c.hi.a c.hi.n c.hi.c, .slice c.txs.a c.txs.n c.txs.c, .slice c.ws.a c.ws.n c.ws.c, .slice c.ks.a c.ks.n c.ks.c, .int .i64 c.tb.id, .string (strB c.tb.nm), .slice c.tb.cs.a c.tb.cs.n c.tb.cs.c, .int .i64 c.tb.ky, .slice c.tb.ix.a c.tb.ix.n c.tb.ix.c]] w (XsPost F w0 w a (z + 1) (oneM S c.c)) := by
  obtain ⟨W1, hW1⟩ : ∃ W1, W1 = ((w.alloc (.cells #[.int .u64 c.cl, .int .u64 c.sq, .int .i64 c.kd, .int .u64 c.tx, .int .u64 c.ts, .bool c.fl, .int .u64 c.lk.l.tx, .int .i64 c.lk.l.lv, .int .i64 c.lk.l.md, .slice c.lk.la c.lk.ln c.lk.lc, .slice c.lk.ha c.lk.hn c.lk.hc, .slice c.lo.a c.lo.n c.lo.c, .slice c.hi.a c.hi.n c.hi.c, .slice c.txs.a c.txs.n c.txs.c, .slice c.ws.a c.ws.n c.ws.c, .slice c.ks.a c.ks.n c.ks.c, .int .i64 c.tb.id, .string (strB c.tb.nm), .slice c.tb.cs.a c.tb.cs.n c.tb.cs.c, .int .i64 c.tb.ky, .slice c.tb.ix.a c.tb.ix.n c.tb.ix.c] 50)).alloc (.cells #[.int .i64 0, .int .u64 0, .int .u64 0, .bool false, .slice none 0 0, .slice none 0 0, .slice none 0 0] 55)) := ⟨_, rfl⟩
  have hb1 : Below w.heap.size w W1 := by
    rw [hW1]
    exact (new_below w _).trans ((new_below _ _).mono (new_below w _).size)
  have hl1 : W1.heap.size = w.heap.size + 2 := by rw [hW1]; simp
  have HX : Hid (∀ V, Below W1.heap.size W1 V → V.rangeAt w.heap.size 0 (layCm.cells c) ∧ V.rangeAt (w.heap.size + 1) 0 [.int .i64 0, .int .u64 0, .int .u64 0, .bool false, .slice none 0 0, .slice none 0 0, .slice none 0 0] ∧ ∀ j, V.frozen? ⟨w.heap.size + 1, j, none⟩ = false) := by
    intro V hb
    refine ⟨?_, ?_, fun j => ?_⟩
    · subst hW1
      exact (two_boxes w #[.int .u64 c.cl, .int .u64 c.sq, .int .i64 c.kd, .int .u64 c.tx, .int .u64 c.ts, .bool c.fl, .int .u64 c.lk.l.tx, .int .i64 c.lk.l.lv, .int .i64 c.lk.l.md, .slice c.lk.la c.lk.ln c.lk.lc, .slice c.lk.ha c.lk.hn c.lk.hc, .slice c.lo.a c.lo.n c.lo.c, .slice c.hi.a c.hi.n c.hi.c, .slice c.txs.a c.txs.n c.txs.c, .slice c.ws.a c.ws.n c.ws.c, .slice c.ks.a c.ks.n c.ks.c, .int .i64 c.tb.id, .string (strB c.tb.nm), .slice c.tb.cs.a c.tb.cs.n c.tb.cs.c, .int .i64 c.tb.ky, .slice c.tb.ix.a c.tb.ix.n c.tb.ix.c] #[.int .i64 0, .int .u64 0, .int .u64 0, .bool false, .slice none 0 0, .slice none 0 0, .slice none 0 0] 50 55 V hb).1
    · subst hW1
      exact (two_boxes w #[.int .u64 c.cl, .int .u64 c.sq, .int .i64 c.kd, .int .u64 c.tx, .int .u64 c.ts, .bool c.fl, .int .u64 c.lk.l.tx, .int .i64 c.lk.l.lv, .int .i64 c.lk.l.md, .slice c.lk.la c.lk.ln c.lk.lc, .slice c.lk.ha c.lk.hn c.lk.hc, .slice c.lo.a c.lo.n c.lo.c, .slice c.hi.a c.hi.n c.hi.c, .slice c.txs.a c.txs.n c.txs.c, .slice c.ws.a c.ws.n c.ws.c, .slice c.ks.a c.ks.n c.ks.c, .int .i64 c.tb.id, .string (strB c.tb.nm), .slice c.tb.cs.a c.tb.cs.n c.tb.cs.c, .int .i64 c.tb.ky, .slice c.tb.ix.a c.tb.ix.n c.tb.ix.c] #[.int .i64 0, .int .u64 0, .int .u64 0, .bool false, .slice none 0 0, .slice none 0 0, .slice none 0 0] 50 55 V hb).2
    · rw [hb.frozen (p := ⟨w.heap.size + 1, j, none⟩) (by show w.heap.size + 1 < W1.heap.size; omega), hW1]
      have h := fzY_new (w.alloc (.cells #[.int .u64 c.cl, .int .u64 c.sq, .int .i64 c.kd, .int .u64 c.tx, .int .u64 c.ts, .bool c.fl, .int .u64 c.lk.l.tx, .int .i64 c.lk.l.lv, .int .i64 c.lk.l.md, .slice c.lk.la c.lk.ln c.lk.lc, .slice c.lk.ha c.lk.hn c.lk.hc, .slice c.lo.a c.lo.n c.lo.c, .slice c.hi.a c.hi.n c.hi.c, .slice c.txs.a c.txs.n c.txs.c, .slice c.ws.a c.ws.n c.ws.c, .slice c.ks.a c.ks.n c.ks.c, .int .i64 c.tb.id, .string (strB c.tb.nm), .slice c.tb.cs.a c.tb.cs.n c.tb.cs.c, .int .i64 c.tb.ky, .slice c.tb.ix.a c.tb.ix.n c.tb.ix.c] 50)) #[.int .i64 0, .int .u64 0, .int .u64 0, .bool false, .slice none 0 0, .slice none 0 0, .slice none 0 0] 55 j
      rwa [World.size_alloc] at h
  obtain ⟨sa, sn, sc, hsv⟩ := h.so.any3
  have hI : IsY laySt w sa sn sc S.ss := by
    have h2 := h.so
    rw [hsv] at h2
    exact h2.is
  have hc2 : w.cell? ⟨a.p, 2, none⟩ = some (.slice sa sn sc) := by rw [← hsv]; exact h.c2
  have hst := xstate_any a.p sa sn sc S.ss c.tx W1 (Nat.lt_of_lt_of_le h.lt hb1.size) ((hb1.cell (p := ⟨a.p, 2, none⟩) h.lt).trans hc2) (hI.keep hb1) h.i.nx hf.tx
  obtain ⟨s, hs⟩ : ∃ s, staM S.ss c.tx = s := ⟨_, rfl⟩
  obtain ⟨b, hbb⟩ : ∃ b, hasM S.ss c.tx = b := ⟨_, rfl⟩
  rw [hs, hbb] at hst
  have HSt := hide hst
  have HI := hide h
  have HCo := hide hc
  have HFw := hide hf
  have HB1 := hide hb1
  have HL1 := hide hl1
  have HS := hide hs
  have HBb := hide hbb
  have HSv := hide hsv
  have HSY := hide hI
  have x3 : W1.cell? ⟨w.heap.size, 3, none⟩ = some (.int .u64 c.tx) := (HX.out W1 (Below.refl _ _)).1 3 _ rfl
  have hpl := h.lt
  have hpw : ¬ w.heap.size = a.p := by omega
  have hpw2 : ¬ w.heap.size + 1 = a.p := by omega
  clear h hc hf hb1 hl1 hst hs hbb hsv hI hc2
  go_enter Tryz.func30, Tryz.ntmps30
  go_upto_region 1 with fail
  rw [← hW1]
  clear hW1
  go_upto_region 2 with (first
    | (go_at_call 82; go_must (refine HSt.out.mono ?_); rintro e w2 ⟨rfl, hb2⟩; have HB2 := hide hb2; clear hb2))
  obtain ⟨W3, hW3⟩ : ∃ W3, W3 = w2.alloc (.cells #[.int .u64 s.tx, .int .i64 s.st, .int .u64 s.ts] 80) := ⟨_, rfl⟩
  rw [← hW3]
  have HN3 : Hid (Below w2.heap.size w2 W3) := by rw [hW3]; exact new_below _ _
  have HR3 : Hid (W3.rangeAt w2.heap.size 0 (laySt.cells s)) := by
    rw [hW3]
    exact rangeY_new w2 w2.heap.size _ _ rfl
  have HFz3 : Hid (∀ j, W3.frozen? ⟨w2.heap.size, j, none⟩ = false) := by
    rw [hW3]
    exact fun j => fzY_new _ _ _ _
  have HL3 : Hid (w2.heap.size < W3.heap.size) := by
    rw [hW3]
    exact (Array.getElem?_eq_some_iff.1 (heap_alloc_new _ _)).1
  have HB3 : Hid (Below W1.heap.size W1 W3) := HB2.out.trans (HN3.out.mono HB2.out.size)
  have HBw : Hid (Below w.heap.size w W3) := HB1.out.trans (HB3.out.mono HB1.out.size)
  clear hW3 x3 HSt
  have x2 : W3.cell? ⟨w.heap.size, 2, none⟩ = some (.int .i64 c.kd) := (HX.out W3 HB3.out).1 2 _ rfl
  have d1 : (c.kd == 1) = false := by simpa using hn1
  have e1 : decide (c.kd = 1) = false := by simpa using hn1
  have d2 : (c.kd == 2) = false := by simpa using hn2
  have e2 : decide (c.kd = 2) = false := by simpa using hn2
  have d3 : (c.kd == 3) = false := by simpa using hn3
  have e3 : decide (c.kd = 3) = false := by simpa using hn3
  have d4 : (c.kd == 4) = false := by simpa using hn4
  have e4 : decide (c.kd = 4) = false := by simpa using hn4
  have d5 : (c.kd == 5) = false := by simpa using hn5
  have e5 : decide (c.kd = 5) = false := by simpa using hn5
  have d6 : (c.kd == 6) = false := by simpa using hn6
  have e6 : decide (c.kd = 6) = false := by simpa using hn6
  have d7 : (c.kd == 7) = false := by simpa using hn7
  have e7 : decide (c.kd = 7) = false := by simpa using hn7
  have HE : Hid (oneM S c.c = (errR 1, S)) := by
    show _ = _
    unfold oneM
    rw [if_neg (show ¬ c.c.kd = 1 from hn1), if_neg (show ¬ c.c.kd = 2 from hn2), if_neg (show ¬ c.c.kd = 3 from hn3), if_neg (show ¬ c.c.kd = 4 from hn4), if_neg (show ¬ c.c.kd = 5 from hn5), if_neg (show ¬ c.c.kd = 6 from hn6), if_neg (show ¬ c.c.kd = 7 from hn7)]
  clear hn1 hn2 hn3 hn4 hn5 hn6 hn7
  obtain ⟨-, z, zf⟩ := HX.out W3 HB3.out
  have z0 : W3.cell? ⟨w.heap.size + 1, 0, none⟩ = some (.int .i64 0) := z 0 _ rfl
  have z1 : W3.cell? ⟨w.heap.size + 1, 1, none⟩ = some (.int .u64 0) := z 1 _ rfl
  have z2 : W3.cell? ⟨w.heap.size + 1, 2, none⟩ = some (.int .u64 0) := z 2 _ rfl
  have z3 : W3.cell? ⟨w.heap.size + 1, 3, none⟩ = some (.bool false) := z 3 _ rfl
  have z4 : W3.cell? ⟨w.heap.size + 1, 4, none⟩ = some (.slice none 0 0) := z 4 _ rfl
  have z5 : W3.cell? ⟨w.heap.size + 1, 5, none⟩ = some (.slice none 0 0) := z 5 _ rfl
  have z6 : W3.cell? ⟨w.heap.size + 1, 6, none⟩ = some (.slice none 0 0) := z 6 _ rfl
  have g0 := zf 0
  have g1 := zf 1
  have g2 := zf 2
  have g3 := zf 3
  have g4 := zf 4
  have g5 := zf 5
  have g6 := zf 6
  clear z zf
  go_wp2
  change bodyPost _ _ _ _ _ (W3.setCells (w.heap.size + 1) 0 [.int .i64 1, .int .u64 0, .int .u64 0, .bool false, .slice none 0 0, .slice none 0 0, .slice none 0 0])
  have hr := box_set (V := W3) (b := w.heap.size + 1) (new := [.int .i64 1, .int .u64 0, .int .u64 0, .bool false, .slice none 0 0, .slice none 0 0, .slice none 0 0]) (HX.out W3 HB3.out).2.1 (Nat.le_refl _) (HX.out W3 HB3.out).2.2
  have r0 := hr 0 _ rfl
  have r1 := hr 1 _ rfl
  have r2 := hr 2 _ rfl
  have r3 := hr 3 _ rfl
  have r4 := hr 4 _ rfl
  have r5 := hr 5 _ rfl
  have r6 := hr 6 _ rfl
  have hbe := box_below (l := [.int .i64 1, .int .u64 0, .int .u64 0, .bool false, .slice none 0 0, .slice none 0 0, .slice none 0 0]) HBw.out (show w.heap.size ≤ w.heap.size + 1 by omega)
  clear hr
  generalize W3.setCells (w.heap.size + 1) 0 [.int .i64 1, .int .u64 0, .int .u64 0, .bool false, .slice none 0 0, .slice none 0 0, .slice none 0 0] = W at *
  refine bodyPost_ret (v := .agg #[.int .i64 1, .int .u64 0, .int .u64 0, .bool false, .slice none 0 0, .slice none 0 0, .slice none 0 0]) (by simp [results, Tryz.results30, go_sem, r0, r1, r2, r3, r4, r5, r6]) rfl ?_
  rw [HE.out]
  exact xs_same HI.out hbe (resR 1) rfl (foot_pure (fun V => resR_ok 1 V)) (Nat.le_succ _)

set_option maxHeartbeats 4000000 in
theorem xone7_any {F : Nat → Prop} {w0 w : World} {a : Xm} {z : Nat} {S : Mac} (h : IsXm F w0 w a z S) (c : MCmd) (hc : c.ok w0) (hf : c.c.Few) (hz : z ≤ 159) (hk : c.kd = 7) :
    Calls Tryz.prog 30 #[.pointer (some ⟨a.p, 0, none⟩), .agg #[.int .u64 c.cl, .int .u64 c.sq, .int .i64 c.kd, .int .u64 c.tx, .int .u64 c.ts, .bool c.fl, .int .u64 c.lk.l.tx, .int .i64 c.lk.l.lv, .int .i64 c.lk.l.md, .slice c.lk.la c.lk.ln c.lk.lc, .slice c.lk.ha c.lk.hn c.lk.hc, .slice c.lo.a c.lo.n c.lo.c, .slice c.hi.a c.hi.n c.hi.c, .slice c.txs.a c.txs.n c.txs.c, .slice c.ws.a c.ws.n c.ws.c, .slice c.ks.a c.ks.n c.ks.c, .int .i64 c.tb.id, .string (strB c.tb.nm), .slice c.tb.cs.a c.tb.cs.n c.tb.cs.c, .int .i64 c.tb.ky, .slice c.tb.ix.a c.tb.ix.n c.tb.ix.c]] w (XsPost F w0 w a (z + 1) (oneM S c.c)) := by
  have HKd := hide hk
  clear hk
  obtain ⟨W1, hW1⟩ : ∃ W1, W1 = ((w.alloc (.cells #[.int .u64 c.cl, .int .u64 c.sq, .int .i64 c.kd, .int .u64 c.tx, .int .u64 c.ts, .bool c.fl, .int .u64 c.lk.l.tx, .int .i64 c.lk.l.lv, .int .i64 c.lk.l.md, .slice c.lk.la c.lk.ln c.lk.lc, .slice c.lk.ha c.lk.hn c.lk.hc, .slice c.lo.a c.lo.n c.lo.c, .slice c.hi.a c.hi.n c.hi.c, .slice c.txs.a c.txs.n c.txs.c, .slice c.ws.a c.ws.n c.ws.c, .slice c.ks.a c.ks.n c.ks.c, .int .i64 c.tb.id, .string (strB c.tb.nm), .slice c.tb.cs.a c.tb.cs.n c.tb.cs.c, .int .i64 c.tb.ky, .slice c.tb.ix.a c.tb.ix.n c.tb.ix.c] 50)).alloc (.cells #[.int .i64 0, .int .u64 0, .int .u64 0, .bool false, .slice none 0 0, .slice none 0 0, .slice none 0 0] 55)) := ⟨_, rfl⟩
  have hb1 : Below w.heap.size w W1 := by
    rw [hW1]
    exact (new_below w _).trans ((new_below _ _).mono (new_below w _).size)
  have hl1 : W1.heap.size = w.heap.size + 2 := by rw [hW1]; simp
  have HX : Hid (∀ V, Below W1.heap.size W1 V → V.rangeAt w.heap.size 0 (layCm.cells c) ∧ V.rangeAt (w.heap.size + 1) 0 [.int .i64 0, .int .u64 0, .int .u64 0, .bool false, .slice none 0 0, .slice none 0 0, .slice none 0 0] ∧ ∀ j, V.frozen? ⟨w.heap.size + 1, j, none⟩ = false) := by
    intro V hb
    refine ⟨?_, ?_, fun j => ?_⟩
    · subst hW1
      exact (two_boxes w #[.int .u64 c.cl, .int .u64 c.sq, .int .i64 c.kd, .int .u64 c.tx, .int .u64 c.ts, .bool c.fl, .int .u64 c.lk.l.tx, .int .i64 c.lk.l.lv, .int .i64 c.lk.l.md, .slice c.lk.la c.lk.ln c.lk.lc, .slice c.lk.ha c.lk.hn c.lk.hc, .slice c.lo.a c.lo.n c.lo.c, .slice c.hi.a c.hi.n c.hi.c, .slice c.txs.a c.txs.n c.txs.c, .slice c.ws.a c.ws.n c.ws.c, .slice c.ks.a c.ks.n c.ks.c, .int .i64 c.tb.id, .string (strB c.tb.nm), .slice c.tb.cs.a c.tb.cs.n c.tb.cs.c, .int .i64 c.tb.ky, .slice c.tb.ix.a c.tb.ix.n c.tb.ix.c] #[.int .i64 0, .int .u64 0, .int .u64 0, .bool false, .slice none 0 0, .slice none 0 0, .slice none 0 0] 50 55 V hb).1
    · subst hW1
      exact (two_boxes w #[.int .u64 c.cl, .int .u64 c.sq, .int .i64 c.kd, .int .u64 c.tx, .int .u64 c.ts, .bool c.fl, .int .u64 c.lk.l.tx, .int .i64 c.lk.l.lv, .int .i64 c.lk.l.md, .slice c.lk.la c.lk.ln c.lk.lc, .slice c.lk.ha c.lk.hn c.lk.hc, .slice c.lo.a c.lo.n c.lo.c, .slice c.hi.a c.hi.n c.hi.c, .slice c.txs.a c.txs.n c.txs.c, .slice c.ws.a c.ws.n c.ws.c, .slice c.ks.a c.ks.n c.ks.c, .int .i64 c.tb.id, .string (strB c.tb.nm), .slice c.tb.cs.a c.tb.cs.n c.tb.cs.c, .int .i64 c.tb.ky, .slice c.tb.ix.a c.tb.ix.n c.tb.ix.c] #[.int .i64 0, .int .u64 0, .int .u64 0, .bool false, .slice none 0 0, .slice none 0 0, .slice none 0 0] 50 55 V hb).2
    · rw [hb.frozen (p := ⟨w.heap.size + 1, j, none⟩) (by show w.heap.size + 1 < W1.heap.size; omega), hW1]
      have h := fzY_new (w.alloc (.cells #[.int .u64 c.cl, .int .u64 c.sq, .int .i64 c.kd, .int .u64 c.tx, .int .u64 c.ts, .bool c.fl, .int .u64 c.lk.l.tx, .int .i64 c.lk.l.lv, .int .i64 c.lk.l.md, .slice c.lk.la c.lk.ln c.lk.lc, .slice c.lk.ha c.lk.hn c.lk.hc, .slice c.lo.a c.lo.n c.lo.c, .slice c.hi.a c.hi.n c.hi.c, .slice c.txs.a c.txs.n c.txs.c, .slice c.ws.a c.ws.n c.ws.c, .slice c.ks.a c.ks.n c.ks.c, .int .i64 c.tb.id, .string (strB c.tb.nm), .slice c.tb.cs.a c.tb.cs.n c.tb.cs.c, .int .i64 c.tb.ky, .slice c.tb.ix.a c.tb.ix.n c.tb.ix.c] 50)) #[.int .i64 0, .int .u64 0, .int .u64 0, .bool false, .slice none 0 0, .slice none 0 0, .slice none 0 0] 55 j
      rwa [World.size_alloc] at h
  obtain ⟨sa, sn, sc, hsv⟩ := h.so.any3
  have hI : IsY laySt w sa sn sc S.ss := by
    have h2 := h.so
    rw [hsv] at h2
    exact h2.is
  have hc2 : w.cell? ⟨a.p, 2, none⟩ = some (.slice sa sn sc) := by rw [← hsv]; exact h.c2
  have hst := xstate_any a.p sa sn sc S.ss c.tx W1 (Nat.lt_of_lt_of_le h.lt hb1.size) ((hb1.cell (p := ⟨a.p, 2, none⟩) h.lt).trans hc2) (hI.keep hb1) h.i.nx hf.tx
  obtain ⟨s, hs⟩ : ∃ s, staM S.ss c.tx = s := ⟨_, rfl⟩
  obtain ⟨b, hbb⟩ : ∃ b, hasM S.ss c.tx = b := ⟨_, rfl⟩
  rw [hs, hbb] at hst
  have HSt := hide hst
  have HI := hide h
  have HCo := hide hc
  have HFw := hide hf
  have HB1 := hide hb1
  have HL1 := hide hl1
  have HS := hide hs
  have HBb := hide hbb
  have HSv := hide hsv
  have HSY := hide hI
  have x3 : W1.cell? ⟨w.heap.size, 3, none⟩ = some (.int .u64 c.tx) := (HX.out W1 (Below.refl _ _)).1 3 _ rfl
  have hpl := h.lt
  have hpw : ¬ w.heap.size = a.p := by omega
  have hpw2 : ¬ w.heap.size + 1 = a.p := by omega
  clear h hc hf hb1 hl1 hst hs hbb hsv hI hc2
  go_enter Tryz.func30, Tryz.ntmps30
  go_upto_region 1 with fail
  rw [← hW1]
  clear hW1
  go_upto_region 2 with (first
    | (go_at_call 82; go_must (refine HSt.out.mono ?_); rintro e w2 ⟨rfl, hb2⟩; have HB2 := hide hb2; clear hb2))
  obtain ⟨W3, hW3⟩ : ∃ W3, W3 = w2.alloc (.cells #[.int .u64 s.tx, .int .i64 s.st, .int .u64 s.ts] 80) := ⟨_, rfl⟩
  rw [← hW3]
  have HN3 : Hid (Below w2.heap.size w2 W3) := by rw [hW3]; exact new_below _ _
  have HR3 : Hid (W3.rangeAt w2.heap.size 0 (laySt.cells s)) := by
    rw [hW3]
    exact rangeY_new w2 w2.heap.size _ _ rfl
  have HFz3 : Hid (∀ j, W3.frozen? ⟨w2.heap.size, j, none⟩ = false) := by
    rw [hW3]
    exact fun j => fzY_new _ _ _ _
  have HL3 : Hid (w2.heap.size < W3.heap.size) := by
    rw [hW3]
    exact (Array.getElem?_eq_some_iff.1 (heap_alloc_new _ _)).1
  have HB3 : Hid (Below W1.heap.size W1 W3) := HB2.out.trans (HN3.out.mono HB2.out.size)
  have HBw : Hid (Below w.heap.size w W3) := HB1.out.trans (HB3.out.mono HB1.out.size)
  clear hW3 x3 HSt
  have x2 : W3.cell? ⟨w.heap.size, 2, none⟩ = some (.int .i64 c.kd) := (HX.out W3 HB3.out).1 2 _ rfl
  have HE : Hid (oneM S c.c = ({ res0 with tbs := S.tbs }, S)) := by
    show _ = _
    have hk2 : c.c.kd = 7 := HKd.out
    simp [oneM, hk2]
  rw [show c.kd = 7 from HKd.out] at x2
  have y5 : W3.cell? ⟨a.p, 5, none⟩ = some (.slice a.ta a.tn a.tc) := (HBw.out.cell (p := ⟨a.p, 5, none⟩) hpl).trans HI.out.c5
  obtain ⟨-, z, zf⟩ := HX.out W3 HB3.out
  have z0 : W3.cell? ⟨w.heap.size + 1, 0, none⟩ = some (.int .i64 0) := z 0 _ rfl
  have z1 : W3.cell? ⟨w.heap.size + 1, 1, none⟩ = some (.int .u64 0) := z 1 _ rfl
  have z2 : W3.cell? ⟨w.heap.size + 1, 2, none⟩ = some (.int .u64 0) := z 2 _ rfl
  have z3 : W3.cell? ⟨w.heap.size + 1, 3, none⟩ = some (.bool false) := z 3 _ rfl
  have z4 : W3.cell? ⟨w.heap.size + 1, 4, none⟩ = some (.slice none 0 0) := z 4 _ rfl
  have z5 : W3.cell? ⟨w.heap.size + 1, 5, none⟩ = some (.slice none 0 0) := z 5 _ rfl
  have z6 : W3.cell? ⟨w.heap.size + 1, 6, none⟩ = some (.slice none 0 0) := z 6 _ rfl
  have g0 := zf 0
  have g1 := zf 1
  have g2 := zf 2
  have g3 := zf 3
  have g4 := zf 4
  have g5 := zf 5
  have g6 := zf 6
  clear z zf
  go_wp2
  change bodyPost _ _ _ _ _ (W3.setCells (w.heap.size + 1) 0 [.int .i64 0, .int .u64 0, .int .u64 0, .bool false, .slice none 0 0, .slice none 0 0, .slice a.ta a.tn a.tc])
  have hr := box_set (V := W3) (b := w.heap.size + 1) (new := [.int .i64 0, .int .u64 0, .int .u64 0, .bool false, .slice none 0 0, .slice none 0 0, .slice a.ta a.tn a.tc]) (HX.out W3 HB3.out).2.1 (Nat.le_refl _) (HX.out W3 HB3.out).2.2
  have r0 := hr 0 _ rfl
  have r1 := hr 1 _ rfl
  have r2 := hr 2 _ rfl
  have r3 := hr 3 _ rfl
  have r4 := hr 4 _ rfl
  have r5 := hr 5 _ rfl
  have r6 := hr 6 _ rfl
  have hbe := box_below (l := [.int .i64 0, .int .u64 0, .int .u64 0, .bool false, .slice none 0 0, .slice none 0 0, .slice a.ta a.tn a.tc]) HBw.out (show w.heap.size ≤ w.heap.size + 1 by omega)
  clear hr
  generalize W3.setCells (w.heap.size + 1) 0 [.int .i64 0, .int .u64 0, .int .u64 0, .bool false, .slice none 0 0, .slice none 0 0, .slice a.ta a.tn a.tc] = W at *
  refine bodyPost_ret (v := .agg #[.int .i64 0, .int .u64 0, .int .u64 0, .bool false, .slice none 0 0, .slice none 0 0, .slice a.ta a.tn a.tc]) (by simp [results, Tryz.results30, go_sem, r0, r1, r2, r3, r4, r5, r6]) rfl ?_
  rw [HE.out]
  exact xs_same HI.out hbe ⟨0, 0, 0, false, ⟨none, 0, 0, []⟩, ⟨none, 0, 0, []⟩, ⟨a.ta, a.tn, a.tc, a.ms⟩⟩ (by
    have e2 : a.ms.map MTb.b = (a.ms.map MTb.t).map Tbl.b := by rw [List.map_map]; rfl
    show ((0, 0, 0, false, [], [], a.ms.map MTb.b) : ReP) = (0, 0, 0, false, [], [], S.tbs.map Tbl.b)
    rw [e2, HI.out.tm])
    (HI.out.tb.imp (fun V hV => ⟨isY_nil V, isY_nil V, hV.1, by simp, hV.2⟩)) (Nat.le_succ _)

set_option maxHeartbeats 4000000 in
theorem xone5_any {F : Nat → Prop} {w0 w : World} {a : Xm} {z : Nat} {S : Mac} (h : IsXm F w0 w a z S) (c : MCmd) (hc : c.ok w0) (hf : c.c.Few) (hz : z ≤ 159) (hk : c.kd = 5) :
    Calls Tryz.prog 30 #[.pointer (some ⟨a.p, 0, none⟩), .agg #[.int .u64 c.cl, .int .u64 c.sq, .int .i64 c.kd, .int .u64 c.tx, .int .u64 c.ts, .bool c.fl, .int .u64 c.lk.l.tx, .int .i64 c.lk.l.lv, .int .i64 c.lk.l.md, .slice c.lk.la c.lk.ln c.lk.lc, .slice c.lk.ha c.lk.hn c.lk.hc, .slice c.lo.a c.lo.n c.lo.c, .slice c.hi.a c.hi.n c.hi.c, .slice c.txs.a c.txs.n c.txs.c, .slice c.ws.a c.ws.n c.ws.c, .slice c.ks.a c.ks.n c.ks.c, .int .i64 c.tb.id, .string (strB c.tb.nm), .slice c.tb.cs.a c.tb.cs.n c.tb.cs.c, .int .i64 c.tb.ky, .slice c.tb.ix.a c.tb.ix.n c.tb.ix.c]] w (XsPost F w0 w a (z + 1) (oneM S c.c)) := by
  have HKd := hide hk
  clear hk
  obtain ⟨W1, hW1⟩ : ∃ W1, W1 = ((w.alloc (.cells #[.int .u64 c.cl, .int .u64 c.sq, .int .i64 c.kd, .int .u64 c.tx, .int .u64 c.ts, .bool c.fl, .int .u64 c.lk.l.tx, .int .i64 c.lk.l.lv, .int .i64 c.lk.l.md, .slice c.lk.la c.lk.ln c.lk.lc, .slice c.lk.ha c.lk.hn c.lk.hc, .slice c.lo.a c.lo.n c.lo.c, .slice c.hi.a c.hi.n c.hi.c, .slice c.txs.a c.txs.n c.txs.c, .slice c.ws.a c.ws.n c.ws.c, .slice c.ks.a c.ks.n c.ks.c, .int .i64 c.tb.id, .string (strB c.tb.nm), .slice c.tb.cs.a c.tb.cs.n c.tb.cs.c, .int .i64 c.tb.ky, .slice c.tb.ix.a c.tb.ix.n c.tb.ix.c] 50)).alloc (.cells #[.int .i64 0, .int .u64 0, .int .u64 0, .bool false, .slice none 0 0, .slice none 0 0, .slice none 0 0] 55)) := ⟨_, rfl⟩
  have hb1 : Below w.heap.size w W1 := by
    rw [hW1]
    exact (new_below w _).trans ((new_below _ _).mono (new_below w _).size)
  have hl1 : W1.heap.size = w.heap.size + 2 := by rw [hW1]; simp
  have HX : Hid (∀ V, Below W1.heap.size W1 V → V.rangeAt w.heap.size 0 (layCm.cells c) ∧ V.rangeAt (w.heap.size + 1) 0 [.int .i64 0, .int .u64 0, .int .u64 0, .bool false, .slice none 0 0, .slice none 0 0, .slice none 0 0] ∧ ∀ j, V.frozen? ⟨w.heap.size + 1, j, none⟩ = false) := by
    intro V hb
    refine ⟨?_, ?_, fun j => ?_⟩
    · subst hW1
      exact (two_boxes w #[.int .u64 c.cl, .int .u64 c.sq, .int .i64 c.kd, .int .u64 c.tx, .int .u64 c.ts, .bool c.fl, .int .u64 c.lk.l.tx, .int .i64 c.lk.l.lv, .int .i64 c.lk.l.md, .slice c.lk.la c.lk.ln c.lk.lc, .slice c.lk.ha c.lk.hn c.lk.hc, .slice c.lo.a c.lo.n c.lo.c, .slice c.hi.a c.hi.n c.hi.c, .slice c.txs.a c.txs.n c.txs.c, .slice c.ws.a c.ws.n c.ws.c, .slice c.ks.a c.ks.n c.ks.c, .int .i64 c.tb.id, .string (strB c.tb.nm), .slice c.tb.cs.a c.tb.cs.n c.tb.cs.c, .int .i64 c.tb.ky, .slice c.tb.ix.a c.tb.ix.n c.tb.ix.c] #[.int .i64 0, .int .u64 0, .int .u64 0, .bool false, .slice none 0 0, .slice none 0 0, .slice none 0 0] 50 55 V hb).1
    · subst hW1
      exact (two_boxes w #[.int .u64 c.cl, .int .u64 c.sq, .int .i64 c.kd, .int .u64 c.tx, .int .u64 c.ts, .bool c.fl, .int .u64 c.lk.l.tx, .int .i64 c.lk.l.lv, .int .i64 c.lk.l.md, .slice c.lk.la c.lk.ln c.lk.lc, .slice c.lk.ha c.lk.hn c.lk.hc, .slice c.lo.a c.lo.n c.lo.c, .slice c.hi.a c.hi.n c.hi.c, .slice c.txs.a c.txs.n c.txs.c, .slice c.ws.a c.ws.n c.ws.c, .slice c.ks.a c.ks.n c.ks.c, .int .i64 c.tb.id, .string (strB c.tb.nm), .slice c.tb.cs.a c.tb.cs.n c.tb.cs.c, .int .i64 c.tb.ky, .slice c.tb.ix.a c.tb.ix.n c.tb.ix.c] #[.int .i64 0, .int .u64 0, .int .u64 0, .bool false, .slice none 0 0, .slice none 0 0, .slice none 0 0] 50 55 V hb).2
    · rw [hb.frozen (p := ⟨w.heap.size + 1, j, none⟩) (by show w.heap.size + 1 < W1.heap.size; omega), hW1]
      have h := fzY_new (w.alloc (.cells #[.int .u64 c.cl, .int .u64 c.sq, .int .i64 c.kd, .int .u64 c.tx, .int .u64 c.ts, .bool c.fl, .int .u64 c.lk.l.tx, .int .i64 c.lk.l.lv, .int .i64 c.lk.l.md, .slice c.lk.la c.lk.ln c.lk.lc, .slice c.lk.ha c.lk.hn c.lk.hc, .slice c.lo.a c.lo.n c.lo.c, .slice c.hi.a c.hi.n c.hi.c, .slice c.txs.a c.txs.n c.txs.c, .slice c.ws.a c.ws.n c.ws.c, .slice c.ks.a c.ks.n c.ks.c, .int .i64 c.tb.id, .string (strB c.tb.nm), .slice c.tb.cs.a c.tb.cs.n c.tb.cs.c, .int .i64 c.tb.ky, .slice c.tb.ix.a c.tb.ix.n c.tb.ix.c] 50)) #[.int .i64 0, .int .u64 0, .int .u64 0, .bool false, .slice none 0 0, .slice none 0 0, .slice none 0 0] 55 j
      rwa [World.size_alloc] at h
  obtain ⟨sa, sn, sc, hsv⟩ := h.so.any3
  have hI : IsY laySt w sa sn sc S.ss := by
    have h2 := h.so
    rw [hsv] at h2
    exact h2.is
  have hc2 : w.cell? ⟨a.p, 2, none⟩ = some (.slice sa sn sc) := by rw [← hsv]; exact h.c2
  have hst := xstate_any a.p sa sn sc S.ss c.tx W1 (Nat.lt_of_lt_of_le h.lt hb1.size) ((hb1.cell (p := ⟨a.p, 2, none⟩) h.lt).trans hc2) (hI.keep hb1) h.i.nx hf.tx
  obtain ⟨s, hs⟩ : ∃ s, staM S.ss c.tx = s := ⟨_, rfl⟩
  obtain ⟨b, hbb⟩ : ∃ b, hasM S.ss c.tx = b := ⟨_, rfl⟩
  rw [hs, hbb] at hst
  have HSt := hide hst
  have HI := hide h
  have HCo := hide hc
  have HFw := hide hf
  have HB1 := hide hb1
  have HL1 := hide hl1
  have HS := hide hs
  have HBb := hide hbb
  have HSv := hide hsv
  have HSY := hide hI
  have x3 : W1.cell? ⟨w.heap.size, 3, none⟩ = some (.int .u64 c.tx) := (HX.out W1 (Below.refl _ _)).1 3 _ rfl
  have hpl := h.lt
  have hpw : ¬ w.heap.size = a.p := by omega
  have hpw2 : ¬ w.heap.size + 1 = a.p := by omega
  clear h hc hf hb1 hl1 hst hs hbb hsv hI hc2
  go_enter Tryz.func30, Tryz.ntmps30
  go_upto_region 1 with fail
  rw [← hW1]
  clear hW1
  go_upto_region 2 with (first
    | (go_at_call 82; go_must (refine HSt.out.mono ?_); rintro e w2 ⟨rfl, hb2⟩; have HB2 := hide hb2; clear hb2))
  obtain ⟨W3, hW3⟩ : ∃ W3, W3 = w2.alloc (.cells #[.int .u64 s.tx, .int .i64 s.st, .int .u64 s.ts] 80) := ⟨_, rfl⟩
  rw [← hW3]
  have HN3 : Hid (Below w2.heap.size w2 W3) := by rw [hW3]; exact new_below _ _
  have HR3 : Hid (W3.rangeAt w2.heap.size 0 (laySt.cells s)) := by
    rw [hW3]
    exact rangeY_new w2 w2.heap.size _ _ rfl
  have HFz3 : Hid (∀ j, W3.frozen? ⟨w2.heap.size, j, none⟩ = false) := by
    rw [hW3]
    exact fun j => fzY_new _ _ _ _
  have HL3 : Hid (w2.heap.size < W3.heap.size) := by
    rw [hW3]
    exact (Array.getElem?_eq_some_iff.1 (heap_alloc_new _ _)).1
  have HB3 : Hid (Below W1.heap.size W1 W3) := HB2.out.trans (HN3.out.mono HB2.out.size)
  have HBw : Hid (Below w.heap.size w W3) := HB1.out.trans (HB3.out.mono HB1.out.size)
  clear hW3 x3 HSt
  have x2 : W3.cell? ⟨w.heap.size, 2, none⟩ = some (.int .i64 c.kd) := (HX.out W3 HB3.out).1 2 _ rfl
  have HE : Hid (oneM S c.c = (res0, { S with tab := (freeL S.tab c.tx).1 })) := by
    show _ = _
    have hk2 : c.c.kd = 5 := HKd.out
    simp [oneM, hk2]
    rfl
  have HMi : Hid (MacI (z + 1) (oneM S c.c).2) := (HI.out.i.one HFw.out).1
  rw [show c.kd = 5 from HKd.out] at x2
  have HI3 := hide (HI.out.box HBw.out (b := w.heap.size + 1) (by omega) (by have := HB3.out.size; have := HL1.out; omega))
  have HW3s : Hid (w.heap.size + 1 < W3.heap.size) := by show _ < _; have := HB3.out.size; have := HL1.out; omega
  have HFr := hide (O3.xfree_any w0 a.p a.ha a.hn a.hc a.wa a.wn a.wc a.hs a.ws c.tx W3.drew ((HI3.out.keep (Below.refl _ W3).drew).lk) (by have h1 := HI.out.i.nh; rw [← HI.out.eh, List.length_map, HI.out.lk.h.1] at h1; omega) (by have h1 := HI.out.i.nw; rw [← HI.out.ew, List.length_map, HI.out.lk.wt.1] at h1; omega))
  go_upto_region 34 with fail
  have HTx : Hid (∀ V : World, V.heap[w.heap.size]? = W3.heap[w.heap.size]? → V.cell? ⟨w.heap.size, 3, none⟩ = some (.int .u64 c.tx)) := fun V hV => (World.cell?_of_block (a := ⟨w.heap.size, 3, none⟩) hV).trans ((HX.out W3 HB3.out).1 3 _ rfl)
  refine startG (fun V : World => V.heap[w.heap.size]? = W3.heap[w.heap.size]?) (fun i => false) (by kernel_rfl) ?_
  refine' takeG (i := 0) (v := _) rfl (by kernel_rfl) (by kernel_rfl) (by kernel_rfl) (by kernel_rfl) (fun _ _ _ h => h) (by rfl) (rfl) ?_ ?_; rotate_left
  · (intro V hSV; have e1 := HTx.out V hSV; go_simp; all_goals (with_reducible rfl))
  (try simp only [Act.put, List.setIfInBounds_toArray, List.set_cons_zero, List.set_cons_succ])
  refine' takeG (i := 1) (v := _) rfl (by kernel_rfl) (by kernel_rfl) (by kernel_rfl) (by kernel_rfl) (fun _ _ _ h => h) (by rfl) (rfl) ?_ ?_; rotate_left
  · (intro V hSV; have e1 := HTx.out V hSV; go_simp; all_goals (with_reducible rfl))
  (try simp only [Act.put, List.setIfInBounds_toArray, List.set_cons_zero, List.set_cons_succ])
  refine' takeG (i := 2) (v := _) rfl (by kernel_rfl) (by kernel_rfl) (by kernel_rfl) (by kernel_rfl) (fun _ _ _ h => h) (by rfl) (rfl) ?_ ?_; rotate_left
  · (intro V hSV; have e1 := HTx.out V hSV; go_simp; all_goals (with_reducible rfl))
  (try simp only [Act.put, List.setIfInBounds_toArray, List.set_cons_zero, List.set_cons_succ])
  refine' takeG (i := 3) (v := _) rfl (by kernel_rfl) (by kernel_rfl) (by kernel_rfl) (by kernel_rfl) (fun _ _ _ h => h) (by rfl) (rfl) ?_ ?_; rotate_left
  · (intro V hSV; have e1 := HTx.out V hSV; go_simp; all_goals (with_reducible rfl))
  (try simp only [Act.put, List.setIfInBounds_toArray, List.set_cons_zero, List.set_cons_succ])
  refine' takeG (i := 4) (v := _) rfl (by kernel_rfl) (by kernel_rfl) (by kernel_rfl) (by kernel_rfl) (fun _ _ _ h => h) (by rfl) (rfl) ?_ ?_; rotate_left
  · (intro V hSV; have e1 := HTx.out V hSV; go_simp; all_goals (with_reducible rfl))
  (try simp only [Act.put, List.setIfInBounds_toArray, List.set_cons_zero, List.set_cons_succ])
  refine callE (i := 5) rfl (by kernel_rfl) (fun K hK => ?_)
  go_simp
  refine HFr.out.mono ?_
  rintro e w5 ⟨ha', hn', hc', wa', wn', wc', hs', ws', rfl, hN⟩
  have hN2 : O3.TxN (fun j => W3.drew.cell? ⟨a.p, j, none⟩) w0 W3.drew a.p a.ha a.wa (freeL S.tab c.tx).1 w5 ha' hn' hc' wa' wn' wc' hs' ws' := by
    have e : (⟨a.hs.map ML.l, a.ws.map ML.l⟩ : Tab) = S.tab := by rw [HI.out.eh, HI.out.ew]
    rw [e] at hN
    exact hN
  have HN := hide hN2
  have HK5 : Hid (Keeps a.X W3 w5) := Keeps.wider (kpThen (Below.keeps (Below.refl W3.heap.size W3).drew (fun k => k = a.p)) (fun k hk => .inl hk) hN2.kp) (fun k hk => .inl hk)
  have hbx : w5.heap[w.heap.size + 1]? = W3.heap[w.heap.size + 1]? := HK5.out.block _ HW3s.out (fun e => by have := HI.out.xl _ e; omega)
  have hS5 : w5.heap[w.heap.size]? = W3.heap[w.heap.size]? := HK5.out.block _ (by have := HW3s.out; omega) (fun e => by have := HI.out.xl _ e; omega)
  have HZ5 : Hid (w5.rangeAt (w.heap.size + 1) 0 [.int .i64 0, .int .u64 0, .int .u64 0, .bool false, .slice none 0 0, .slice none 0 0, .slice none 0 0]) := rangeY_same (HX.out W3 HB3.out).2.1 hbx
  have HF5 : Hid (∀ j, w5.frozen? ⟨w.heap.size + 1, j, none⟩ = false) := fun j => (World.frozen?_of_block (a := ⟨w.heap.size + 1, j, none⟩) hbx).trans ((HX.out W3 HB3.out).2.2 j)
  clear hN2
  refine hK.out _ _ (fun _ => hS5) ?_
  clear hK K hN hbx hS5
  (try simp only [Act.put, List.setIfInBounds_toArray, List.set_cons_zero, List.set_cons_succ])
  refine doneE (by kernel_rfl) ?_ _
  have z0 : w5.cell? ⟨w.heap.size + 1, 0, none⟩ = some (.int .i64 0) := HZ5.out 0 _ rfl
  have z1 : w5.cell? ⟨w.heap.size + 1, 1, none⟩ = some (.int .u64 0) := HZ5.out 1 _ rfl
  have z2 : w5.cell? ⟨w.heap.size + 1, 2, none⟩ = some (.int .u64 0) := HZ5.out 2 _ rfl
  have z3 : w5.cell? ⟨w.heap.size + 1, 3, none⟩ = some (.bool false) := HZ5.out 3 _ rfl
  have z4 : w5.cell? ⟨w.heap.size + 1, 4, none⟩ = some (.slice none 0 0) := HZ5.out 4 _ rfl
  have z5 : w5.cell? ⟨w.heap.size + 1, 5, none⟩ = some (.slice none 0 0) := HZ5.out 5 _ rfl
  have z6 : w5.cell? ⟨w.heap.size + 1, 6, none⟩ = some (.slice none 0 0) := HZ5.out 6 _ rfl
  have g0 := HF5.out 0
  have g1 := HF5.out 1
  have g2 := HF5.out 2
  have g3 := HF5.out 3
  have g4 := HF5.out 4
  have g5 := HF5.out 5
  have g6 := HF5.out 6
  go_wp2
  change bodyPost _ _ _ _ _ (w5.setCells (w.heap.size + 1) 0 [.int .i64 0, .int .u64 0, .int .u64 0, .bool false, .slice none 0 0, .slice none 0 0, .slice none 0 0])
  have hr := box_set (V := w5) (b := w.heap.size + 1) (new := [.int .i64 0, .int .u64 0, .int .u64 0, .bool false, .slice none 0 0, .slice none 0 0, .slice none 0 0]) HZ5.out (Nat.le_refl _) HF5.out
  have r0 := hr 0 _ rfl
  have r1 := hr 1 _ rfl
  have r2 := hr 2 _ rfl
  have r3 := hr 3 _ rfl
  have r4 := hr 4 _ rfl
  have r5 := hr 5 _ rfl
  have r6 := hr 6 _ rfl
  have hkk : Keeps (fun k => k = w.heap.size + 1) w5 (w5.setCells (w.heap.size + 1) 0 [.int .i64 0, .int .u64 0, .int .u64 0, .bool false, .slice none 0 0, .slice none 0 0, .slice none 0 0]) := keepsYs _ _ _ _
  clear hr
  generalize w5.setCells (w.heap.size + 1) 0 [.int .i64 0, .int .u64 0, .int .u64 0, .bool false, .slice none 0 0, .slice none 0 0, .slice none 0 0] = W at *
  refine bodyPost_ret (v := .agg #[.int .i64 0, .int .u64 0, .int .u64 0, .bool false, .slice none 0 0, .slice none 0 0, .slice none 0 0]) (by simp [results, Tryz.results30, go_sem, r0, r1, r2, r3, r4, r5, r6]) rfl ?_
  have hm := HMi.out
  rw [HE.out] at hm ⊢
  have hlk := (HI3.out.keep (Below.refl _ W3).drew).lockd (T := (freeL S.tab c.tx).1) HN.out hm (Nat.le_succ _)
  exact xs_done (a' := { a with ha := ha', hn := hn', hc := hc', wa := wa', wn := wn', wc := wc', hs := hs', ws := ws' }) (b := w.heap.size + 1) HI.out HBw.out HK5.out hlk (fun k hk => .inl hk) rfl (by omega) hkk (resR 0) rfl (foot_pure (fun V => resR_ok 0 V))

set_option maxHeartbeats 4000000 in
theorem xone4_any {F : Nat → Prop} {w0 w : World} {a : Xm} {z : Nat} {S : Mac} (h : IsXm F w0 w a z S) (c : MCmd) (hc : c.ok w0) (hf : c.c.Few) (hz : z ≤ 159) (hk : c.kd = 4) :
    Calls Tryz.prog 30 #[.pointer (some ⟨a.p, 0, none⟩), .agg #[.int .u64 c.cl, .int .u64 c.sq, .int .i64 c.kd, .int .u64 c.tx, .int .u64 c.ts, .bool c.fl, .int .u64 c.lk.l.tx, .int .i64 c.lk.l.lv, .int .i64 c.lk.l.md, .slice c.lk.la c.lk.ln c.lk.lc, .slice c.lk.ha c.lk.hn c.lk.hc, .slice c.lo.a c.lo.n c.lo.c, .slice c.hi.a c.hi.n c.hi.c, .slice c.txs.a c.txs.n c.txs.c, .slice c.ws.a c.ws.n c.ws.c, .slice c.ks.a c.ks.n c.ks.c, .int .i64 c.tb.id, .string (strB c.tb.nm), .slice c.tb.cs.a c.tb.cs.n c.tb.cs.c, .int .i64 c.tb.ky, .slice c.tb.ix.a c.tb.ix.n c.tb.ix.c]] w (XsPost F w0 w a (z + 1) (oneM S c.c)) := by
  have HKd := hide hk
  clear hk
  obtain ⟨W1, hW1⟩ : ∃ W1, W1 = ((w.alloc (.cells #[.int .u64 c.cl, .int .u64 c.sq, .int .i64 c.kd, .int .u64 c.tx, .int .u64 c.ts, .bool c.fl, .int .u64 c.lk.l.tx, .int .i64 c.lk.l.lv, .int .i64 c.lk.l.md, .slice c.lk.la c.lk.ln c.lk.lc, .slice c.lk.ha c.lk.hn c.lk.hc, .slice c.lo.a c.lo.n c.lo.c, .slice c.hi.a c.hi.n c.hi.c, .slice c.txs.a c.txs.n c.txs.c, .slice c.ws.a c.ws.n c.ws.c, .slice c.ks.a c.ks.n c.ks.c, .int .i64 c.tb.id, .string (strB c.tb.nm), .slice c.tb.cs.a c.tb.cs.n c.tb.cs.c, .int .i64 c.tb.ky, .slice c.tb.ix.a c.tb.ix.n c.tb.ix.c] 50)).alloc (.cells #[.int .i64 0, .int .u64 0, .int .u64 0, .bool false, .slice none 0 0, .slice none 0 0, .slice none 0 0] 55)) := ⟨_, rfl⟩
  have hb1 : Below w.heap.size w W1 := by
    rw [hW1]
    exact (new_below w _).trans ((new_below _ _).mono (new_below w _).size)
  have hl1 : W1.heap.size = w.heap.size + 2 := by rw [hW1]; simp
  have HX : Hid (∀ V, Below W1.heap.size W1 V → V.rangeAt w.heap.size 0 (layCm.cells c) ∧ V.rangeAt (w.heap.size + 1) 0 [.int .i64 0, .int .u64 0, .int .u64 0, .bool false, .slice none 0 0, .slice none 0 0, .slice none 0 0] ∧ ∀ j, V.frozen? ⟨w.heap.size + 1, j, none⟩ = false) := by
    intro V hb
    refine ⟨?_, ?_, fun j => ?_⟩
    · subst hW1
      exact (two_boxes w #[.int .u64 c.cl, .int .u64 c.sq, .int .i64 c.kd, .int .u64 c.tx, .int .u64 c.ts, .bool c.fl, .int .u64 c.lk.l.tx, .int .i64 c.lk.l.lv, .int .i64 c.lk.l.md, .slice c.lk.la c.lk.ln c.lk.lc, .slice c.lk.ha c.lk.hn c.lk.hc, .slice c.lo.a c.lo.n c.lo.c, .slice c.hi.a c.hi.n c.hi.c, .slice c.txs.a c.txs.n c.txs.c, .slice c.ws.a c.ws.n c.ws.c, .slice c.ks.a c.ks.n c.ks.c, .int .i64 c.tb.id, .string (strB c.tb.nm), .slice c.tb.cs.a c.tb.cs.n c.tb.cs.c, .int .i64 c.tb.ky, .slice c.tb.ix.a c.tb.ix.n c.tb.ix.c] #[.int .i64 0, .int .u64 0, .int .u64 0, .bool false, .slice none 0 0, .slice none 0 0, .slice none 0 0] 50 55 V hb).1
    · subst hW1
      exact (two_boxes w #[.int .u64 c.cl, .int .u64 c.sq, .int .i64 c.kd, .int .u64 c.tx, .int .u64 c.ts, .bool c.fl, .int .u64 c.lk.l.tx, .int .i64 c.lk.l.lv, .int .i64 c.lk.l.md, .slice c.lk.la c.lk.ln c.lk.lc, .slice c.lk.ha c.lk.hn c.lk.hc, .slice c.lo.a c.lo.n c.lo.c, .slice c.hi.a c.hi.n c.hi.c, .slice c.txs.a c.txs.n c.txs.c, .slice c.ws.a c.ws.n c.ws.c, .slice c.ks.a c.ks.n c.ks.c, .int .i64 c.tb.id, .string (strB c.tb.nm), .slice c.tb.cs.a c.tb.cs.n c.tb.cs.c, .int .i64 c.tb.ky, .slice c.tb.ix.a c.tb.ix.n c.tb.ix.c] #[.int .i64 0, .int .u64 0, .int .u64 0, .bool false, .slice none 0 0, .slice none 0 0, .slice none 0 0] 50 55 V hb).2
    · rw [hb.frozen (p := ⟨w.heap.size + 1, j, none⟩) (by show w.heap.size + 1 < W1.heap.size; omega), hW1]
      have h := fzY_new (w.alloc (.cells #[.int .u64 c.cl, .int .u64 c.sq, .int .i64 c.kd, .int .u64 c.tx, .int .u64 c.ts, .bool c.fl, .int .u64 c.lk.l.tx, .int .i64 c.lk.l.lv, .int .i64 c.lk.l.md, .slice c.lk.la c.lk.ln c.lk.lc, .slice c.lk.ha c.lk.hn c.lk.hc, .slice c.lo.a c.lo.n c.lo.c, .slice c.hi.a c.hi.n c.hi.c, .slice c.txs.a c.txs.n c.txs.c, .slice c.ws.a c.ws.n c.ws.c, .slice c.ks.a c.ks.n c.ks.c, .int .i64 c.tb.id, .string (strB c.tb.nm), .slice c.tb.cs.a c.tb.cs.n c.tb.cs.c, .int .i64 c.tb.ky, .slice c.tb.ix.a c.tb.ix.n c.tb.ix.c] 50)) #[.int .i64 0, .int .u64 0, .int .u64 0, .bool false, .slice none 0 0, .slice none 0 0, .slice none 0 0] 55 j
      rwa [World.size_alloc] at h
  obtain ⟨sa, sn, sc, hsv⟩ := h.so.any3
  have hI : IsY laySt w sa sn sc S.ss := by
    have h2 := h.so
    rw [hsv] at h2
    exact h2.is
  have hc2 : w.cell? ⟨a.p, 2, none⟩ = some (.slice sa sn sc) := by rw [← hsv]; exact h.c2
  have hst := xstate_any a.p sa sn sc S.ss c.tx W1 (Nat.lt_of_lt_of_le h.lt hb1.size) ((hb1.cell (p := ⟨a.p, 2, none⟩) h.lt).trans hc2) (hI.keep hb1) h.i.nx hf.tx
  obtain ⟨s, hs⟩ : ∃ s, staM S.ss c.tx = s := ⟨_, rfl⟩
  obtain ⟨b, hbb⟩ : ∃ b, hasM S.ss c.tx = b := ⟨_, rfl⟩
  rw [hs, hbb] at hst
  have HSt := hide hst
  have HI := hide h
  have HCo := hide hc
  have HFw := hide hf
  have HB1 := hide hb1
  have HL1 := hide hl1
  have HS := hide hs
  have HBb := hide hbb
  have HSv := hide hsv
  have HSY := hide hI
  have x3 : W1.cell? ⟨w.heap.size, 3, none⟩ = some (.int .u64 c.tx) := (HX.out W1 (Below.refl _ _)).1 3 _ rfl
  have hpl := h.lt
  have hpw : ¬ w.heap.size = a.p := by omega
  have hpw2 : ¬ w.heap.size + 1 = a.p := by omega
  clear h hc hf hb1 hl1 hst hs hbb hsv hI hc2
  go_enter Tryz.func30, Tryz.ntmps30
  go_upto_region 1 with fail
  rw [← hW1]
  clear hW1
  go_upto_region 2 with (first
    | (go_at_call 82; go_must (refine HSt.out.mono ?_); rintro e w2 ⟨rfl, hb2⟩; have HB2 := hide hb2; clear hb2))
  obtain ⟨W3, hW3⟩ : ∃ W3, W3 = w2.alloc (.cells #[.int .u64 s.tx, .int .i64 s.st, .int .u64 s.ts] 80) := ⟨_, rfl⟩
  rw [← hW3]
  have HN3 : Hid (Below w2.heap.size w2 W3) := by rw [hW3]; exact new_below _ _
  have HR3 : Hid (W3.rangeAt w2.heap.size 0 (laySt.cells s)) := by
    rw [hW3]
    exact rangeY_new w2 w2.heap.size _ _ rfl
  have HFz3 : Hid (∀ j, W3.frozen? ⟨w2.heap.size, j, none⟩ = false) := by
    rw [hW3]
    exact fun j => fzY_new _ _ _ _
  have HL3 : Hid (w2.heap.size < W3.heap.size) := by
    rw [hW3]
    exact (Array.getElem?_eq_some_iff.1 (heap_alloc_new _ _)).1
  have HB3 : Hid (Below W1.heap.size W1 W3) := HB2.out.trans (HN3.out.mono HB2.out.size)
  have HBw : Hid (Below w.heap.size w W3) := HB1.out.trans (HB3.out.mono HB1.out.size)
  clear hW3 x3 HSt
  have x2 : W3.cell? ⟨w.heap.size, 2, none⟩ = some (.int .i64 c.kd) := (HX.out W3 HB3.out).1 2 _ rfl
  have x3 : W3.cell? ⟨w.heap.size, 3, none⟩ = some (.int .u64 c.tx) := (HX.out W3 HB3.out).1 3 _ rfl
  have x6 : W3.cell? ⟨w.heap.size, 6, none⟩ = some (.int .u64 c.lk.l.tx) := (HX.out W3 HB3.out).1 6 _ rfl
  have x7 : W3.cell? ⟨w.heap.size, 7, none⟩ = some (.int .i64 c.lk.l.lv) := (HX.out W3 HB3.out).1 7 _ rfl
  have x8 : W3.cell? ⟨w.heap.size, 8, none⟩ = some (.int .i64 c.lk.l.md) := (HX.out W3 HB3.out).1 8 _ rfl
  have x9 : W3.cell? ⟨w.heap.size, 9, none⟩ = some (.slice c.lk.la c.lk.ln c.lk.lc) := (HX.out W3 HB3.out).1 9 _ rfl
  have x10 : W3.cell? ⟨w.heap.size, 10, none⟩ = some (.slice c.lk.ha c.lk.hn c.lk.hc) := (HX.out W3 HB3.out).1 10 _ rfl
  rw [show c.kd = 4 from HKd.out] at x2
  have y1 : W3.cell? ⟨w2.heap.size, 1, none⟩ = some (.int .i64 s.st) := HR3.out 1 _ rfl
  have HO : Hid (openM S.ss c.tx = (b && s.st == 0)) := by
    show _ = _
    unfold openM
    rw [HBb.out, HS.out]
  cases b
  · have HE : Hid (oneM S c.c = (errR 150, S)) := by
      show _ = _
      have hk2 : c.c.kd = 4 := HKd.out
      have ho : openM S.ss c.c.tx = false := by rw [show c.c.tx = c.tx from rfl, HO.out]; rfl
      simp [oneM, hk2, ho]
    obtain ⟨-, z, zf⟩ := HX.out W3 HB3.out
    have z0 : W3.cell? ⟨w.heap.size + 1, 0, none⟩ = some (.int .i64 0) := z 0 _ rfl
    have z1 : W3.cell? ⟨w.heap.size + 1, 1, none⟩ = some (.int .u64 0) := z 1 _ rfl
    have z2 : W3.cell? ⟨w.heap.size + 1, 2, none⟩ = some (.int .u64 0) := z 2 _ rfl
    have z3 : W3.cell? ⟨w.heap.size + 1, 3, none⟩ = some (.bool false) := z 3 _ rfl
    have z4 : W3.cell? ⟨w.heap.size + 1, 4, none⟩ = some (.slice none 0 0) := z 4 _ rfl
    have z5 : W3.cell? ⟨w.heap.size + 1, 5, none⟩ = some (.slice none 0 0) := z 5 _ rfl
    have z6 : W3.cell? ⟨w.heap.size + 1, 6, none⟩ = some (.slice none 0 0) := z 6 _ rfl
    have g0 := zf 0
    have g1 := zf 1
    have g2 := zf 2
    have g3 := zf 3
    have g4 := zf 4
    have g5 := zf 5
    have g6 := zf 6
    clear z zf
    go_wp2
    change bodyPost _ _ _ _ _ (W3.setCells (w.heap.size + 1) 0 [.int .i64 150, .int .u64 0, .int .u64 0, .bool false, .slice none 0 0, .slice none 0 0, .slice none 0 0])
    have hr := box_set (V := W3) (b := w.heap.size + 1) (new := [.int .i64 150, .int .u64 0, .int .u64 0, .bool false, .slice none 0 0, .slice none 0 0, .slice none 0 0]) (HX.out W3 HB3.out).2.1 (Nat.le_refl _) (HX.out W3 HB3.out).2.2
    have r0 := hr 0 _ rfl
    have r1 := hr 1 _ rfl
    have r2 := hr 2 _ rfl
    have r3 := hr 3 _ rfl
    have r4 := hr 4 _ rfl
    have r5 := hr 5 _ rfl
    have r6 := hr 6 _ rfl
    have hbe := box_below (l := [.int .i64 150, .int .u64 0, .int .u64 0, .bool false, .slice none 0 0, .slice none 0 0, .slice none 0 0]) HBw.out (show w.heap.size ≤ w.heap.size + 1 by omega)
    clear hr
    generalize W3.setCells (w.heap.size + 1) 0 [.int .i64 150, .int .u64 0, .int .u64 0, .bool false, .slice none 0 0, .slice none 0 0, .slice none 0 0] = W at *
    refine bodyPost_ret (v := .agg #[.int .i64 150, .int .u64 0, .int .u64 0, .bool false, .slice none 0 0, .slice none 0 0, .slice none 0 0]) (by simp [results, Tryz.results30, go_sem, r0, r1, r2, r3, r4, r5, r6]) rfl ?_
    rw [HE.out]
    exact xs_same HI.out hbe (resR 150) rfl (foot_pure (fun V => resR_ok 150 V)) (Nat.le_succ _)
  · by_cases h0 : s.st = 0
    · have d0 : (s.st == 0) = true := by simpa using h0
      have d1 : decide (s.st = 0) = true := by simpa using h0
      have d2 : (s.st != 0) = false := by simpa using h0
      have HE : Hid (oneM S c.c = (⟨(askL S.tab { c.lk.l with tx := c.tx }).2.2, 0, 0, (askL S.tab { c.lk.l with tx := c.tx }).2.1, [], []⟩, { S with tab := (askL S.tab { c.lk.l with tx := c.tx }).1 })) := by
        show _ = _
        have hk2 : c.c.kd = 4 := HKd.out
        have ho : openM S.ss c.c.tx = true := by rw [show c.c.tx = c.tx from rfl, HO.out, h0]; rfl
        simp [oneM, hk2, ho]
        exact ⟨⟨rfl, rfl⟩, rfl⟩
      have HMi : Hid (MacI (z + 1) (oneM S c.c).2) := (HI.out.i.one HFw.out).1
      clear h0
      have HI3 := hide (HI.out.box HBw.out (b := w.heap.size + 1) (by omega) (by have := HB3.out.size; have := HL1.out; omega))
      have HW3s : Hid (w.heap.size + 1 < W3.heap.size) := by show _ < _; have := HB3.out.size; have := HL1.out; omega
      obtain ⟨W4, hW4⟩ : ∃ W4, W4 = W3.alloc (.cells #[.int .u64 c.tx, .int .i64 c.lk.l.lv, .int .i64 c.lk.l.md, .slice c.lk.la c.lk.ln c.lk.lc, .slice c.lk.ha c.lk.hn c.lk.hc] 41) := ⟨_, rfl⟩
      have HN4 : Hid (Below W3.heap.size W3 W4) := by rw [hW4]; exact new_below _ _
      have HX4 : Hid (∀ V : World, V.heap[W3.heap.size]? = W4.heap[W3.heap.size]? → V.rangeAt W3.heap.size 0 #[.int .u64 c.tx, .int .i64 c.lk.l.lv, .int .i64 c.lk.l.md, .slice c.lk.la c.lk.ln c.lk.lc, .slice c.lk.ha c.lk.hn c.lk.hc].toList) := by
        intro V hV
        rw [hW4] at hV
        exact rangeY_same (rangeY_new W3 W3.heap.size _ _ rfl) hV
      have HL4 : Hid (W3.heap.size < W4.heap.size) := by
        rw [hW4]
        exact (Array.getElem?_eq_some_iff.1 (heap_alloc_new _ _)).1
      have HI4 := hide ((HI3.out.keep HN4.out).keep (Below.refl _ W4).drew)
      have HAs := hide (O3.xask_any w0 a.p a.ha a.hn a.hc a.wa a.wn a.wc a.hs a.ws { c.lk with l := { c.lk.l with tx := c.tx } } W4.drew HI4.out.lk ⟨HCo.out.lk.lo, HCo.out.lk.hi⟩ (by have h1 := HI.out.i.nh; rw [← HI.out.eh, List.length_map, HI.out.lk.h.1] at h1; omega) (by have h1 := HI.out.i.nw; rw [← HI.out.ew, List.length_map, HI.out.lk.wt.1] at h1; omega))
      have HW4 := hide hW4
      clear hW4
      have x3o := fun o => (World.cell?_of_block (a := ⟨w.heap.size, 3, none⟩) ((new_below W3 o).block w.heap.size (by have := HW3s.out; omega))).trans x3
      go_upto_region 31 with fail
      rw [← HW4.out]
      refine startG (fun V : World => V.heap[W3.heap.size]? = W4.heap[W3.heap.size]?) (fun i => false) (by kernel_rfl) ?_
      refine' takeG (i := 0) (v := _) rfl (by kernel_rfl) (by kernel_rfl) (by kernel_rfl) (by kernel_rfl) (fun _ _ _ h => h) (by rfl) (rfl) ?_ ?_; rotate_left
      · (intro V hSV; have q := HX4.out V hSV; have q0 : V.cell? ⟨W3.heap.size, 0, none⟩ = some (.int .u64 c.tx) := q 0 _ rfl; have q1 : V.cell? ⟨W3.heap.size, 1, none⟩ = some (.int .i64 c.lk.l.lv) := q 1 _ rfl; have q2 : V.cell? ⟨W3.heap.size, 2, none⟩ = some (.int .i64 c.lk.l.md) := q 2 _ rfl; have q3 : V.cell? ⟨W3.heap.size, 3, none⟩ = some (.slice c.lk.la c.lk.ln c.lk.lc) := q 3 _ rfl; have q4 : V.cell? ⟨W3.heap.size, 4, none⟩ = some (.slice c.lk.ha c.lk.hn c.lk.hc) := q 4 _ rfl; clear q; go_simp; all_goals (with_reducible rfl))
      (try simp only [Act.put, List.setIfInBounds_toArray, List.set_cons_zero, List.set_cons_succ])
      refine' takeG (i := 1) (v := _) rfl (by kernel_rfl) (by kernel_rfl) (by kernel_rfl) (by kernel_rfl) (fun _ _ _ h => h) (by rfl) (rfl) ?_ ?_; rotate_left
      · (intro V hSV; have q := HX4.out V hSV; have q0 : V.cell? ⟨W3.heap.size, 0, none⟩ = some (.int .u64 c.tx) := q 0 _ rfl; have q1 : V.cell? ⟨W3.heap.size, 1, none⟩ = some (.int .i64 c.lk.l.lv) := q 1 _ rfl; have q2 : V.cell? ⟨W3.heap.size, 2, none⟩ = some (.int .i64 c.lk.l.md) := q 2 _ rfl; have q3 : V.cell? ⟨W3.heap.size, 3, none⟩ = some (.slice c.lk.la c.lk.ln c.lk.lc) := q 3 _ rfl; have q4 : V.cell? ⟨W3.heap.size, 4, none⟩ = some (.slice c.lk.ha c.lk.hn c.lk.hc) := q 4 _ rfl; clear q; go_simp; all_goals (with_reducible rfl))
      (try simp only [Act.put, List.setIfInBounds_toArray, List.set_cons_zero, List.set_cons_succ])
      refine' takeG (i := 2) (v := _) rfl (by kernel_rfl) (by kernel_rfl) (by kernel_rfl) (by kernel_rfl) (fun _ _ _ h => h) (by rfl) (rfl) ?_ ?_; rotate_left
      · (intro V hSV; have q := HX4.out V hSV; have q0 : V.cell? ⟨W3.heap.size, 0, none⟩ = some (.int .u64 c.tx) := q 0 _ rfl; have q1 : V.cell? ⟨W3.heap.size, 1, none⟩ = some (.int .i64 c.lk.l.lv) := q 1 _ rfl; have q2 : V.cell? ⟨W3.heap.size, 2, none⟩ = some (.int .i64 c.lk.l.md) := q 2 _ rfl; have q3 : V.cell? ⟨W3.heap.size, 3, none⟩ = some (.slice c.lk.la c.lk.ln c.lk.lc) := q 3 _ rfl; have q4 : V.cell? ⟨W3.heap.size, 4, none⟩ = some (.slice c.lk.ha c.lk.hn c.lk.hc) := q 4 _ rfl; clear q; go_simp; all_goals (with_reducible rfl))
      (try simp only [Act.put, List.setIfInBounds_toArray, List.set_cons_zero, List.set_cons_succ])
      refine' takeG (i := 3) (v := _) rfl (by kernel_rfl) (by kernel_rfl) (by kernel_rfl) (by kernel_rfl) (fun _ _ _ h => h) (by rfl) (rfl) ?_ ?_; rotate_left
      · (intro V hSV; have q := HX4.out V hSV; have q0 : V.cell? ⟨W3.heap.size, 0, none⟩ = some (.int .u64 c.tx) := q 0 _ rfl; have q1 : V.cell? ⟨W3.heap.size, 1, none⟩ = some (.int .i64 c.lk.l.lv) := q 1 _ rfl; have q2 : V.cell? ⟨W3.heap.size, 2, none⟩ = some (.int .i64 c.lk.l.md) := q 2 _ rfl; have q3 : V.cell? ⟨W3.heap.size, 3, none⟩ = some (.slice c.lk.la c.lk.ln c.lk.lc) := q 3 _ rfl; have q4 : V.cell? ⟨W3.heap.size, 4, none⟩ = some (.slice c.lk.ha c.lk.hn c.lk.hc) := q 4 _ rfl; clear q; go_simp; all_goals (with_reducible rfl))
      (try simp only [Act.put, List.setIfInBounds_toArray, List.set_cons_zero, List.set_cons_succ])
      refine callE (i := 4) rfl (by kernel_rfl) (fun K hK => ?_)
      go_simp
      refine HAs.out.mono ?_
      rintro e w5 ⟨rfl, ha', hn', hc', wa', wn', wc', hs', ws', hN⟩
      have e9 : askL ⟨a.hs.map ML.l, a.ws.map ML.l⟩ { c.lk.l with tx := c.tx } = askL S.tab { c.lk.l with tx := c.tx } := by rw [HI.out.eh, HI.out.ew]
      rw [e9] at hN ⊢
      clear e9
      have HN := hide hN
      have hk5 : Keeps (fun k => k = a.p) W3 w5 := kpThen (Below.keeps (HN4.out.trans ((Below.refl W4.heap.size W4).drew.mono HN4.out.size)) _) (fun k hk => .inl hk) hN.kp
      have HK5 : Hid (Keeps a.X W3 w5) := Keeps.wider hk5 (fun k hk => .inl hk)
      have hbx : w5.heap[w.heap.size + 1]? = W3.heap[w.heap.size + 1]? := HK5.out.block _ HW3s.out (fun e => by have := HI.out.xl _ e; omega)
      have hS5 : w5.heap[W3.heap.size]? = W4.heap[W3.heap.size]? := hN.kp.block _ HL4.out (fun e => by have := HI3.out.lt; omega)
      have HZ5 : Hid (w5.rangeAt (w.heap.size + 1) 0 [.int .i64 0, .int .u64 0, .int .u64 0, .bool false, .slice none 0 0, .slice none 0 0, .slice none 0 0]) := rangeY_same (HX.out W3 HB3.out).2.1 hbx
      have HF5 : Hid (∀ j, w5.frozen? ⟨w.heap.size + 1, j, none⟩ = false) := fun j => (World.frozen?_of_block (a := ⟨w.heap.size + 1, j, none⟩) hbx).trans ((HX.out W3 HB3.out).2.2 j)
      obtain ⟨T, hT⟩ : ∃ T, askL S.tab { c.lk.l with tx := c.tx } = T := ⟨_, rfl⟩
      rw [hT] at HN HE ⊢
      have HS6 := hide hS5
      refine hK.out _ _ (fun _ => hS5) ?_
      clear hK K hN hbx hS5 hk5 hT
      (try simp only [Act.put, List.setIfInBounds_toArray, List.set_cons_zero, List.set_cons_succ])
      refine' takeG (i := 5) (v := _) rfl (by kernel_rfl) (by kernel_rfl) (by kernel_rfl) (by kernel_rfl) (fun _ _ _ h => h) (by rfl) HS6.out ?_ ?_; rotate_left
      · (intro V hSV; go_simp; all_goals (with_reducible rfl))
      (try simp only [Act.put, List.setIfInBounds_toArray, List.set_cons_zero, List.set_cons_succ])
      refine' takeG (i := 6) (v := _) rfl (by kernel_rfl) (by kernel_rfl) (by kernel_rfl) (by kernel_rfl) (fun _ _ _ h => h) (by rfl) HS6.out ?_ ?_; rotate_left
      · (intro V hSV; go_simp; all_goals (with_reducible rfl))
      (try simp only [Act.put, List.setIfInBounds_toArray, List.set_cons_zero, List.set_cons_succ])
      refine' takeG (i := 7) (v := _) rfl (by kernel_rfl) (by kernel_rfl) (by kernel_rfl) (by kernel_rfl) (fun _ _ _ h => h) (by rfl) HS6.out ?_ ?_; rotate_left
      · (intro V hSV; go_simp; all_goals (with_reducible rfl))
      (try simp only [Act.put, List.setIfInBounds_toArray, List.set_cons_zero, List.set_cons_succ])
      refine' takeG (i := 8) (v := _) rfl (by kernel_rfl) (by kernel_rfl) (by kernel_rfl) (by kernel_rfl) (fun _ _ _ h => h) (by rfl) HS6.out ?_ ?_; rotate_left
      · (intro V hSV; go_simp; all_goals (with_reducible rfl))
      (try simp only [Act.put, List.setIfInBounds_toArray, List.set_cons_zero, List.set_cons_succ])
      refine' takeG (i := 9) (v := _) rfl (by kernel_rfl) (by kernel_rfl) (by kernel_rfl) (by kernel_rfl) (fun _ _ _ h => h) (by rfl) HS6.out ?_ ?_; rotate_left
      · (intro V hSV; go_simp; all_goals (with_reducible rfl))
      (try simp only [Act.put, List.setIfInBounds_toArray, List.set_cons_zero, List.set_cons_succ])
      refine doneE (by kernel_rfl) ?_ _
      have z0 : w5.cell? ⟨w.heap.size + 1, 0, none⟩ = some (.int .i64 0) := HZ5.out 0 _ rfl
      have z1 : w5.cell? ⟨w.heap.size + 1, 1, none⟩ = some (.int .u64 0) := HZ5.out 1 _ rfl
      have z2 : w5.cell? ⟨w.heap.size + 1, 2, none⟩ = some (.int .u64 0) := HZ5.out 2 _ rfl
      have z3 : w5.cell? ⟨w.heap.size + 1, 3, none⟩ = some (.bool false) := HZ5.out 3 _ rfl
      have z4 : w5.cell? ⟨w.heap.size + 1, 4, none⟩ = some (.slice none 0 0) := HZ5.out 4 _ rfl
      have z5 : w5.cell? ⟨w.heap.size + 1, 5, none⟩ = some (.slice none 0 0) := HZ5.out 5 _ rfl
      have z6 : w5.cell? ⟨w.heap.size + 1, 6, none⟩ = some (.slice none 0 0) := HZ5.out 6 _ rfl
      have g0 := HF5.out 0
      have g1 := HF5.out 1
      have g2 := HF5.out 2
      have g3 := HF5.out 3
      have g4 := HF5.out 4
      have g5 := HF5.out 5
      have g6 := HF5.out 6
      clear d0 d1 d2
      go_wp2
      change bodyPost _ _ _ _ _ (w5.setCells (w.heap.size + 1) 0 [.int .i64 T.2.2, .int .u64 0, .int .u64 0, .bool T.2.1, .slice none 0 0, .slice none 0 0, .slice none 0 0])
      have hr := box_set (V := w5) (b := w.heap.size + 1) (new := [.int .i64 T.2.2, .int .u64 0, .int .u64 0, .bool T.2.1, .slice none 0 0, .slice none 0 0, .slice none 0 0]) HZ5.out (Nat.le_refl _) HF5.out
      have r0 := hr 0 _ rfl
      have r1 := hr 1 _ rfl
      have r2 := hr 2 _ rfl
      have r3 := hr 3 _ rfl
      have r4 := hr 4 _ rfl
      have r5 := hr 5 _ rfl
      have r6 := hr 6 _ rfl
      have hkk : Keeps (fun k => k = w.heap.size + 1) w5 (w5.setCells (w.heap.size + 1) 0 [.int .i64 T.2.2, .int .u64 0, .int .u64 0, .bool T.2.1, .slice none 0 0, .slice none 0 0, .slice none 0 0]) := keepsYs _ _ _ _
      clear hr
      generalize w5.setCells (w.heap.size + 1) 0 [.int .i64 T.2.2, .int .u64 0, .int .u64 0, .bool T.2.1, .slice none 0 0, .slice none 0 0, .slice none 0 0] = W at *
      refine bodyPost_ret (v := .agg #[.int .i64 T.2.2, .int .u64 0, .int .u64 0, .bool T.2.1, .slice none 0 0, .slice none 0 0, .slice none 0 0]) (by simp [results, Tryz.results30, go_sem, r0, r1, r2, r3, r4, r5, r6]) rfl ?_
      have hm := HMi.out
      rw [HE.out] at hm ⊢
      have hlk := HI4.out.lockd (T := T.1) HN.out hm (Nat.le_succ _)
      exact xs_done (a' := { a with ha := ha', hn := hn', hc := hc', wa := wa', wn := wn', wc := wc', hs := hs', ws := ws' }) (b := w.heap.size + 1) HI.out HBw.out HK5.out hlk (fun k hk => .inl hk) rfl (by omega) hkk ⟨T.2.2, 0, 0, T.2.1, ⟨none, 0, 0, []⟩, ⟨none, 0, 0, []⟩, ⟨none, 0, 0, []⟩⟩ rfl (foot_pure (fun V => ⟨isY_nil V, isY_nil V, isY_nil V, by simp, by simp⟩))
    · have d0 : (s.st == 0) = false := by simpa using h0
      have d1 : decide (s.st = 0) = false := by simpa using h0
      have d2 : (s.st != 0) = true := by simpa using h0
      have HE : Hid (oneM S c.c = (errR 150, S)) := by
        show _ = _
        have hk2 : c.c.kd = 4 := HKd.out
        have ho : openM S.ss c.c.tx = false := by rw [show c.c.tx = c.tx from rfl, HO.out]; simpa using d0
        simp [oneM, hk2, ho]
      clear h0
      obtain ⟨-, z, zf⟩ := HX.out W3 HB3.out
      have z0 : W3.cell? ⟨w.heap.size + 1, 0, none⟩ = some (.int .i64 0) := z 0 _ rfl
      have z1 : W3.cell? ⟨w.heap.size + 1, 1, none⟩ = some (.int .u64 0) := z 1 _ rfl
      have z2 : W3.cell? ⟨w.heap.size + 1, 2, none⟩ = some (.int .u64 0) := z 2 _ rfl
      have z3 : W3.cell? ⟨w.heap.size + 1, 3, none⟩ = some (.bool false) := z 3 _ rfl
      have z4 : W3.cell? ⟨w.heap.size + 1, 4, none⟩ = some (.slice none 0 0) := z 4 _ rfl
      have z5 : W3.cell? ⟨w.heap.size + 1, 5, none⟩ = some (.slice none 0 0) := z 5 _ rfl
      have z6 : W3.cell? ⟨w.heap.size + 1, 6, none⟩ = some (.slice none 0 0) := z 6 _ rfl
      have g0 := zf 0
      have g1 := zf 1
      have g2 := zf 2
      have g3 := zf 3
      have g4 := zf 4
      have g5 := zf 5
      have g6 := zf 6
      clear z zf
      go_wp2
      change bodyPost _ _ _ _ _ (W3.setCells (w.heap.size + 1) 0 [.int .i64 150, .int .u64 0, .int .u64 0, .bool false, .slice none 0 0, .slice none 0 0, .slice none 0 0])
      have hr := box_set (V := W3) (b := w.heap.size + 1) (new := [.int .i64 150, .int .u64 0, .int .u64 0, .bool false, .slice none 0 0, .slice none 0 0, .slice none 0 0]) (HX.out W3 HB3.out).2.1 (Nat.le_refl _) (HX.out W3 HB3.out).2.2
      have r0 := hr 0 _ rfl
      have r1 := hr 1 _ rfl
      have r2 := hr 2 _ rfl
      have r3 := hr 3 _ rfl
      have r4 := hr 4 _ rfl
      have r5 := hr 5 _ rfl
      have r6 := hr 6 _ rfl
      have hbe := box_below (l := [.int .i64 150, .int .u64 0, .int .u64 0, .bool false, .slice none 0 0, .slice none 0 0, .slice none 0 0]) HBw.out (show w.heap.size ≤ w.heap.size + 1 by omega)
      clear hr
      generalize W3.setCells (w.heap.size + 1) 0 [.int .i64 150, .int .u64 0, .int .u64 0, .bool false, .slice none 0 0, .slice none 0 0, .slice none 0 0] = W at *
      refine bodyPost_ret (v := .agg #[.int .i64 150, .int .u64 0, .int .u64 0, .bool false, .slice none 0 0, .slice none 0 0, .slice none 0 0]) (by simp [results, Tryz.results30, go_sem, r0, r1, r2, r3, r4, r5, r6]) rfl ?_
      rw [HE.out]
      exact xs_same HI.out hbe (resR 150) rfl (foot_pure (fun V => resR_ok 150 V)) (Nat.le_succ _)

end Go.Proofs.YtcgiicmmfleinaaGreatDoor

namespace Go.Proofs.YtcgiicmmfleinaaGreatDoor
open Go.RowKit NumMath Go.ChangeShapes Go.WideShapes Go.Deep
set_option linter.unusedVariables false
set_option linter.unusedSimpArgs false
set_option maxRecDepth 100000

/-- numbers and clock as a call leaves them -/
theorem IsXm.turn {F : Nat → Prop} {w0 w W : World} {a : Xm} {z y : Nat} {S : Mac} (h : IsXm F w0 w a z S) (hk : Keeps a.X w W) {sv' : Value} {ck' : Int} {l : List Sta} (hcell : ∀ j, j ≠ 1 → j ≠ 2 → W.cell? ⟨a.p, j, none⟩ = w.cell? ⟨a.p, j, none⟩) (hfz : ∀ j, W.frozen? ⟨a.p, j, none⟩ = w.frozen? ⟨a.p, j, none⟩)
    (c1 : W.cell? ⟨a.p, 1, none⟩ = some (.int .u64 ck')) (c2 : W.cell? ⟨a.p, 2, none⟩ = some sv') (ho : OwnY laySt W w0.heap.size sv' l) (hat : ∀ k, sv'.ownBlock = some k → a.sv.ownBlock = some k ∨ w.heap.size ≤ k) (hi : MacI y { S with ck := ck', ss := l }) (hz : z ≤ y) :
    IsXm F w0 W { a with sv := sv' } y { S with ck := ck', ss := l } := by
  have hs := h.lk.b0.size
  have hk2 : Keeps (fun k => a.X k ∨ F k) w W := Keeps.wider hk (fun k hk => .inl hk)
  have hX : ∀ k, (({ a with sv := sv' } : Xm).X k ∨ F k) → (a.X k ∨ F k) ∨ w.heap.size ≤ k := fun k hk2 => by
    rcases hk2 with (h1 | h1) | h1
    · exact .inl (.inl (.inl h1))
    · rcases hat k h1 with h2 | h2
      · exact .inl (.inl (.inr h2))
      · exact .inr h2
    · exact .inl (.inr h1)
  have hb : ∀ {x : Option Addr}, (∀ b, x = some b → a.sv.ownBlock ≠ some b.block ∧ ¬ F b.block ∧ b.block < w.heap.size) → ∀ b, x = some b → sv'.ownBlock ≠ some b.block ∧ ¬ F b.block ∧ b.block < W.heap.size := fun hx b hb => ⟨fun e => by
    rcases hat _ e with h2 | h2
    · exact (hx b hb).1 h2
    · have := (hx b hb).2.2; omega, (hx b hb).2.1, Nat.lt_of_lt_of_le (hx b hb).2.2 hk.size⟩
  have hy : ∀ {x : Option Addr} {n : Nat}, (∀ b, x = some b → a.sv.ownBlock ≠ some b.block ∧ ¬ F b.block ∧ b.block < w.heap.size) → (n = 0 ∨ ∀ y, x = some y → y.block ≠ a.p) → n = 0 ∨ ∀ y, x = some y → ¬ a.X y.block := fun hx ho2 => by
    rcases ho2 with h2 | h2
    · exact .inl h2
    · refine .inr (fun y hy hX => ?_)
      rcases hX with e | e
      · exact h2 y hy e
      · exact (hx y hy).1 e
  refine ⟨(hcell 0 (by omega) (by omega)).trans h.c0, c1, c2, (hcell 5 (by omega) (by omega)).trans h.c5, ho, fun e => ?_, ?_, h.eh, h.ew, hb h.hx, hb h.wx, h.tb.step hk2 hX, h.tm, h.ft, h.lo.step hk2 hX, h.lx, Nat.le_trans h.ll hz, fun k hf => ⟨(h.fx k hf).1, Nat.lt_of_lt_of_le (h.fx k hf).2 hk.size⟩, fun k hf hx => ?_, hi⟩
  · rcases hat _ e with h2 | h2
    · exact h.sp h2
    · have h3 : w.heap.size ≤ a.p := h2
      have := h.lt; omega
  · exact ⟨(hcell 3 (by omega) (by omega)).trans h.lk.c0, (hcell 4 (by omega) (by omega)).trans h.lk.c1, Nat.lt_of_lt_of_le h.lt hk.size, fun j => (hfz j).trans (h.lk.fz j), h.lk.h.lies hk (hy h.hx h.lk.oh), h.lk.wt.lies hk (hy h.wx h.lk.ow), h.lk.b0.trans (hk.below hs (fun k hk3 => (h.xl k hk3).1)), h.lk.q0, h.lk.ho, h.lk.wo, h.lk.oh, h.lk.ow, h.lk.fh, h.lk.fw, fun _ _ _ => rfl⟩
  · rcases hx with e | e
    · exact h.fd k hf (.inl e)
    · rcases hat k e with h2 | h2
      · exact h.fd k hf (.inr h2)
      · have := (h.fx k hf).2; omega

set_option maxHeartbeats 4000000 in
theorem xone1_any {F : Nat → Prop} {w0 w : World} {a : Xm} {z : Nat} {S : Mac} (h : IsXm F w0 w a z S) (c : MCmd) (hc : c.ok w0) (hf : c.c.Few) (hz : z ≤ 159) (hk : c.kd = 1) :
    Calls Tryz.prog 30 #[.pointer (some ⟨a.p, 0, none⟩), .agg #[.int .u64 c.cl, .int .u64 c.sq, .int .i64 c.kd, .int .u64 c.tx, .int .u64 c.ts, .bool c.fl, .int .u64 c.lk.l.tx, .int .i64 c.lk.l.lv, .int .i64 c.lk.l.md, .slice c.lk.la c.lk.ln c.lk.lc, .slice c.lk.ha c.lk.hn c.lk.hc, .slice c.lo.a c.lo.n c.lo.c, .slice c.hi.a c.hi.n c.hi.c, .slice c.txs.a c.txs.n c.txs.c, .slice c.ws.a c.ws.n c.ws.c, .slice c.ks.a c.ks.n c.ks.c, .int .i64 c.tb.id, .string (strB c.tb.nm), .slice c.tb.cs.a c.tb.cs.n c.tb.cs.c, .int .i64 c.tb.ky, .slice c.tb.ix.a c.tb.ix.n c.tb.ix.c]] w (XsPost F w0 w a (z + 1) (oneM S c.c)) := by
  have HKd := hide hk
  clear hk
  obtain ⟨W1, hW1⟩ : ∃ W1, W1 = ((w.alloc (.cells #[.int .u64 c.cl, .int .u64 c.sq, .int .i64 c.kd, .int .u64 c.tx, .int .u64 c.ts, .bool c.fl, .int .u64 c.lk.l.tx, .int .i64 c.lk.l.lv, .int .i64 c.lk.l.md, .slice c.lk.la c.lk.ln c.lk.lc, .slice c.lk.ha c.lk.hn c.lk.hc, .slice c.lo.a c.lo.n c.lo.c, .slice c.hi.a c.hi.n c.hi.c, .slice c.txs.a c.txs.n c.txs.c, .slice c.ws.a c.ws.n c.ws.c, .slice c.ks.a c.ks.n c.ks.c, .int .i64 c.tb.id, .string (strB c.tb.nm), .slice c.tb.cs.a c.tb.cs.n c.tb.cs.c, .int .i64 c.tb.ky, .slice c.tb.ix.a c.tb.ix.n c.tb.ix.c] 50)).alloc (.cells #[.int .i64 0, .int .u64 0, .int .u64 0, .bool false, .slice none 0 0, .slice none 0 0, .slice none 0 0] 55)) := ⟨_, rfl⟩
  have hb1 : Below w.heap.size w W1 := by
    rw [hW1]
    exact (new_below w _).trans ((new_below _ _).mono (new_below w _).size)
  have hl1 : W1.heap.size = w.heap.size + 2 := by rw [hW1]; simp
  have HX : Hid (∀ V, Below W1.heap.size W1 V → V.rangeAt w.heap.size 0 (layCm.cells c) ∧ V.rangeAt (w.heap.size + 1) 0 [.int .i64 0, .int .u64 0, .int .u64 0, .bool false, .slice none 0 0, .slice none 0 0, .slice none 0 0] ∧ ∀ j, V.frozen? ⟨w.heap.size + 1, j, none⟩ = false) := by
    intro V hb
    refine ⟨?_, ?_, fun j => ?_⟩
    · subst hW1
      exact (two_boxes w #[.int .u64 c.cl, .int .u64 c.sq, .int .i64 c.kd, .int .u64 c.tx, .int .u64 c.ts, .bool c.fl, .int .u64 c.lk.l.tx, .int .i64 c.lk.l.lv, .int .i64 c.lk.l.md, .slice c.lk.la c.lk.ln c.lk.lc, .slice c.lk.ha c.lk.hn c.lk.hc, .slice c.lo.a c.lo.n c.lo.c, .slice c.hi.a c.hi.n c.hi.c, .slice c.txs.a c.txs.n c.txs.c, .slice c.ws.a c.ws.n c.ws.c, .slice c.ks.a c.ks.n c.ks.c, .int .i64 c.tb.id, .string (strB c.tb.nm), .slice c.tb.cs.a c.tb.cs.n c.tb.cs.c, .int .i64 c.tb.ky, .slice c.tb.ix.a c.tb.ix.n c.tb.ix.c] #[.int .i64 0, .int .u64 0, .int .u64 0, .bool false, .slice none 0 0, .slice none 0 0, .slice none 0 0] 50 55 V hb).1
    · subst hW1
      exact (two_boxes w #[.int .u64 c.cl, .int .u64 c.sq, .int .i64 c.kd, .int .u64 c.tx, .int .u64 c.ts, .bool c.fl, .int .u64 c.lk.l.tx, .int .i64 c.lk.l.lv, .int .i64 c.lk.l.md, .slice c.lk.la c.lk.ln c.lk.lc, .slice c.lk.ha c.lk.hn c.lk.hc, .slice c.lo.a c.lo.n c.lo.c, .slice c.hi.a c.hi.n c.hi.c, .slice c.txs.a c.txs.n c.txs.c, .slice c.ws.a c.ws.n c.ws.c, .slice c.ks.a c.ks.n c.ks.c, .int .i64 c.tb.id, .string (strB c.tb.nm), .slice c.tb.cs.a c.tb.cs.n c.tb.cs.c, .int .i64 c.tb.ky, .slice c.tb.ix.a c.tb.ix.n c.tb.ix.c] #[.int .i64 0, .int .u64 0, .int .u64 0, .bool false, .slice none 0 0, .slice none 0 0, .slice none 0 0] 50 55 V hb).2
    · rw [hb.frozen (p := ⟨w.heap.size + 1, j, none⟩) (by show w.heap.size + 1 < W1.heap.size; omega), hW1]
      have h := fzY_new (w.alloc (.cells #[.int .u64 c.cl, .int .u64 c.sq, .int .i64 c.kd, .int .u64 c.tx, .int .u64 c.ts, .bool c.fl, .int .u64 c.lk.l.tx, .int .i64 c.lk.l.lv, .int .i64 c.lk.l.md, .slice c.lk.la c.lk.ln c.lk.lc, .slice c.lk.ha c.lk.hn c.lk.hc, .slice c.lo.a c.lo.n c.lo.c, .slice c.hi.a c.hi.n c.hi.c, .slice c.txs.a c.txs.n c.txs.c, .slice c.ws.a c.ws.n c.ws.c, .slice c.ks.a c.ks.n c.ks.c, .int .i64 c.tb.id, .string (strB c.tb.nm), .slice c.tb.cs.a c.tb.cs.n c.tb.cs.c, .int .i64 c.tb.ky, .slice c.tb.ix.a c.tb.ix.n c.tb.ix.c] 50)) #[.int .i64 0, .int .u64 0, .int .u64 0, .bool false, .slice none 0 0, .slice none 0 0, .slice none 0 0] 55 j
      rwa [World.size_alloc] at h
  obtain ⟨sa, sn, sc, hsv⟩ := h.so.any3
  have hI : IsY laySt w sa sn sc S.ss := by
    have h2 := h.so
    rw [hsv] at h2
    exact h2.is
  have hc2 : w.cell? ⟨a.p, 2, none⟩ = some (.slice sa sn sc) := by rw [← hsv]; exact h.c2
  have hst := xstate_any a.p sa sn sc S.ss c.tx W1 (Nat.lt_of_lt_of_le h.lt hb1.size) ((hb1.cell (p := ⟨a.p, 2, none⟩) h.lt).trans hc2) (hI.keep hb1) h.i.nx hf.tx
  obtain ⟨s, hs⟩ : ∃ s, staM S.ss c.tx = s := ⟨_, rfl⟩
  obtain ⟨b, hbb⟩ : ∃ b, hasM S.ss c.tx = b := ⟨_, rfl⟩
  rw [hs, hbb] at hst
  have HSt := hide hst
  have HI := hide h
  have HCo := hide hc
  have HFw := hide hf
  have HB1 := hide hb1
  have HL1 := hide hl1
  have HS := hide hs
  have HBb := hide hbb
  have HSv := hide hsv
  have HSY := hide hI
  have x3 : W1.cell? ⟨w.heap.size, 3, none⟩ = some (.int .u64 c.tx) := (HX.out W1 (Below.refl _ _)).1 3 _ rfl
  have hpl := h.lt
  have hpw : ¬ w.heap.size = a.p := by omega
  have hpw2 : ¬ w.heap.size + 1 = a.p := by omega
  clear h hc hf hb1 hl1 hst hs hbb hsv hI hc2
  go_enter Tryz.func30, Tryz.ntmps30
  go_upto_region 1 with fail
  rw [← hW1]
  clear hW1
  go_upto_region 2 with (first
    | (go_at_call 82; go_must (refine HSt.out.mono ?_); rintro e w2 ⟨rfl, hb2⟩; have HB2 := hide hb2; clear hb2))
  obtain ⟨W3, hW3⟩ : ∃ W3, W3 = w2.alloc (.cells #[.int .u64 s.tx, .int .i64 s.st, .int .u64 s.ts] 80) := ⟨_, rfl⟩
  rw [← hW3]
  have HN3 : Hid (Below w2.heap.size w2 W3) := by rw [hW3]; exact new_below _ _
  have HR3 : Hid (W3.rangeAt w2.heap.size 0 (laySt.cells s)) := by
    rw [hW3]
    exact rangeY_new w2 w2.heap.size _ _ rfl
  have HFz3 : Hid (∀ j, W3.frozen? ⟨w2.heap.size, j, none⟩ = false) := by
    rw [hW3]
    exact fun j => fzY_new _ _ _ _
  have HL3 : Hid (w2.heap.size < W3.heap.size) := by
    rw [hW3]
    exact (Array.getElem?_eq_some_iff.1 (heap_alloc_new _ _)).1
  have HB3 : Hid (Below W1.heap.size W1 W3) := HB2.out.trans (HN3.out.mono HB2.out.size)
  have HBw : Hid (Below w.heap.size w W3) := HB1.out.trans (HB3.out.mono HB1.out.size)
  clear hW3 x3 HSt
  have x2 : W3.cell? ⟨w.heap.size, 2, none⟩ = some (.int .i64 c.kd) := (HX.out W3 HB3.out).1 2 _ rfl
  have HE : Hid (oneM S c.c = (⟨0, (S.ss.length : Int) + 1, S.ck, false, [], []⟩, { S with ss := S.ss ++ [sta0 ((S.ss.length : Int) + 1)] })) := by
    show _ = _
    have hk2 : c.c.kd = 1 := HKd.out
    simp [oneM, hk2]
  have HMi : Hid (MacI (z + 1) (oneM S c.c).2) := (HI.out.i.one HFw.out).1
  rw [show c.kd = 1 from HKd.out] at x2
  have HI3 := hide (HI.out.box HBw.out (b := w.heap.size + 1) (by omega) (by have := HB3.out.size; have := HL1.out; omega))
  have HW3s : Hid (w.heap.size + 1 < W3.heap.size) := by show _ < _; have := HB3.out.size; have := HL1.out; omega
  have hsl : S.ss.length = sn := HSY.out.1
  have hns := HI.out.i.ns
  rw [hsl] at hns
  have HSl := hide hsl
  have hm : (sn : Int) ≤ 9223372036854775807 := by omega
  have hw := u64wrap hm
  have hn9 : (sn : Int) ≤ 1000 := by omega
  obtain ⟨W4, hW4⟩ : ∃ W4, W4 = W3.alloc (.cells #[.int .u64 ((sn : Int) + 1), .int .i64 0, .int .u64 0] 80) := ⟨_, rfl⟩
  have hb4 : Below W3.heap.size W3 W4 := by rw [hW4]; exact new_below _ _
  have HI4 := hide (HI3.out.keep hb4)
  have HO4 : Hid (OwnY laySt W4 w0.heap.size (.slice sa sn sc) S.ss) := by
    have h2 := HI4.out.so
    rw [HSv.out] at h2
    exact h2
  have HXs : Hid (SrcY laySt W4 (some ⟨W3.heap.size, 0, none⟩) 1 [sta0 ((sn : Int) + 1)]) := by
    show SrcY _ _ _ _ _
    rw [hW4]
    exact (ownY_one (L := laySt) W3 W3.heap.size #[.int .u64 ((sn : Int) + 1), .int .i64 0, .int .u64 0] (sta0 ((sn : Int) + 1)) (Nat.le_refl _) rfl).is.src
  have HBig : Hid (S.ss.length + [sta0 ((sn : Int) + 1)].length ≤ 1000000000) := by show _ ≤ _; rw [HSl.out]; simp; omega
  have HBl : Hid (w0.heap.size ≤ W4.heap.size) := HI4.out.lk.b0.size
  have HB4 := hide hb4
  have HW4 := hide hW4
  have y2 : W3.cell? ⟨a.p, 2, none⟩ = some (.slice sa sn sc) := by
    have h2 := HI3.out.c2
    rw [HSv.out] at h2
    exact h2
  clear hsl hns hb4 hW4
  go_upto_region 6 with (first
    | (at_builtin; (try rw [← HW4.out]); go_must (refine wp_joinY laySt _ rfl (.tmp 38) (.tmp 41) rfl w0.heap.size _ S.ss rfl HO4.out (some ⟨W3.heap.size, 0, none⟩) 1 1 [sta0 ((sn : Int) + 1)] rfl HXs.out HBig.out HBl.out ?_); intro v5 w5 hown5 hg5 hat5; have HO5 := hide hown5; have HG5 : Hid (Keeps (fun k => a.sv.ownBlock = some k) W3 w5) := (by show Keeps _ _ _; rw [HSv.out]; exact kpThen (Below.keeps HB4.out _) (fun k hk => .inl hk) (grown_kp hg5)); obtain ⟨va, vn, vc, rfl⟩ := hown5.any3; have HA5 : Hid (∀ k, (Value.slice va vn vc).ownBlock = some k → (Value.slice sa sn sc).ownBlock = some k ∨ W4.heap.size ≤ k) := atB_or hat5; have hp5 := HG5.out.block a.p HI3.out.lt (fun e => HI3.out.sp e); have u2 := (World.cell?_of_block (a := ⟨a.p, 2, none⟩) hp5).trans y2; have f2 := (World.frozen?_of_block (a := ⟨a.p, 2, none⟩) hp5).trans (HI3.out.lk.fz 2); clear hown5 hg5 hat5 hp5))
  obtain ⟨W6, hW6⟩ : ∃ W6, W6 = w5.setCell ⟨a.p, 2, none⟩ (.slice va vn vc) := ⟨_, rfl⟩
  rw [← hW6]
  have hs6 : Keeps (fun k => k = a.p) w5 W6 := by rw [hW6]; exact keepsY_cell _
  have hp5 := HG5.out.block a.p HI3.out.lt (fun e => HI3.out.sp e)
  have HK6 : Hid (Keeps a.X W3 W6) := kpThen (Keeps.wider HG5.out (fun k hk => .inr hk)) (fun k hk => .inl hk) (Keeps.wider hs6 (fun k (e : k = a.p) => Or.inl e) : Keeps a.X w5 W6)
  have HC6 : Hid (∀ j, j ≠ 2 → W6.cell? ⟨a.p, j, none⟩ = W3.cell? ⟨a.p, j, none⟩) := by
    intro j hj
    rw [hW6, World.cell?_setCell_other _ _ _ _ (by intro e; cases e; exact hj rfl)]
    exact World.cell?_of_block (a := ⟨a.p, j, none⟩) hp5
  have HF6 : Hid (∀ j, W6.frozen? ⟨a.p, j, none⟩ = W3.frozen? ⟨a.p, j, none⟩) := by
    intro j
    rw [hW6, World.frozen?_setCell]
    exact World.frozen?_of_block (a := ⟨a.p, j, none⟩) hp5
  have HD6 : Hid (W6.cell? ⟨a.p, 2, none⟩ = some (.slice va vn vc)) := by
    show _ = _
    rw [hW6]
    exact World.cell?_setCell_same' _ _ _ (by rw [u2]; rfl)
  have HO6 : Hid (OwnY laySt W6 w0.heap.size (.slice va vn vc) (S.ss ++ [sta0 ((sn : Int) + 1)])) := HO5.out.lies (fun g hg => hs6.block g (HO5.out.lt g hg).2 (fun e => by
    rcases HA5.out g hg with h2 | h2
    · exact HI3.out.sp (by rw [HSv.out, h2, e])
    · have := HI3.out.lt; have := HB4.out.size; omega))
  have HA6 : Hid (∀ k, (Value.slice va vn vc).ownBlock = some k → a.sv.ownBlock = some k ∨ W3.heap.size ≤ k) := fun k hk => by
    rcases HA5.out k hk with h2 | h2
    · exact .inl (by rw [HSv.out]; exact h2)
    · exact .inr (Nat.le_trans HB4.out.size h2)
  have hbx : W6.heap[w.heap.size + 1]? = W3.heap[w.heap.size + 1]? := HK6.out.block _ HW3s.out (fun e => by have := HI.out.xl _ e; omega)
  have HZ5 : Hid (W6.rangeAt (w.heap.size + 1) 0 [.int .i64 0, .int .u64 0, .int .u64 0, .bool false, .slice none 0 0, .slice none 0 0, .slice none 0 0]) := rangeY_same (HX.out W3 HB3.out).2.1 hbx
  have HF5 : Hid (∀ j, W6.frozen? ⟨w.heap.size + 1, j, none⟩ = false) := fun j => (World.frozen?_of_block (a := ⟨w.heap.size + 1, j, none⟩) hbx).trans ((HX.out W3 HB3.out).2.2 j)
  have v1 : W6.cell? ⟨a.p, 1, none⟩ = some (.int .u64 S.ck) := (HC6.out 1 (by omega)).trans HI3.out.c1
  clear hW6 hs6 hp5 u2 f2 y2 hbx
  have z0 : W6.cell? ⟨w.heap.size + 1, 0, none⟩ = some (.int .i64 0) := HZ5.out 0 _ rfl
  have z1 : W6.cell? ⟨w.heap.size + 1, 1, none⟩ = some (.int .u64 0) := HZ5.out 1 _ rfl
  have z2 : W6.cell? ⟨w.heap.size + 1, 2, none⟩ = some (.int .u64 0) := HZ5.out 2 _ rfl
  have z3 : W6.cell? ⟨w.heap.size + 1, 3, none⟩ = some (.bool false) := HZ5.out 3 _ rfl
  have z4 : W6.cell? ⟨w.heap.size + 1, 4, none⟩ = some (.slice none 0 0) := HZ5.out 4 _ rfl
  have z5 : W6.cell? ⟨w.heap.size + 1, 5, none⟩ = some (.slice none 0 0) := HZ5.out 5 _ rfl
  have z6 : W6.cell? ⟨w.heap.size + 1, 6, none⟩ = some (.slice none 0 0) := HZ5.out 6 _ rfl
  have g0 := HF5.out 0
  have g1 := HF5.out 1
  have g2 := HF5.out 2
  have g3 := HF5.out 3
  have g4 := HF5.out 4
  have g5 := HF5.out 5
  have g6 := HF5.out 6
  go_wp2
  change bodyPost _ _ _ _ _ (W6.setCells (w.heap.size + 1) 0 [.int .i64 0, .int .u64 ((sn : Int) + 1), .int .u64 S.ck, .bool false, .slice none 0 0, .slice none 0 0, .slice none 0 0])
  have hr := box_set (V := W6) (b := w.heap.size + 1) (new := [.int .i64 0, .int .u64 ((sn : Int) + 1), .int .u64 S.ck, .bool false, .slice none 0 0, .slice none 0 0, .slice none 0 0]) HZ5.out (Nat.le_refl _) HF5.out
  have r0 := hr 0 _ rfl
  have r1 := hr 1 _ rfl
  have r2 := hr 2 _ rfl
  have r3 := hr 3 _ rfl
  have r4 := hr 4 _ rfl
  have r5 := hr 5 _ rfl
  have r6 := hr 6 _ rfl
  have hkk : Keeps (fun k => k = w.heap.size + 1) W6 (W6.setCells (w.heap.size + 1) 0 [.int .i64 0, .int .u64 ((sn : Int) + 1), .int .u64 S.ck, .bool false, .slice none 0 0, .slice none 0 0, .slice none 0 0]) := keepsYs _ _ _ _
  clear hr
  generalize W6.setCells (w.heap.size + 1) 0 [.int .i64 0, .int .u64 ((sn : Int) + 1), .int .u64 S.ck, .bool false, .slice none 0 0, .slice none 0 0, .slice none 0 0] = W at *
  refine bodyPost_ret (v := .agg #[.int .i64 0, .int .u64 ((sn : Int) + 1), .int .u64 S.ck, .bool false, .slice none 0 0, .slice none 0 0, .slice none 0 0]) (by simp [results, Tryz.results30, go_sem, r0, r1, r2, r3, r4, r5, r6]) rfl ?_
  have hm2 := HMi.out
  rw [HE.out] at hm2 ⊢
  rw [HSl.out] at hm2 ⊢
  have hI6 := HI3.out.turn HK6.out (sv' := .slice va vn vc) (ck' := S.ck) (fun j h1 h2 => HC6.out j h2) HF6.out ((HC6.out 1 (by omega)).trans HI3.out.c1) HD6.out HO6.out HA6.out hm2 (Nat.le_succ _)
  exact xs_done (a' := { a with sv := .slice va vn vc }) (b := w.heap.size + 1) HI.out HBw.out HK6.out hI6 (fun k hk => by
    rcases hk with e | e
    · exact .inl (.inl e)
    · rcases HA6.out k e with h2 | h2
      · exact .inl (.inr h2)
      · exact .inr (Nat.le_trans HBw.out.size h2)) rfl (by omega) hkk ⟨0, (sn : Int) + 1, S.ck, false, ⟨none, 0, 0, []⟩, ⟨none, 0, 0, []⟩, ⟨none, 0, 0, []⟩⟩ rfl (foot_pure (fun V => ⟨isY_nil V, isY_nil V, isY_nil V, by simp, by simp⟩))

end Go.Proofs.YtcgiicmmfleinaaGreatDoor
