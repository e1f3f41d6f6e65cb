/- The program's machine in memory: where its parts lie; what a call leaves. The program's machine: made, has, state, open, settle: what they answer. The program's machine: settle, begin: what they do. -/
import Derived.Test.YtcgiicmmfleinaaGreatDoorMe1
import Derived.Test.YtcgiicmmfleinaaGreatDoorCmA
import Derived.Test.YtcgiicmmfleinaaGreatDoorPkN
namespace Go.Proofs.YtcgiicmmfleinaaGreatDoor
open Go.RowKit NumMath Go.ChangeShapes Go.WideShapes Go.Deep
set_option linter.unusedVariables false
set_option maxRecDepth 100000

def laySt : Lay Sta where
  e := 80
  t := 32
  k := 3
  bys := 24
  z := .agg #[.int .u64 0, .int .i64 0, .int .u64 0]
  cells := fun m => [.int .u64 m.tx, .int .i64 m.st, .int .u64 m.ts]
  len := fun _ => rfl
  one := by intro x u hu; simp at hu; rcases hu with rfl | rfl | rfl <;> rfl
  pos := by decide
  few := by decide
  und := Tryz.underlying32
  info := by kernel_rfl
  zs := rfl

/-- a result in memory -/
structure MRes where
  er : Int
  tx : Int
  ts : Int
  fl : Bool
  sa : Option Addr
  sn : Nat
  sc : Nat
  ss : List Sta
  ta : Option Addr
  tn : Nat
  tc : Nat
  tbs : List MTb

def MRes.r (m : MRes) : Res := ⟨m.er, m.tx, m.ts, m.fl, m.ss, m.tbs.map MTb.t⟩
def MRes.v (m : MRes) : Value := .agg #[.int .i64 m.er, .int .u64 m.tx, .int .u64 m.ts, .bool m.fl, .slice m.sa m.sn m.sc, .slice none 0 0, .slice m.ta m.tn m.tc]
def ansV (sq : Int) (m : MRes) : Value := .agg #[.int .u64 sq, .int .i64 m.er, .int .u64 m.tx, .int .u64 m.ts, .bool m.fl, .slice m.sa m.sn m.sc, .slice none 0 0, .slice m.ta m.tn m.tc]

structure MRes.ok (w : World) (m : MRes) : Prop where
  s : IsY laySt w m.sa m.sn m.sc m.ss
  t : IsY layTb w m.ta m.tn m.tc m.tbs
  k : ∀ x ∈ m.tbs, x.ok w

theorem MRes.ok.keep {w w' : World} {m : MRes} (h : m.ok w) (hb : Below w.heap.size w w') : m.ok w' := ⟨h.s.keep hb, h.t.keep hb, fun x hx => (h.k x hx).keep hb⟩

/-- a result with numbers alone -/
def mresN (er tx ts : Int) (fl : Bool) : MRes := ⟨er, tx, ts, fl, none, 0, 0, [], none, 0, 0, []⟩

theorem mresN_ok (er tx ts : Int) (fl : Bool) (w : World) : (mresN er tx ts fl).ok w := ⟨isY_nil w, isY_nil w, by simp [mresN]⟩

/-- where a machine's parts lie -/
structure Mm where
  p : Nat
  sv : Value
  q : Nat
  tv : Value
  nl : Bool
  mb : Nat
  hv : Value
  wv : Value
  hs : List ML
  ws : List ML
  ms : List MTb
  f : Lit → Option Value

def Mm.G (a : Mm) (k : Nat) : Prop := k = a.p ∨ a.sv.ownBlock = some k ∨ a.tv.ownBlock = some k ∨ k = a.mb
def Mm.X (a : Mm) (k : Nat) : Prop := a.G k ∨ Xt a.q a.hv a.wv k

/-- what clients were answered: what stands in the map -/
def LaIs (F : Nat → Prop) (w : World) (f : Lit → Option Value) (la : Int → Option (Int × Res)) : Prop :=
  ∀ c, U64 c → (f (.int .u64 c) = none ∧ la c = none) ∨ ∃ sq mr, f (.int .u64 c) = some (ansV sq mr) ∧ la c = some (sq, mr.r) ∧ Foot F w (fun V => mr.ok V)

/-- the program's machine -/
structure IsMm (F : Nat → Prop) (base : Nat) (w : World) (a : Mm) (z : Nat) (S : Mac) : Prop where
  c0 : w.cell? ⟨a.p, 0, none⟩ = some (.int .u64 S.ck)
  c1 : w.cell? ⟨a.p, 1, none⟩ = some a.sv
  c2 : w.cell? ⟨a.p, 2, none⟩ = some (.pointer (some ⟨a.q, 0, none⟩))
  c3 : w.cell? ⟨a.p, 3, none⟩ = some a.tv
  c4 : w.cell? ⟨a.p, 4, none⟩ = some (.map (if a.nl then none else some a.mb))
  fz : ∀ j, w.frozen? ⟨a.p, j, none⟩ = false
  lt : a.p < w.heap.size
  pb : base ≤ a.p
  so : OwnY laySt w base a.sv S.ss
  tt : OwnY layTb w base a.tv a.ms
  tm : a.ms.map MTb.t = S.tbs
  mp : a.nl = false → MapV w 31 a.mb z a.f
  mn : a.nl = true → ∀ k, a.f k = none
  ml : a.mb < w.heap.size
  mbb : base ≤ a.mb
  tb : IsT (fun k => a.G k ∨ F k) base w a.q a.hv a.wv a.hs a.ws
  th : a.hs.map ML.l = S.tab.held
  tw : a.ws.map ML.l = S.tab.wait
  d1 : a.sv.ownBlock ≠ some a.p
  d2 : a.tv.ownBlock ≠ some a.p
  d3 : a.nl = false → a.mb ≠ a.p
  d4 : OffY a.sv a.tv
  d5 : a.nl = false → a.sv.ownBlock ≠ some a.mb
  d6 : a.nl = false → a.tv.ownBlock ≠ some a.mb
  tf : ∀ m ∈ a.ms, Foot (fun k => a.X k ∨ F k) w (fun V => m.ok V)
  la : LaIs (fun k => a.X k ∨ F k) w a.f S.la
  gx : ∀ k, a.G k → ¬ F k
  f0 : ¬ F 0
  i : MacI z S

theorem IsMm.xl {F : Nat → Prop} {base : Nat} {w : World} {a : Mm} {z : Nat} {S : Mac} (h : IsMm F base w a z S) : ∀ k, a.X k → base ≤ k ∧ k < w.heap.size := by
  intro k hk
  rcases hk with (hk | hk | hk | hk) | hk
  · subst hk; exact ⟨h.pb, h.lt⟩
  · exact h.so.lt k hk
  · exact h.tt.lt k hk
  · subst hk; exact ⟨h.mbb, h.ml⟩
  · exact h.tb.xl k hk

theorem IsMm.fx {F : Nat → Prop} {base : Nat} {w : World} {a : Mm} {z : Nat} {S : Mac} (h : IsMm F base w a z S) : ∀ k, a.X k → ¬ F k := by
  intro k hk hf
  rcases hk with hk | hk
  · exact h.gx k hk hf
  · exact h.tb.gx k hk (.inr hf)

theorem IsMm.fl {F : Nat → Prop} {base : Nat} {w : World} {a : Mm} {z : Nat} {S : Mac} (h : IsMm F base w a z S) : ∀ k, F k → k < w.heap.size := fun k hk => h.tb.gl k (.inr hk)

theorem IsMm.bl {F : Nat → Prop} {base : Nat} {w : World} {a : Mm} {z : Nat} {S : Mac} (h : IsMm F base w a z S) : base ≤ w.heap.size := by
  have := h.pb; have := h.lt; omega

theorem LaIs.step {F F' : Nat → Prop} {w w' : World} {f : Lit → Option Value} {la : Int → Option (Int × Res)} (h : LaIs F w f la) (hs : ∀ P, Foot F w P → Foot F' w' P) : LaIs F' w' f la := by
  intro c hc
  rcases h c hc with h1 | ⟨sq, mr, h1, h2, h3⟩
  · exact .inl h1
  · exact .inr ⟨sq, mr, h1, h2, hs _ h3⟩

/-- what a call leaves of where things lie -/
structure MStep (w w' : World) (a a' : Mm) : Prop where
  p : a'.p = a.p
  kp : Keeps a.X w w'
  st : ∀ k, a'.X k → a.X k ∨ w.heap.size ≤ k

theorem MStep.refl (w : World) (a : Mm) : MStep w w a a := ⟨rfl, kpSelf _ _, fun k hk => .inl hk⟩

theorem MStep.keep {w w' : World} (a : Mm) (hb : Below w.heap.size w w') : MStep w w' a a := ⟨rfl, Below.keeps hb _, fun k hk => .inl hk⟩

theorem MStep.trans {w w1 w2 : World} {a a1 a2 : Mm} (h : MStep w w1 a a1) (k : MStep w1 w2 a1 a2) : MStep w w2 a a2 :=
  ⟨k.p.trans h.p, kpThen h.kp h.st k.kp, fun j hj => by
    rcases k.st j hj with h1 | h1
    · exact h.st j h1
    · exact .inr (Nat.le_trans h.kp.size h1)⟩

theorem MStep.foot {F : Nat → Prop} {w w' : World} {a a' : Mm} (h : MStep w w' a a') {P : World → Prop} (hf : Foot (fun k => a.X k ∨ F k) w P) : Foot (fun k => a'.X k ∨ F k) w' P :=
  hf.step (Keeps.wider h.kp (fun k hk => .inl hk)) (fun k hk => by
    rcases hk with hk | hk
    · rcases h.st k hk with h1 | h1
      · exact .inl (.inl h1)
      · exact .inr h1
    · exact .inl (.inr hk))

theorem IsMm.keep {F : Nat → Prop} {base : Nat} {w w' : World} {a : Mm} {z : Nat} {S : Mac} (h : IsMm F base w a z S) (hb : Below w.heap.size w w') : IsMm F base w' a z S := by
  have hp := hb.block a.p h.lt
  have hs := MStep.keep a hb
  exact ⟨(World.cell?_of_block (a := ⟨a.p, 0, none⟩) hp).trans h.c0, (World.cell?_of_block (a := ⟨a.p, 1, none⟩) hp).trans h.c1, (World.cell?_of_block (a := ⟨a.p, 2, none⟩) hp).trans h.c2, (World.cell?_of_block (a := ⟨a.p, 3, none⟩) hp).trans h.c3, (World.cell?_of_block (a := ⟨a.p, 4, none⟩) hp).trans h.c4, fun j => (World.frozen?_of_block (a := ⟨a.p, j, none⟩) hp).trans (h.fz j), Nat.lt_of_lt_of_le h.lt hb.size, h.pb, h.so.keep hb, h.tt.keep hb, h.tm, fun e => (h.mp e).keep hb, h.mn, Nat.lt_of_lt_of_le h.ml hb.size, h.mbb, h.tb.keep hb, h.th, h.tw, h.d1, h.d2, h.d3, h.d4, h.d5, h.d6, fun m hm => hs.foot (h.tf m hm), h.la.step (fun P => hs.foot), h.gx, h.f0, h.i⟩

theorem IsMm.more {F : Nat → Prop} {base : Nat} {w : World} {a : Mm} {z y : Nat} {S : Mac} (h : IsMm F base w a z S) (hz : z ≤ y) : IsMm F base w a y S :=
  ⟨h.c0, h.c1, h.c2, h.c3, h.c4, h.fz, h.lt, h.pb, h.so, h.tt, h.tm, fun e => (h.mp e).more hz, h.mn, h.ml, h.mbb, h.tb, h.th, h.tw, h.d1, h.d2, h.d3, h.d4, h.d5, h.d6, h.tf, h.la, h.gx, h.f0, h.i.mono hz⟩

/-- behind a step: what was anybody's else stays so -/
theorem MStep.gx {F : Nat → Prop} {base : Nat} {w w' : World} {a a' : Mm} {z : Nat} {S : Mac} (h : IsMm F base w a z S) (k : MStep w w' a a') : ∀ j, a'.X j → ¬ F j := by
  intro j hj hf
  rcases k.st j hj with h1 | h1
  · exact h.fx j h1 hf
  · have := h.fl j hf; omega

/-- what a call of the machine leaves -/
def MPost (F : Nat → Prop) (base : Nat) (w : World) (a : Mm) (z : Nat) (S' : Mac) (w' : World) : Prop :=
  ∃ a', IsMm F base w' a' z S' ∧ MStep w w' a a'

/-- .. with a result -/
def RsPost (F : Nat → Prop) (base : Nat) (w : World) (a : Mm) (z : Nat) (x : Res × Mac) (e : Ending) (w' : World) : Prop :=
  ∃ a' mr, e = .returned (MRes.v mr) ∧ mr.r = x.1 ∧ Foot (fun k => a'.X k ∨ F k) w' (fun V => mr.ok V) ∧ IsMm F base w' a' z x.2 ∧ MStep w w' a a'

theorem offY_new {w : World} {v v' u : Value} (h : OffY v u) (ha : AtB w v v') (hu : ∀ g, u.ownBlock = some g → g < w.heap.size) : OffY v' u := h.grown ha hu

theorem atB_ne {w : World} {v v' : Value} {g : Nat} (h : v.ownBlock ≠ some g) (ha : AtB w v v') (hg : g < w.heap.size) : v'.ownBlock ≠ some g := by
  intro e
  rcases ha with ha | ⟨g2, ha, h2⟩
  · exact h (by rw [← ha]; exact e)
  · rw [ha] at e; cases e; omega

theorem atB_or {w : World} {v v' : Value} (ha : AtB w v v') : ∀ k, v'.ownBlock = some k → v.ownBlock = some k ∨ w.heap.size ≤ k := by
  intro k hk
  rcases ha with ha | ⟨g2, ha, h2⟩
  · exact .inl (by rw [← ha]; exact hk)
  · rw [ha] at hk; cases hk; exact .inr h2

/-- numbers laid anew, at p's field 1 -/
theorem IsMm.setSs {F : Nat → Prop} {base : Nat} {w w2 : World} {a : Mm} {z y : Nat} {S : Mac} {v' : Value} {l' : List Sta} (h : IsMm F base w a z S) (hk : Keeps (fun k => a.sv.ownBlock = some k) w w2) (ho : OwnY laySt w2 base v' l') (ha : AtB w a.sv v') (hz : z ≤ y) (hi : MacI y { S with ss := l' }) :
    MPost F base w a y { S with ss := l' } (w2.setCell ⟨a.p, 1, none⟩ v') := by
  have hk2 := keepsY_cell (w := w2) (g := a.p) (i := 1) v'
  have hpb : w2.heap[a.p]? = w.heap[a.p]? := hk.block a.p h.lt h.d1
  have c0 := (World.cell?_of_block (a := ⟨a.p, 0, none⟩) hpb).trans h.c0
  have c1 := (World.cell?_of_block (a := ⟨a.p, 1, none⟩) hpb).trans h.c1
  have c2 := (World.cell?_of_block (a := ⟨a.p, 2, none⟩) hpb).trans h.c2
  have c3 := (World.cell?_of_block (a := ⟨a.p, 3, none⟩) hpb).trans h.c3
  have c4 := (World.cell?_of_block (a := ⟨a.p, 4, none⟩) hpb).trans h.c4
  have hkS : Keeps (fun k => a.sv.ownBlock = some k ∨ k = a.p) w (w2.setCell ⟨a.p, 1, none⟩ v') := kpThen (Keeps.wider hk (fun k hk => .inl hk)) (fun k hk => .inl (.inr hk)) hk2
  have hd1 : v'.ownBlock ≠ some a.p := atB_ne h.d1 ha h.lt
  have hs : MStep w (w2.setCell ⟨a.p, 1, none⟩ v') a { a with sv := v' } := by
    refine ⟨rfl, Keeps.wider hkS (fun k hk => ?_), fun k hk => ?_⟩
    · rcases hk with hk | hk
      · exact .inl (.inr (.inl hk))
      · exact .inl (.inl hk)
    · rcases hk with (hk | hk | hk | hk) | hk
      · exact .inl (.inl (.inl hk))
      · rcases atB_or ha k hk with h1 | h1
        · exact .inl (.inl (.inr (.inl h1)))
        · exact .inr h1
      · exact .inl (.inl (.inr (.inr (.inl hk))))
      · exact .inl (.inl (.inr (.inr (.inr hk))))
      · exact .inl (.inr hk)
  refine ⟨{ a with sv := v' }, ⟨?_, ?_, ?_, ?_, ?_, fun j => ?_, Nat.lt_of_lt_of_le h.lt hkS.size, h.pb, ?_, ?_, h.tm, ?_, h.mn, Nat.lt_of_lt_of_le h.ml hkS.size, h.mbb, ?_, h.th, h.tw, hd1, h.d2, h.d3, ?_, ?_, h.d6, fun m hm => hs.foot (h.tf m hm), h.la.step (fun P => hs.foot), fun k hk => MStep.gx h hs k (.inl hk), h.f0, hi⟩, hs⟩
  · rw [cell_offY (by decide)]; exact c0
  · exact World.cell?_setCell_same' _ _ _ (by rw [c1]; rfl)
  · rw [cell_offY (by decide)]; exact c2
  · rw [cell_offY (by decide)]; exact c3
  · rw [cell_offY (by decide)]; exact c4
  · rw [World.frozen?_setCell]
    exact (World.frozen?_of_block (a := ⟨a.p, j, none⟩) hpb).trans (h.fz j)
  · exact ho.lies (fun g hg => hk2.block g (ho.lt g hg).2 (fun e => hd1 (by rw [← e]; exact hg)))
  · exact h.tt.lies (fun g hg => hkS.block g (h.tt.lt g hg).2 (fun e => by
      rcases e with e | e
      · exact h.d4 g e hg
      · exact h.d2 (by rw [← e]; exact hg)))
  · exact fun e0 => ((h.mp e0).same (hkS.block a.mb h.ml (fun e => by
      rcases e with e | e
      · exact h.d5 e0 e
      · exact h.d3 e0 e))).more hz
  · refine h.tb.other (Keeps.wider hkS (fun k hk => ?_)) (fun k hk => ⟨?_, ?_⟩) (fun e => ?_)
    · rcases hk with hk | hk
      · exact .inl (.inr (.inl hk))
      · exact .inl (.inl hk)
    · rcases hk with (hk | hk | hk | hk) | hk
      · exact .inl (.inl (.inl hk))
      · rcases atB_or ha k hk with h1 | h1
        · exact .inl (.inl (.inr (.inl h1)))
        · exact .inr h1
      · exact .inl (.inl (.inr (.inr (.inl hk))))
      · exact .inl (.inl (.inr (.inr (.inr hk))))
      · exact .inl (.inr hk)
    · rcases hk with (hk | hk | hk | hk) | hk
      · subst hk; exact Nat.lt_of_lt_of_le h.lt hkS.size
      · exact Nat.lt_of_lt_of_le (ho.lt k hk).2 hk2.size
      · exact Nat.lt_of_lt_of_le (h.tt.lt k hk).2 hkS.size
      · subst hk; exact Nat.lt_of_lt_of_le h.ml hkS.size
      · exact Nat.lt_of_lt_of_le (h.fl k hk) hkS.size
    · rcases e with e | e
      · have := (h.xl 0 (.inl e)).1; have := h.tb.b0; omega
      · exact h.f0 e
  · exact offY_new h.d4 ha (fun g hg => (h.tt.lt g hg).2)
  · exact fun e0 => atB_ne (h.d5 e0) ha h.ml

/-- tables laid anew, at p's field 3 -/
theorem IsMm.setTb {F : Nat → Prop} {base : Nat} {w w2 : World} {a : Mm} {z y : Nat} {S : Mac} {v' : Value} {l' : List MTb} {ts : List Tbl} (h : IsMm F base w a z S) (hk : Keeps (fun k => a.tv.ownBlock = some k) w w2) (ho : OwnY layTb w2 base v' l') (ha : AtB w a.tv v') (hz : z ≤ y) (ht : l'.map MTb.t = ts) (hi : MacI y { S with tbs := ts })
    (hf : ∀ m ∈ l', Foot (fun k => ({ a with tv := v', ms := l' } : Mm).X k ∨ F k) (w2.setCell ⟨a.p, 3, none⟩ v') (fun V => m.ok V)) :
    MPost F base w a y { S with tbs := ts } (w2.setCell ⟨a.p, 3, none⟩ v') := by
  have hk2 := keepsY_cell (w := w2) (g := a.p) (i := 3) v'
  have hpb : w2.heap[a.p]? = w.heap[a.p]? := hk.block a.p h.lt h.d2
  have c0 := (World.cell?_of_block (a := ⟨a.p, 0, none⟩) hpb).trans h.c0
  have c1 := (World.cell?_of_block (a := ⟨a.p, 1, none⟩) hpb).trans h.c1
  have c2 := (World.cell?_of_block (a := ⟨a.p, 2, none⟩) hpb).trans h.c2
  have c3 := (World.cell?_of_block (a := ⟨a.p, 3, none⟩) hpb).trans h.c3
  have c4 := (World.cell?_of_block (a := ⟨a.p, 4, none⟩) hpb).trans h.c4
  have hkS : Keeps (fun k => a.tv.ownBlock = some k ∨ k = a.p) w (w2.setCell ⟨a.p, 3, none⟩ v') := kpThen (Keeps.wider hk (fun k hk => .inl hk)) (fun k hk => .inl (.inr hk)) hk2
  have hd2 : v'.ownBlock ≠ some a.p := atB_ne h.d2 ha h.lt
  have hs : MStep w (w2.setCell ⟨a.p, 3, none⟩ v') a { a with tv := v', ms := l' } := by
    refine ⟨rfl, Keeps.wider hkS (fun k hk => ?_), fun k hk => ?_⟩
    · rcases hk with hk | hk
      · exact .inl (.inr (.inr (.inl hk)))
      · exact .inl (.inl hk)
    · rcases hk with (hk | hk | hk | hk) | hk
      · exact .inl (.inl (.inl hk))
      · exact .inl (.inl (.inr (.inl hk)))
      · rcases atB_or ha k hk with h1 | h1
        · exact .inl (.inl (.inr (.inr (.inl h1))))
        · exact .inr h1
      · exact .inl (.inl (.inr (.inr (.inr hk))))
      · exact .inl (.inr hk)
  refine ⟨{ a with tv := v', ms := l' }, ⟨?_, ?_, ?_, ?_, ?_, fun j => ?_, Nat.lt_of_lt_of_le h.lt hkS.size, h.pb, ?_, ?_, ht, ?_, h.mn, Nat.lt_of_lt_of_le h.ml hkS.size, h.mbb, ?_, h.th, h.tw, h.d1, hd2, h.d3, ?_, h.d5, ?_, hf, h.la.step (fun P => hs.foot), fun k hk => MStep.gx h hs k (.inl hk), h.f0, hi⟩, hs⟩
  · rw [cell_offY (by decide)]; exact c0
  · rw [cell_offY (by decide)]; exact c1
  · rw [cell_offY (by decide)]; exact c2
  · exact World.cell?_setCell_same' _ _ _ (by rw [c3]; rfl)
  · rw [cell_offY (by decide)]; exact c4
  · rw [World.frozen?_setCell]
    exact (World.frozen?_of_block (a := ⟨a.p, j, none⟩) hpb).trans (h.fz j)
  · exact h.so.lies (fun g hg => hkS.block g (h.so.lt g hg).2 (fun e => by
      rcases e with e | e
      · exact h.d4 g hg e
      · exact h.d1 (by rw [← e]; exact hg)))
  · exact ho.lies (fun g hg => hk2.block g (ho.lt g hg).2 (fun e => hd2 (by rw [← e]; exact hg)))
  · exact fun e0 => ((h.mp e0).same (hkS.block a.mb h.ml (fun e => by
      rcases e with e | e
      · exact h.d6 e0 e
      · exact h.d3 e0 e))).more hz
  · refine h.tb.other (Keeps.wider hkS (fun k hk => ?_)) (fun k hk => ⟨?_, ?_⟩) (fun e => ?_)
    · rcases hk with hk | hk
      · exact .inl (.inr (.inr (.inl hk)))
      · exact .inl (.inl hk)
    · rcases hk with (hk | hk | hk | hk) | hk
      · exact .inl (.inl (.inl hk))
      · exact .inl (.inl (.inr (.inl hk)))
      · rcases atB_or ha k hk with h1 | h1
        · exact .inl (.inl (.inr (.inr (.inl h1))))
        · exact .inr h1
      · exact .inl (.inl (.inr (.inr (.inr hk))))
      · exact .inl (.inr hk)
    · rcases hk with (hk | hk | hk | hk) | hk
      · subst hk; exact Nat.lt_of_lt_of_le h.lt hkS.size
      · exact Nat.lt_of_lt_of_le (h.so.lt k hk).2 hkS.size
      · exact Nat.lt_of_lt_of_le (ho.lt k hk).2 hk2.size
      · subst hk; exact Nat.lt_of_lt_of_le h.ml hkS.size
      · exact Nat.lt_of_lt_of_le (h.fl k hk) hkS.size
    · rcases e with e | e
      · have := (h.xl 0 (.inl e)).1; have := h.tb.b0; omega
      · exact h.f0 e
  · exact (offY_new h.d4.symm ha (fun g hg => (h.so.lt g hg).2)).symm
  · exact fun e0 => atB_ne (h.d6 e0) ha h.ml

/-- one number settled in place, and the clock -/
theorem IsMm.settle {F : Nat → Prop} {base : Nat} {w w2 : World} {a : Mm} {z y : Nat} {S : Mac} {l' : List Sta} {ck : Int} (h : IsMm F base w a z S) (hk : Keeps (fun k => a.sv.ownBlock = some k ∨ k = a.p) w w2) (hc : w2.cell? ⟨a.p, 0, none⟩ = some (.int .u64 ck)) (hcs : ∀ j, j ≠ 0 → w2.cell? ⟨a.p, j, none⟩ = w.cell? ⟨a.p, j, none⟩) (hfz : ∀ j, w2.frozen? ⟨a.p, j, none⟩ = false) (ho : OwnY laySt w2 base a.sv l') (hz : z ≤ y) (hi : MacI y { S with ck := ck, ss := l' }) :
    MPost F base w a y { S with ck := ck, ss := l' } w2 := by
  have hs : MStep w w2 a a := by
    refine ⟨rfl, Keeps.wider hk (fun k hk => ?_), fun k hk => .inl hk⟩
    rcases hk with hk | hk
    · exact .inl (.inr (.inl hk))
    · exact .inl (.inl hk)
  refine ⟨a, ⟨hc, (hcs 1 (by decide)).trans h.c1, (hcs 2 (by decide)).trans h.c2, (hcs 3 (by decide)).trans h.c3, (hcs 4 (by decide)).trans h.c4, hfz, Nat.lt_of_lt_of_le h.lt hk.size, h.pb, ho, ?_, h.tm, ?_, h.mn, Nat.lt_of_lt_of_le h.ml hk.size, h.mbb, ?_, h.th, h.tw, h.d1, h.d2, h.d3, h.d4, h.d5, h.d6, fun m hm => hs.foot (h.tf m hm), h.la.step (fun P => hs.foot), h.gx, h.f0, hi⟩, hs⟩
  · exact h.tt.lies (fun g hg => hk.block g (h.tt.lt g hg).2 (fun e => by
      rcases e with e | e
      · exact h.d4 g e hg
      · exact h.d2 (by rw [← e]; exact hg)))
  · exact fun e0 => ((h.mp e0).same (hk.block a.mb h.ml (fun e => by
      rcases e with e | e
      · exact h.d5 e0 e
      · exact h.d3 e0 e))).more hz
  · refine h.tb.other (Keeps.wider hk (fun k hk => ?_)) (fun k hk2 => ⟨.inl hk2, Nat.lt_of_lt_of_le (h.tb.gl k hk2) hk.size⟩) (fun e => ?_)
    · rcases hk with hk | hk
      · exact .inl (.inr (.inl hk))
      · exact .inl (.inl hk)
    · rcases e with e | e
      · have := (h.xl 0 (.inl e)).1; have := h.tb.b0; omega
      · exact h.f0 e

/-- behind a call of the table of locks -/
theorem IsMm.tabbed {F : Nat → Prop} {base : Nat} {w w2 : World} {a : Mm} {z y : Nat} {S : Mac} {hs' ws' : List ML} {t : Tab} (h : IsMm F base w a z S) (hp : TPost (fun k => a.G k ∨ F k) base w a.q a.hv a.wv hs' ws' w2) (h1 : hs'.map ML.l = t.held) (h2 : ws'.map ML.l = t.wait) (hz : z ≤ y) (hi : MacI y { S with tab := t }) :
    MPost F base w a y { S with tab := t } w2 := by
  obtain ⟨hv', wv', hT, hk, ha1, ha2⟩ := hp
  have hst := xt_step (p := a.q) ha1 ha2
  have hs : MStep w w2 a { a with hv := hv', wv := wv', hs := hs', ws := ws' } := by
    refine ⟨rfl, Keeps.wider hk (fun k hk => .inr hk), fun k hk => ?_⟩
    rcases hk with hk | hk
    · exact .inl (.inl hk)
    · rcases hst k hk with h1 | h1
      · exact .inl (.inr h1)
      · exact .inr h1
  have hng : ∀ k, a.G k → ¬ Xt a.q a.hv a.wv k := fun k hk hx => h.tb.gx k hx (.inl hk)
  have hpb : w2.heap[a.p]? = w.heap[a.p]? := hk.block a.p h.lt (hng _ (.inl rfl))
  exact ⟨{ a with hv := hv', wv := wv', hs := hs', ws := ws' }, ⟨(World.cell?_of_block (a := ⟨a.p, 0, none⟩) hpb).trans h.c0, (World.cell?_of_block (a := ⟨a.p, 1, none⟩) hpb).trans h.c1, (World.cell?_of_block (a := ⟨a.p, 2, none⟩) hpb).trans h.c2, (World.cell?_of_block (a := ⟨a.p, 3, none⟩) hpb).trans h.c3, (World.cell?_of_block (a := ⟨a.p, 4, none⟩) hpb).trans h.c4, fun j => (World.frozen?_of_block (a := ⟨a.p, j, none⟩) hpb).trans (h.fz j), Nat.lt_of_lt_of_le h.lt hk.size, h.pb, h.so.lies (fun g hg => hk.block g (h.so.lt g hg).2 (hng g (.inr (.inl hg)))), h.tt.lies (fun g hg => hk.block g (h.tt.lt g hg).2 (hng g (.inr (.inr (.inl hg))))), h.tm, fun e0 => ((h.mp e0).same (hk.block a.mb h.ml (hng _ (.inr (.inr (.inr rfl)))))).more hz, h.mn, Nat.lt_of_lt_of_le h.ml hk.size, h.mbb, hT, h1, h2, h.d1, h.d2, h.d3, h.d4, h.d5, h.d6, fun m hm => hs.foot (h.tf m hm), h.la.step (fun P => hs.foot), h.gx, h.f0, hi⟩, hs⟩

/-- a client's last answer laid into the map -/
theorem IsMm.noted {F : Nat → Prop} {base : Nat} {w w2 : World} {a : Mm} {z : Nat} {S : Mac} {f' : Lit → Option Value} {la' : Int → Option (Int × Res)} (h : IsMm F base w a z S) (e0 : a.nl = false) (hk : Keeps (fun k => k = a.mb) w w2) (hm : MapV w2 31 a.mb (z + 1) f') (hl : LaIs (fun k => a.X k ∨ F k) w2 f' la') (hi : MacI (z + 1) { S with la := la' }) :
    MPost F base w a (z + 1) { S with la := la' } w2 := by
  have hs : MStep w w2 a { a with f := f' } := ⟨rfl, Keeps.wider hk (fun k hk => .inl (.inr (.inr (.inr hk)))), fun k hk => .inl hk⟩
  have hpb : w2.heap[a.p]? = w.heap[a.p]? := hk.block a.p h.lt (fun e => h.d3 e0 e.symm)
  refine ⟨{ a with f := f' }, ⟨(World.cell?_of_block (a := ⟨a.p, 0, none⟩) hpb).trans h.c0, (World.cell?_of_block (a := ⟨a.p, 1, none⟩) hpb).trans h.c1, (World.cell?_of_block (a := ⟨a.p, 2, none⟩) hpb).trans h.c2, (World.cell?_of_block (a := ⟨a.p, 3, none⟩) hpb).trans h.c3, (World.cell?_of_block (a := ⟨a.p, 4, none⟩) hpb).trans h.c4, fun j => (World.frozen?_of_block (a := ⟨a.p, j, none⟩) hpb).trans (h.fz j), Nat.lt_of_lt_of_le h.lt hk.size, h.pb, h.so.lies (fun g hg => hk.block g (h.so.lt g hg).2 (fun e => h.d5 e0 (by rw [← e]; exact hg))), h.tt.lies (fun g hg => hk.block g (h.tt.lt g hg).2 (fun e => h.d6 e0 (by rw [← e]; exact hg))), h.tm, fun _ => hm, fun e => (by rw [e0] at e; cases e), Nat.lt_of_lt_of_le h.ml hk.size, h.mbb, ?_, h.th, h.tw, h.d1, h.d2, h.d3, h.d4, h.d5, h.d6, fun m hm => hs.foot (h.tf m hm), hl, h.gx, h.f0, hi⟩, hs⟩
  refine h.tb.other (Keeps.wider hk (fun k hk => .inl (.inr (.inr (.inr hk))))) (fun k hk2 => ⟨.inl hk2, Nat.lt_of_lt_of_le (h.tb.gl k hk2) hk.size⟩) (fun e => ?_)
  rcases e with e | e
  · have := (h.xl 0 (.inl e)).1; have := h.tb.b0; omega
  · exact h.f0 e

/-- the map of answers made: there was none -/
theorem IsMm.mapped {F : Nat → Prop} {base : Nat} {w w2 : World} {a : Mm} {z : Nat} {S : Mac} {nb : Nat} (h : IsMm F base w a z S) (e0 : a.nl = true) (hk : Keeps (fun k => k = a.p) w w2) (hc : w2.cell? ⟨a.p, 4, none⟩ = some (.map (some nb))) (hcs : ∀ j, j ≠ 4 → w2.cell? ⟨a.p, j, none⟩ = w.cell? ⟨a.p, j, none⟩) (hfz : ∀ j, w2.frozen? ⟨a.p, j, none⟩ = false) (hn : w.heap.size ≤ nb) (hm : MapV w2 31 nb z (fun _ => none)) (hl : nb < w2.heap.size) :
    ∃ a' : Mm, a'.nl = false ∧ a'.mb = nb ∧ a'.f = (fun _ => none) ∧ IsMm F base w2 a' z S ∧ MStep w w2 a a' := by
  have hs : MStep w w2 a { a with nl := false, mb := nb, f := fun _ => none } := by
    refine ⟨rfl, Keeps.wider hk (fun k hk => .inl (.inl hk)), fun k hk => ?_⟩
    rcases hk with (hk | hk | hk | hk) | hk
    · exact .inl (.inl (.inl hk))
    · exact .inl (.inl (.inr (.inl hk)))
    · exact .inl (.inl (.inr (.inr (.inl hk))))
    · exact .inr (by rw [hk]; exact hn)
    · exact .inl (.inr hk)
  have hx := h.xl
  have hla : LaIs (fun k => ({ a with nl := false, mb := nb, f := fun _ => none } : Mm).X k ∨ F k) w2 (fun _ => none) S.la := by
    intro c hc2
    rcases h.la c hc2 with ⟨h1, h2⟩ | ⟨sq, mr, h1, -⟩
    · exact .inl ⟨rfl, h2⟩
    · rw [h.mn e0] at h1; cases h1
  refine ⟨{ a with nl := false, mb := nb, f := fun _ => none }, rfl, rfl, rfl, ⟨(hcs 0 (by decide)).trans h.c0, (hcs 1 (by decide)).trans h.c1, (hcs 2 (by decide)).trans h.c2, (hcs 3 (by decide)).trans h.c3, hc, hfz, Nat.lt_of_lt_of_le h.lt hk.size, h.pb, h.so.lies (fun g hg => hk.block g (h.so.lt g hg).2 (fun e => h.d1 (by rw [← e]; exact hg))), h.tt.lies (fun g hg => hk.block g (h.tt.lt g hg).2 (fun e => h.d2 (by rw [← e]; exact hg))), h.tm, fun _ => hm, fun e => (by cases e), hl, by have := h.bl; show base ≤ nb; omega, ?_, h.th, h.tw, h.d1, h.d2, fun _ => (by have := h.lt; show nb ≠ a.p; omega), h.d4, fun _ e => (by have := (h.so.lt nb e).2; omega), fun _ e => (by have := (h.tt.lt nb e).2; omega), fun m hm => hs.foot (h.tf m hm), hla, fun k hk => MStep.gx h hs k (.inl hk), h.f0, h.i⟩, hs⟩
  refine h.tb.other (Keeps.wider hk (fun k hk => .inl (.inl hk))) (fun k hk2 => ?_) (fun e => ?_)
  · rcases hk2 with (hk2 | hk2 | hk2 | hk2) | hk2
    · exact ⟨.inl (.inl (.inl hk2)), by rw [hk2]; exact Nat.lt_of_lt_of_le h.lt hk.size⟩
    · exact ⟨.inl (.inl (.inr (.inl hk2))), Nat.lt_of_lt_of_le (h.so.lt k hk2).2 hk.size⟩
    · exact ⟨.inl (.inl (.inr (.inr (.inl hk2)))), Nat.lt_of_lt_of_le (h.tt.lt k hk2).2 hk.size⟩
    · exact ⟨.inr (by rw [hk2]; exact hn), by rw [hk2]; exact hl⟩
    · exact ⟨.inl (.inr hk2), Nat.lt_of_lt_of_le (h.fl k hk2) hk.size⟩
  · rcases e with e | e
    · have := (h.xl 0 (.inl e)).1; have := h.tb.b0; omega
    · exact h.f0 e

/-- behind somebody else's call, which writes F and new blocks -/
theorem IsMm.other {F F' : Nat → Prop} {base : Nat} {w w' : World} {a : Mm} {z : Nat} {S : Mac} (h : IsMm F base w a z S) (hk : Keeps F w w') (hF : ∀ k, F' k → (F k ∨ w.heap.size ≤ k) ∧ k < w'.heap.size) (hf0 : ¬ F' 0) : IsMm F' base w' a z S := by
  have hx := h.xl
  have hblk : ∀ k, a.X k → w'.heap[k]? = w.heap[k]? := fun k hk2 => hk.block k (hx k hk2).2 (h.fx k hk2)
  have hp := hblk a.p (.inl (.inl rfl))
  have hft : ∀ P, Foot (fun k => a.X k ∨ F k) w P → Foot (fun k => a.X k ∨ F' k) w' P := fun P hP => hP.step (Keeps.wider hk (fun k hk => .inr hk)) (fun k hk2 => by
    rcases hk2 with hk2 | hk2
    · exact .inl (.inl hk2)
    · rcases (hF k hk2).1 with h1 | h1
      · exact .inl (.inr h1)
      · exact .inr h1)
  have hg : ∀ k, a.X k → ¬ F' k := fun k hk2 hf => by
    rcases (hF k hf).1 with h1 | h1
    · exact h.fx k hk2 h1
    · have := (hx k hk2).2; omega
  refine ⟨(World.cell?_of_block (a := ⟨a.p, 0, none⟩) hp).trans h.c0, (World.cell?_of_block (a := ⟨a.p, 1, none⟩) hp).trans h.c1, (World.cell?_of_block (a := ⟨a.p, 2, none⟩) hp).trans h.c2, (World.cell?_of_block (a := ⟨a.p, 3, none⟩) hp).trans h.c3, (World.cell?_of_block (a := ⟨a.p, 4, none⟩) hp).trans h.c4, fun j => (World.frozen?_of_block (a := ⟨a.p, j, none⟩) hp).trans (h.fz j), Nat.lt_of_lt_of_le h.lt hk.size, h.pb, h.so.lies (fun g hg => hblk g (.inl (.inr (.inl hg)))), h.tt.lies (fun g hg => hblk g (.inl (.inr (.inr (.inl hg))))), h.tm, fun e0 => (h.mp e0).same (hblk a.mb (.inl (.inr (.inr (.inr rfl))))), h.mn, Nat.lt_of_lt_of_le h.ml hk.size, h.mbb, ?_, h.th, h.tw, h.d1, h.d2, h.d3, h.d4, h.d5, h.d6, fun m hm => hft _ (h.tf m hm), h.la.step hft, fun k hk2 => hg k (.inl hk2), hf0, h.i⟩
  refine h.tb.other (Keeps.wider hk (fun k hk => .inr hk)) (fun k hk2 => ?_) (fun e => ?_)
  · rcases hk2 with hk2 | hk2
    · exact ⟨.inl (.inl hk2), Nat.lt_of_lt_of_le (hx k (.inl hk2)).2 hk.size⟩
    · refine ⟨?_, (hF k hk2).2⟩
      rcases (hF k hk2).1 with h1 | h1
      · exact .inl (.inr h1)
      · exact .inr h1
  · rcases e with e | e
    · have := (h.xl 0 (.inl e)).1; have := h.tb.b0; omega
    · exact h.f0 e

/-- a box that a call makes for itself is somebody else's -/
theorem IsMm.box {F : Nat → Prop} {base : Nat} {w w' : World} {a : Mm} {z : Nat} {S : Mac} (h : IsMm F base w a z S) (hb : Below w.heap.size w w') (hs : w.heap.size < w'.heap.size) : IsMm (fun k => F k ∨ k = w.heap.size) base w' a z S :=
  h.other (Below.keeps hb F) (fun k hk => by
    rcases hk with hk | hk
    · exact ⟨.inl hk, Nat.lt_of_lt_of_le (h.fl k hk) hb.size⟩
    · subst hk; exact ⟨.inr (Nat.le_refl _), hs⟩) (fun e => by
    rcases e with e | e
    · exact h.f0 e
    · have := h.lt; omega)

/-- a result that lies in its box is what a call answers -/
def ResAt (V : World) (b : Nat) (m : MRes) : World := V.setCells b 0 [.int .i64 m.er, .int .u64 m.tx, .int .u64 m.ts, .bool m.fl, .slice m.sa m.sn m.sc, .slice none 0 0, .slice m.ta m.tn m.tc]

/-- a call's end: its result laid into its box -/
theorem rs_close {F : Nat → Prop} {base : Nat} {w W1 V : World} {a a' : Mm} {z : Nat} {x : Res × Mac} {mr : MRes} (hb : Below w.heap.size w W1) (hs : w.heap.size < W1.heap.size) (h : IsMm (fun k => F k ∨ k = w.heap.size) base V a' z x.2) (st : MStep W1 V a a') (hX : ∀ k, a.X k → k < w.heap.size) (hFl : ∀ k, F k → k < w.heap.size) (hr : mr.r = x.1) (hf : Foot (fun k => a'.X k ∨ (F k ∨ k = w.heap.size)) V (fun U => mr.ok U)) :
    RsPost F base w a z x (.returned (MRes.v mr)) (ResAt V w.heap.size mr) := by
  have hk : Keeps (fun k => k = w.heap.size) V (ResAt V w.heap.size mr) := keepsYs _ _ _ _
  refine ⟨a', mr, rfl, hr, ?_, ?_, ⟨st.p, ?_, fun k hk2 => ?_⟩⟩
  · exact hf.step (Keeps.wider hk (fun k hk => .inr (.inr hk))) (fun k hk2 => by
      rcases hk2 with hk2 | hk2
      · exact .inl (.inl hk2)
      · exact .inl (.inr (.inl hk2)))
  · exact h.other (Keeps.wider hk (fun k hk => .inr hk)) (fun k hk2 => ⟨.inl (.inl hk2), Nat.lt_of_lt_of_le (h.fl k (.inl hk2)) hk.size⟩) (fun e => h.f0 (.inl e))
  · exact kpThen (kpThen (Below.keeps hb _) (fun k hk => .inl hk) st.kp) (fun k (e : k = w.heap.size) => .inr (by omega)) hk
  · rcases st.st k hk2 with h1 | h1
    · exact .inl h1
    · exact .inr (Nat.le_trans hb.size h1)

end Go.Proofs.YtcgiicmmfleinaaGreatDoor

namespace Go.Proofs.YtcgiicmmfleinaaGreatDoor
open Go.RowKit NumMath Go.ChangeShapes Go.WideShapes Go.Deep
set_option linter.unusedVariables false
set_option maxRecDepth 100000

/-- a number's three cells in a list -/
theorem at3_list {w : World} {g off k : Nat} {hs : List Sta} {m : Sta} (hC : CellsY laySt w g off hs) (hm : hs[k]? = some m) : w.cell? ⟨g, off + k * 3, none⟩ = some (.int .u64 m.tx) ∧ w.cell? ⟨g, off + k * 3 + 1, none⟩ = some (.int .i64 m.st) ∧ w.cell? ⟨g, off + k * 3 + 2, none⟩ = some (.int .u64 m.ts) :=
  ⟨hC k m hm 0 _ rfl, hC k m hm 1 _ rfl, hC k m hm 2 _ rfl⟩

variable {F : Nat → Prop} {base : Nat} {a : Mm} {z : Nat} {S : Mac}

theorem madeM_any {w : World} (h : IsMm F base w a z S) : Calls Tryz.prog 26 #[.pointer (some ⟨a.p, 0, none⟩)] w fun e w' => e = .returned (.bool true) ∧ w' = w := by
  have c2 := h.c2
  clear h
  go_enter Tryz.func26, Tryz.ntmps26
  go_wp2
  go_ret
  exact ⟨rfl, rfl⟩

/-- the list of numbers, as a slice -/
theorem IsMm.slS {w : World} (h : IsMm F base w a z S) : ∃ sa sn sc, a.sv = .slice sa sn sc ∧ S.ss.length = sn ∧ w.cell? ⟨a.p, 1, none⟩ = some (.slice sa sn sc) ∧ (sn : Int) ≤ 9223372036854775807 ∧ IsY laySt w sa sn sc S.ss := by
  obtain ⟨sa, sn, sc, e⟩ := h.so.any3
  have ho := h.so
  rw [e] at ho
  have hl := ho.len
  refine ⟨sa, sn, sc, e, hl.1, by rw [← e]; exact h.c1, ?_, ho.is⟩
  have := hl.2.1; have := hl.2.2; unfold maxLen at this; omega

theorem phas_any {w : World} (h : IsMm F base w a z S) (n : Int) (hn : U64 n) : Calls Tryz.prog 113 #[.pointer (some ⟨a.p, 0, none⟩), .int .u64 n] w fun e w' => e = .returned (.bool (hasM S.ss n)) ∧ w' = w := by
  obtain ⟨sa, sn, sc, -, hl, c1, hm, -⟩ := h.slS
  obtain ⟨zz, hz⟩ : ∃ zz, hasM S.ss n = zz := ⟨_, rfl⟩
  rw [hz]
  unfold hasM at hz
  rw [hl] at hz
  have HZ := hide hz
  have hw := u64wrap hm
  clear h hl hz
  by_cases h0 : n = 0
  · subst h0
    go_enter Tryz.func113, Tryz.ntmps113
    go_wp2
    go_ret
    exact ⟨by rw [← HZ.out]; rfl, rfl⟩
  · have h0' : (n != 0) = true := by simpa using h0
    by_cases h1 : n ≤ (sn : Int)
    · have h1' : decide (n ≤ (sn : Int)) = true := decide_eq_true h1
      go_enter Tryz.func113, Tryz.ntmps113
      go_wp2
      go_ret
      exact ⟨by rw [← HZ.out, h0', h1']; rfl, rfl⟩
    · have h1' : decide (n ≤ (sn : Int)) = false := decide_eq_false h1
      go_enter Tryz.func113, Tryz.ntmps113
      go_wp2
      go_ret
      exact ⟨by rw [← HZ.out, h0', h1']; rfl, rfl⟩

theorem pstate_any {w : World} (h : IsMm F base w a z S) (n : Int) (hn : U64 n) : Calls Tryz.prog 116 #[.pointer (some ⟨a.p, 0, none⟩), .int .u64 n] w fun e w' => e = .returned (.agg #[.int .u64 (staM S.ss n).tx, .int .i64 (staM S.ss n).st, .int .u64 (staM S.ss n).ts]) ∧ Below w.heap.size w w' := by
  have hb := new_below w (.cells #[.int .u64 0, .int .i64 0, .int .u64 0] 80)
  have HH := hide (phas_any (h.keep hb) n hn)
  have HB := hide hb
  have hpl := h.lt
  have hp : ¬ w.heap.size = a.p := by omega
  have hp2 : ¬ a.p = w.heap.size := by omega
  by_cases hz : hasM S.ss n = true
  · rw [hz] at HH
    obtain ⟨m, rfl, hm, s, hs, e⟩ := has_at hn.1 hz
    rw [e]
    obtain ⟨sa, sn, sc, -, hl, -, hm2, -⟩ := h.slS
    obtain ⟨sa', sn', sc', e1, hl', c1, -, hY⟩ := (h.keep hb).slS
    obtain ⟨g, off, rfl, hg, hC⟩ := hY.at (j := m) (by omega)
    obtain ⟨d0, d1, d2⟩ := at3_list hC hs
    have hlt : (m : Int) < (sn' : Int) := by omega
    have hu : U64 ((m : Int) + 1) := hn
    have hgn : ¬ w.heap.size = g := by
      intro e2
      have := ((h.keep hb).so.lt g (by rw [e1]; rfl)).2
      have h3 := (h.so.lt g (by rw [e1]; rfl)).2
      omega
    have hgn2 : ¬ g = w.heap.size := fun e => hgn e.symm
    clear h hb hz hs e hY hC hl hl' hn hm2 e1
    go_enter Tryz.func116, Tryz.ntmps116
    go_wp2_with (first | (go_at_call 113; go_must (refine HH.out.mono ?_); rintro e w' ⟨rfl, hw⟩; have hw := hw.symm; subst hw))
    refine bodyPost_ret (v := .agg #[.int .u64 s.tx, .int .i64 s.st, .int .u64 s.ts]) (by simp [results, Tryz.results116, go_sem]) rfl ⟨rfl, new_below w _⟩
  · have hz' : hasM S.ss n = false := by simpa using hz
    rw [hz'] at HH
    rw [has_no hz']
    clear h hb hz hz' hn
    go_enter Tryz.func116, Tryz.ntmps116
    go_wp2_with (first | (go_at_call 113; go_must (refine HH.out.mono ?_); rintro e w' ⟨rfl, hw⟩; have hw := hw.symm; subst hw))
    refine bodyPost_ret (v := .agg #[.int .u64 n, .int .i64 0, .int .u64 0]) (by simp [results, Tryz.results116, go_sem]) rfl ⟨rfl, new_below w _⟩

theorem field1St (t u v : Int) (W : World) : (Instr.field 80 (.agg #[.int .u64 t, .int .i64 u, .int .u64 v]) 1).run Tryz.prog W = .ok (.int .i64 u) W := by rfl

theorem popen_any {w : World} (h : IsMm F base w a z S) (n : Int) (hn : U64 n) : Calls Tryz.prog 114 #[.pointer (some ⟨a.p, 0, none⟩), .int .u64 n] w fun e w' => e = .returned (.bool (openM S.ss n)) ∧ Below w.heap.size w w' := by
  have HH := hide (phas_any h n hn)
  have HS := hide (pstate_any h n hn)
  obtain ⟨zz, hz⟩ : ∃ zz, openM S.ss n = zz := ⟨_, rfl⟩
  rw [hz]
  unfold openM at hz
  have HZ := hide hz
  obtain ⟨s, hs⟩ : ∃ s, staM S.ss n = s := ⟨_, rfl⟩
  rw [hs] at HS HZ
  have hfl := fun W => field1St s.tx s.st s.ts W
  clear h hn hz hs
  by_cases h0 : hasM S.ss n = true
  · rw [h0] at HH HZ
    clear h0
    by_cases h1 : s.st = 0
    · have h1' : (s.st == 0) = true := by simp [h1]
      rw [h1'] at HZ
      clear h1
      go_enter Tryz.func114, Tryz.ntmps114
      go_wp2_with (first
        | (go_at_call 113; go_must (refine HH.out.mono ?_); rintro e w' ⟨rfl, hw⟩; have hw := hw.symm; subst hw)
        | (go_at_call 116; go_must (refine HS.out.mono ?_); rintro e w' ⟨rfl, hb⟩; have HB := hide hb; clear hb))
      go_ret
      exact ⟨by rw [← HZ.out]; rfl, HB.out⟩
    · have h1' : (s.st == 0) = false := by simp [h1]
      rw [h1'] at HZ
      clear h1
      go_enter Tryz.func114, Tryz.ntmps114
      go_wp2_with (first
        | (go_at_call 113; go_must (refine HH.out.mono ?_); rintro e w' ⟨rfl, hw⟩; have hw := hw.symm; subst hw)
        | (go_at_call 116; go_must (refine HS.out.mono ?_); rintro e w' ⟨rfl, hb⟩; have HB := hide hb; clear hb))
      go_ret
      exact ⟨by rw [← HZ.out]; rfl, HB.out⟩
  · have h0' : hasM S.ss n = false := by simpa using h0
    rw [h0'] at HH HZ
    clear h0 h0'
    go_enter Tryz.func114, Tryz.ntmps114
    go_wp2_with (first
      | (go_at_call 113; go_must (refine HH.out.mono ?_); rintro e w' ⟨rfl, hw⟩; have hw := hw.symm; subst hw))
    go_ret
    exact ⟨by rw [← HZ.out]; rfl, Below.refl _ _⟩

end Go.Proofs.YtcgiicmmfleinaaGreatDoor

namespace Go.Proofs.YtcgiicmmfleinaaGreatDoor
open Go.RowKit NumMath Go.ChangeShapes Go.WideShapes Go.Deep
set_option linter.unusedVariables false
set_option maxRecDepth 100000

theorem foot_isY {α : Type} {L : Lay α} {X : Nat → Prop} {w : World} {a : Option Addr} {n c : Nat} {xs : List α} (h : IsY L w a n c xs) (ho : Out X a n) : Foot X w (fun w => IsY L w a n c xs) := by
  obtain ⟨h1, h2, h3, h5⟩ := h
  rcases h5 with h5 | ⟨g, off, rfl, hg, hB⟩
  · exact foot_pure (fun w' => ⟨h1, h2, h3, .inl h5⟩)
  · rcases ho with ho | ho
    · exact foot_pure (fun w' => ⟨h1, h2, h3, .inl ho⟩)
    · exact ⟨fun k => k = g, fun k hk => by subst hk; exact ⟨hg, ho _ rfl⟩, fun w' hs hb => ⟨h1, h2, h3, .inr ⟨g, off, rfl, Nat.lt_of_lt_of_le hg hs, hB.same (hb g rfl)⟩⟩⟩

theorem foot_ownY {α : Type} {L : Lay α} {X : Nat → Prop} {w : World} {base : Nat} {a : Option Addr} {n c : Nat} {xs : List α} (h : OwnY L w base (.slice a n c) xs) (ho : ∀ k, X k → k < base) : Foot X w (fun w => IsY L w a n c xs) := by
  refine foot_isY h.is ?_
  rcases h.form with ⟨e, _⟩ | ⟨g, cap, e, hg, _⟩
  · cases e; exact .inl rfl
  · cases e; exact .inr (fun y hy hx => by cases hy; have := ho _ hx; simp at this; omega)

/-- seven cells of a block -/
structure Box7 (V : World) (b : Nat) (m : MRes) : Prop where
  c0 : V.cell? ⟨b, 0, none⟩ = some (.int .i64 m.er)
  c1 : V.cell? ⟨b, 1, none⟩ = some (.int .u64 m.tx)
  c2 : V.cell? ⟨b, 2, none⟩ = some (.int .u64 m.ts)
  c3 : V.cell? ⟨b, 3, none⟩ = some (.bool m.fl)
  c4 : V.cell? ⟨b, 4, none⟩ = some (.slice m.sa m.sn m.sc)
  c5 : V.cell? ⟨b, 5, none⟩ = some (.slice none 0 0)
  c6 : V.cell? ⟨b, 6, none⟩ = some (.slice m.ta m.tn m.tc)

/-- a result's box, zero yet, that may be written -/
structure Zero7 (V : World) (b : Nat) : Prop where
  c0 : V.cell? ⟨b, 0, none⟩ = some (.int .i64 0)
  c1 : V.cell? ⟨b, 1, none⟩ = some (.int .u64 0)
  c2 : V.cell? ⟨b, 2, none⟩ = some (.int .u64 0)
  c3 : V.cell? ⟨b, 3, none⟩ = some (.bool false)
  c4 : V.cell? ⟨b, 4, none⟩ = some (.slice none 0 0)
  c5 : V.cell? ⟨b, 5, none⟩ = some (.slice none 0 0)
  c6 : V.cell? ⟨b, 6, none⟩ = some (.slice none 0 0)
  fz : ∀ j, V.frozen? ⟨b, j, none⟩ = false

theorem Zero7.same {V W : World} {b : Nat} (h : Zero7 V b) (e : W.heap[b]? = V.heap[b]?) : Zero7 W b :=
  ⟨(World.cell?_of_block (a := ⟨b, 0, none⟩) e).trans h.c0, (World.cell?_of_block (a := ⟨b, 1, none⟩) e).trans h.c1, (World.cell?_of_block (a := ⟨b, 2, none⟩) e).trans h.c2, (World.cell?_of_block (a := ⟨b, 3, none⟩) e).trans h.c3, (World.cell?_of_block (a := ⟨b, 4, none⟩) e).trans h.c4, (World.cell?_of_block (a := ⟨b, 5, none⟩) e).trans h.c5, (World.cell?_of_block (a := ⟨b, 6, none⟩) e).trans h.c6, fun j => (World.frozen?_of_block (a := ⟨b, j, none⟩) e).trans (h.fz j)⟩

theorem zero7_new (w : World) (ty : TypeId) : Zero7 (w.alloc (.cells #[.int .i64 0, .int .u64 0, .int .u64 0, .bool false, .slice none 0 0, .slice none 0 0, .slice none 0 0] ty)) w.heap.size := by
  have hr := rangeY_new w w.heap.size #[.int .i64 0, .int .u64 0, .int .u64 0, .bool false, .slice none 0 0, .slice none 0 0, .slice none 0 0] ty rfl
  have q : ∀ (j : Nat) (v : Value), #[Value.int .i64 0, .int .u64 0, .int .u64 0, .bool false, .slice none 0 0, .slice none 0 0, .slice none 0 0].toList[j]? = some v → (w.alloc (.cells #[.int .i64 0, .int .u64 0, .int .u64 0, .bool false, .slice none 0 0, .slice none 0 0, .slice none 0 0] ty)).cell? ⟨w.heap.size, j, none⟩ = some v := fun j v hv => by
    have := hr j v hv
    rwa [Nat.zero_add] at this
  exact ⟨q 0 _ rfl, q 1 _ rfl, q 2 _ rfl, q 3 _ rfl, q 4 _ rfl, q 5 _ rfl, q 6 _ rfl, fun j => fzY_new _ _ _ _⟩

theorem resAt_box {V : World} {b : Nat} (h : Zero7 V b) (m : MRes) : Box7 (ResAt V b m) b m := by
  have hr : (ResAt V b m).rangeAt b 0 [.int .i64 m.er, .int .u64 m.tx, .int .u64 m.ts, .bool m.fl, .slice m.sa m.sn m.sc, .slice none 0 0, .slice m.ta m.tn m.tc] := by
    refine World.rangeAt_setCells_same V b 0 _ (fun j hj => ⟨?_, h.fz _⟩)
    rw [Nat.zero_add]
    match j, hj with
    | 0, _ => rw [h.c0]; rfl
    | 1, _ => rw [h.c1]; rfl
    | 2, _ => rw [h.c2]; rfl
    | 3, _ => rw [h.c3]; rfl
    | 4, _ => rw [h.c4]; rfl
    | 5, _ => rw [h.c5]; rfl
    | 6, _ => rw [h.c6]; rfl
    | j + 7, hj => exact absurd hj (by simp)
  have q : ∀ (j : Nat) (v : Value), [Value.int .i64 m.er, .int .u64 m.tx, .int .u64 m.ts, .bool m.fl, .slice m.sa m.sn m.sc, .slice none 0 0, .slice m.ta m.tn m.tc][j]? = some v → (ResAt V b m).cell? ⟨b, j, none⟩ = some v := fun j v hv => by
    have := hr j v hv
    rwa [Nat.zero_add] at this
  exact ⟨q 0 _ rfl, q 1 _ rfl, q 2 _ rfl, q 3 _ rfl, q 4 _ rfl, q 5 _ rfl, q 6 _ rfl⟩

theorem Zero7.set {V : World} {b p i : Nat} {v : Value} (h : Zero7 V b) (hp : ¬ p = b) : Zero7 (V.setCell ⟨p, i, none⟩ v) b := by
  have q : ∀ j, (V.setCell ⟨p, i, none⟩ v).cell? ⟨b, j, none⟩ = V.cell? ⟨b, j, none⟩ := fun j => World.cell?_setCell_other _ _ _ _ (fun e => hp (congrArg Addr.block e))
  exact ⟨(q 0).trans h.c0, (q 1).trans h.c1, (q 2).trans h.c2, (q 3).trans h.c3, (q 4).trans h.c4, (q 5).trans h.c5, (q 6).trans h.c6, fun j => by rw [World.frozen?_setCell]; exact h.fz j⟩

variable {F : Nat → Prop} {base : Nat} {a : Mm} {z : Nat} {S : Mac}

/-- what is settled of a number that lies at place k of the machine's list -/
theorem psettle_any {w : World} (h : IsMm F base w a z S) (k : Nat) (g n cap : Nat) (hv : a.sv = .slice (some ⟨g, 0, none⟩) n cap) (hk : k < S.ss.length) (hz : z ≤ 1000) (fl : Bool) :
    Calls Tryz.prog 115 #[.pointer (some ⟨a.p, 0, none⟩), .pointer (some ⟨g, k * 3, none⟩), .bool fl] w fun e w' => e = .returned (.tuple #[]) ∧ MPost F base w a (z + 1) (settleM S ((k : Int) + 1) fl) w' := by
  obtain ⟨s, hs⟩ : ∃ s, S.ss[k]? = some s := ⟨_, List.getElem?_eq_getElem hk⟩
  have hh : hasM S.ss ((k : Int) + 1) = true := by unfold hasM; simp; omega
  obtain ⟨m, em, hm, s', hs', est⟩ := has_at (by omega) hh
  have ekm : k = m := by omega
  subst ekm
  have es : s' = s := by rw [hs] at hs'; cases hs'; rfl
  subst es
  have hO := h.so
  rw [hv] at hO
  have hC : CellsY laySt w g 0 S.ss := by
    rcases hO.form with ⟨e, _⟩ | ⟨g', cap', e, -, -, -, -, hC, -⟩
    · cases e
    · cases e; exact hC
  have hfz : ∀ i, w.frozen? ⟨g, i, none⟩ = false := by
    rcases hO.form with ⟨e, _⟩ | ⟨g', cap', e, -, -, -, -, -, hz⟩
    · cases e
    · cases e; exact hz
  obtain ⟨-, d1, d2⟩ := at3_list hC hs
  simp only [Nat.zero_add] at d1 d2
  have hgp : ¬ g = a.p := fun e => h.d1 (by rw [hv, ← e]; rfl)
  have hpg : ¬ a.p = g := fun e => hgp e.symm
  have f1 := hfz (k * 3 + 1)
  have f2 := hfz (k * 3 + 2)
  have fp := h.fz 0
  have c0 := h.c0
  have q1 := h.i.ck.1
  have q2 : S.ck ≤ 1000 := by have := h.i.ck.2; omega
  have H := hide h
  have HO := hide hO
  have HI := hide (h.i.settle (n := (k : Int) + 1) (by omega) hh fl)
  have HS := hide hs
  have HE := hide est
  have ekk : ((k : Int) + 1).toNat - 1 = k := by omega
  have HG : Hid (∀ j, a.sv.ownBlock = some j ↔ j = g) := fun j => by
    rw [hv]
    show some g = some j ↔ _
    constructor
    · intro e; exact (Option.some.inj e).symm
    · intro e; rw [e]
  have HP : Hid (a.sv = .slice (some ⟨g, 0, none⟩) n cap) := hv
  clear h hk hs hh em hm hs' est hO hC hfz hv
  cases fl
  · go_enter Tryz.func115, Tryz.ntmps115
    go_wp2
    refine bodyPost_ret (results_none rfl _ _ _) rfl ⟨rfl, ?_⟩
    have ho := HO.out.cell k 1 s' ⟨s'.tx, 2, s'.ts⟩ (.int .i64 2) HS.out (by decide) rfl (k * 3 + 1) rfl
    have hI := HI.out
    unfold settleM at hI ⊢
    rw [if_neg (by simp), ekk, HE.out] at hI ⊢
    have := H.out.settle (w2 := w.setCell ⟨g, k * 3 + 1, none⟩ (.int .i64 2)) (ck := S.ck) (Keeps.wider (keepsY_cell _) (fun j hj => .inl ((HG.out j).2 hj))) ?_ (fun j _ => ?_) (fun j => ?_) (HP.out ▸ ho) (Nat.le_succ _) hI
    · exact this
    · exact (World.cell?_setCell_other _ _ _ _ (fun e => hgp (congrArg Addr.block e))).trans H.out.c0
    · exact World.cell?_setCell_other _ _ _ _ (fun e => hgp (congrArg Addr.block e))
    · rw [World.frozen?_setCell]; exact H.out.fz j
  · go_enter Tryz.func115, Tryz.ntmps115
    go_wp2
    go_end0
    refine ⟨rfl, ?_⟩
    have ho0 : OwnY laySt (w.setCell ⟨a.p, 0, none⟩ (.int .u64 (S.ck + 1))) base (.slice (some ⟨g, 0, none⟩) n cap) S.ss := HO.out.lies (fun j hj => (keepsY_cell (w := w) (g := a.p) (i := 0) (.int .u64 (S.ck + 1))).block j (HO.out.lt j hj).2 (fun e => hgp (by cases hj; exact e)))
    have ho1 := ho0.cell k 1 s' ⟨s'.tx, 1, s'.ts⟩ (.int .i64 1) HS.out (by decide) rfl (k * 3 + 1) rfl
    have ho := ho1.cell k 2 ⟨s'.tx, 1, s'.ts⟩ ⟨s'.tx, 1, S.ck + 1⟩ (.int .u64 (S.ck + 1)) (List.getElem?_set_self (List.getElem?_eq_some_iff.1 HS.out).1) (by decide) rfl (k * 3 + 2) rfl
    rw [List.set_set] at ho
    have hI := HI.out
    unfold settleM at hI ⊢
    rw [if_pos rfl, ekk, HE.out] at hI ⊢
    have hk3 : Keeps (fun j => a.sv.ownBlock = some j ∨ j = a.p) w (((w.setCell ⟨a.p, 0, none⟩ (.int .u64 (S.ck + 1))).setCell ⟨g, k * 3 + 1, none⟩ (.int .i64 1)).setCell ⟨g, k * 3 + 2, none⟩ (.int .u64 (S.ck + 1))) :=
      kpSet (kpSet (kpSet (kpSelf _ _) (.inl (.inr rfl)) _) (.inl (.inl ((HG.out g).2 rfl))) _) (.inl (.inl ((HG.out g).2 rfl))) _
    refine H.out.settle (ck := S.ck + 1) hk3 ?_ (fun j hj => ?_) (fun j => ?_) (HP.out ▸ ho) (Nat.le_succ _) hI
    · rw [World.cell?_setCell_other _ _ _ _ (fun e => hgp (congrArg Addr.block e)), World.cell?_setCell_other _ _ _ _ (fun e => hgp (congrArg Addr.block e))]
      exact World.cell?_setCell_same' _ _ _ (by rw [H.out.c0]; rfl)
    · rw [World.cell?_setCell_other _ _ _ _ (fun e => hgp (congrArg Addr.block e)), World.cell?_setCell_other _ _ _ _ (fun e => hgp (congrArg Addr.block e))]
      exact cell_offY (fun e => hj e.symm)
    · rw [World.frozen?_setCell, World.frozen?_setCell, World.frozen?_setCell]; exact H.out.fz j


/-- a number in a box, as a list -/
theorem isSt_box (w : World) (s : Sta) (ty : TypeId) : OwnY laySt (w.alloc (.cells #[.int .u64 s.tx, .int .i64 s.st, .int .u64 s.ts] 80)) w.heap.size (.slice (some ⟨w.heap.size, 0, none⟩) 1 1) [s] :=
  ownY_one (L := laySt) w w.heap.size #[.int .u64 s.tx, .int .i64 s.st, .int .u64 s.ts] s (Nat.le_refl _) rfl

set_option maxHeartbeats 1000000 in
theorem pbegin_any {w : World} (h : IsMm F base w a z S) (hz : z ≤ 1000) :
    Calls Tryz.prog 75 #[.pointer (some ⟨a.p, 0, none⟩)] w (RsPost F base w a (z + 1) (⟨0, (S.ss.length : Int) + 1, S.ck, false, [], []⟩, { S with ss := S.ss ++ [sta0 ((S.ss.length : Int) + 1)] })) := by
  obtain ⟨W1, hW1⟩ : ∃ W1, W1 = w.alloc (.cells #[.int .i64 0, .int .u64 0, .int .u64 0, .bool false, .slice none 0 0, .slice none 0 0, .slice none 0 0] 55) := ⟨_, rfl⟩
  have hb1 : Below w.heap.size w W1 := by rw [hW1]; exact new_below _ _
  have hs1 : W1.heap.size = w.heap.size + 1 := by rw [hW1]; simp
  have hZ1 : Zero7 W1 w.heap.size := by rw [hW1]; exact zero7_new w _
  have H1 := h.box hb1 (by omega)
  obtain ⟨sa, sn, sc, ev, hl, c1, hm, hY⟩ := H1.slS
  have hns := h.i.ns
  have hcp := hm
  have hw := u64wrap hm
  have hlt := h.lt
  have hn9 : (sn : Int) ≤ 1000 := by omega
  obtain ⟨W2, hW2⟩ : ∃ W2, W2 = W1.alloc (.cells #[.int .u64 ((sn : Int) + 1), .int .i64 0, .int .u64 0] 80) := ⟨_, rfl⟩
  have hb2 : Below W1.heap.size W1 W2 := by rw [hW2]; exact new_below _ _
  have H2 := H1.keep hb2
  have HO2 := hide (ev ▸ H2.so)
  have HX2 : Hid (OwnY laySt W2 W1.heap.size (.slice (some ⟨W1.heap.size, 0, none⟩) 1 1) [sta0 ((sn : Int) + 1)]) := by show OwnY _ _ _ _ _; rw [hW2]; exact isSt_box W1 (sta0 ((sn : Int) + 1)) 0
  have HXs := hide HX2.out.is.src
  have HBig : Hid (S.ss.length + [sta0 ((sn : Int) + 1)].length ≤ 1000000000) := by show _ ≤ _; simp; omega
  have HBl : Hid (base ≤ W2.heap.size) := H2.bl
  have H2h := hide H2
  have H1h := hide H1
  have HSo : Hid (∀ j, a.sv.ownBlock = some j → j < w.heap.size) := fun j hj => (h.so.lt j hj).2
  have HBb : Hid (base ≤ w.heap.size) := h.bl
  have hnp : ¬ a.p = w.heap.size := by omega
  have hnp2 : ¬ w.heap.size = a.p := by omega
  have HZ1 := hide hZ1
  have HS1 := hide hs1
  have H0x : Hid (∀ k, a.X k → k < w.heap.size) := fun k hk => (h.xl k hk).2
  have H0f : Hid (∀ k, F k → k < w.heap.size) := h.fl
  have HIb := hide h.i.begun
  have HB1 := hide hb1
  have HB12 := hide (hb1.trans (hb2.mono hb1.size))
  have HB2 := hide hb2
  have HW1 := hide hW1
  have HW2 := hide hW2
  have Hev := hide ev
  have HL := hide hl
  clear h hb1 hs1 hZ1 H1 hY hb2 H2 hl ev
  go_enter Tryz.func75, Tryz.ntmps75
  go_upto_region 1 with fail
  rw [← hW1]
  clear hW1
  go_wp2_with (first
    | (at_builtin; (try rw [← hW2]); go_must (refine wp_joinY laySt _ rfl (.tmp 15) (.tmp 18) rfl base _ S.ss rfl HO2.out (some ⟨W1.heap.size, 0, none⟩) 1 1 [sta0 ((sn : Int) + 1)] rfl HXs.out HBig.out HBl.out ?_); intro v5 w5 hown5 hg5 hat5; obtain ⟨va, vn, vc, rfl⟩ := hown5.any3; have hp5 := hg5.block a.p H2h.out.lt (fun e => H2h.out.d1 (by rw [Hev.out]; exact e.symm)); have hr5 := hg5.block w.heap.size (by rw [HW2.out]; simp; have := HS1.out; omega) (fun e => by have := (HO2.out.lt _ e.symm).1; have := HBb.out; have := (HSo.out _ (by rw [Hev.out]; exact e.symm)); omega); have e0 := (World.cell?_of_block (a := ⟨a.p, 0, none⟩) hp5).trans H2h.out.c0; have e1 := (World.cell?_of_block (a := ⟨a.p, 1, none⟩) hp5).trans H2h.out.c1; have ef := (World.frozen?_of_block (a := ⟨a.p, 1, none⟩) hp5).trans (H2h.out.fz 1); obtain ⟨z0, z1, z2, z3, z4, z5, z6, zf⟩ := (HZ1.out.same (HB2.out.block w.heap.size (by have := HS1.out; omega))).same hr5; have g0 := zf 0; have g1 := zf 1; have g2 := zf 2; have g3 := zf 3; have g4 := zf 4; have g5 := zf 5; have g6 := zf 6; have ZF := hide zf; clear zf; have HO5 := hide hown5; have HG5 := hide hg5; have HA5 := hide hat5; clear hown5 hg5 hat5 hp5 hr5))
  have HZ5 := hide (show Zero7 w5 w.heap.size from ⟨z0, z1, z2, z3, z4, z5, z6, ZF.out⟩)
  change bodyPost _ _ _ _ _ (ResAt (w5.setCell ⟨a.p, 1, none⟩ (.slice va vn vc)) w.heap.size (mresN 0 ((sn : Int) + 1) S.ck false))
  have hI := HIb.out
  rw [HL.out] at hI ⊢
  have hk5 : Keeps (fun k => a.sv.ownBlock = some k) W1 w5 := by
    rw [Hev.out]
    exact kpThen (Below.keeps HB2.out _) (fun k hk => .inl hk) (grown_kp HG5.out)
  have hat : AtB W1 a.sv (.slice va vn vc) := by
    rw [Hev.out]
    rcases HA5.out with e | ⟨g, e, hg⟩
    · exact .inl e
    · exact .inr ⟨g, e, Nat.le_trans HB2.out.size hg⟩
  obtain ⟨a', hI', hst⟩ := (H1h.out.setSs hk5 HO5.out hat (Nat.le_succ z) hI)
  have hend := rs_close (z := z + 1) (x := (⟨0, (sn : Int) + 1, S.ck, false, [], []⟩, { S with ss := S.ss ++ [sta0 ((sn : Int) + 1)] })) (mr := mresN 0 ((sn : Int) + 1) S.ck false) HB1.out (by rw [HS1.out]; exact Nat.lt_succ_self _) hI' hst H0x.out H0f.out rfl (foot_pure (fun V => mresN_ok _ _ _ _ V))
  obtain ⟨r0, r1, r2, r3, r4, r5, r6⟩ := resAt_box (HZ5.out.set (p := a.p) (i := 1) (v := .slice va vn vc) hnp) (mresN 0 ((sn : Int) + 1) S.ck false)
  generalize ResAt (w5.setCell ⟨a.p, 1, none⟩ (.slice va vn vc)) w.heap.size (mresN 0 ((sn : Int) + 1) S.ck false) = W at *
  exact bodyPost_ret (v := (mresN 0 ((sn : Int) + 1) S.ck false).v) (by simp [results, Tryz.results75, go_sem, MRes.v, r0, r1, r2, r3, r4, r5, r6]) rfl hend

end Go.Proofs.YtcgiicmmfleinaaGreatDoor
