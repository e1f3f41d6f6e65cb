/- Keys with their versions, as plain lists and in memory (the reference's store); where a key is. The reference's store: place, cell. The reference's store: cell. The reference's store: a version is put. -/
import Derived.Test.YtfldiapdfpkdaaaFtA
import Derived.Test.YtfldiapdfpkdaaaGnA
import Derived.Test.YtfldiapdfpkdaaaByC
import Derived.Test.YtfldiapdfpkdaaaTxA
import Derived.Deep.DeepCutAuto
import Derived.Deep.CutBlock
import Derived.Deep.LoopGhost
import Derived.BigQuiet
import Derived.Deep.RegionLaw
namespace Go.Proofs.Ytfldiapdfpkdaaa
open Go.RowKit NumMath Go.ChangeShapes Go.WideShapes Go.Deep
set_option linter.unusedVariables false
set_option maxRecDepth 100000

/-- a version -/
structure Ver where
  ts : Int
  tx : Int
  dd : Bool
  val : List Int
  ks : List (List Int)

/-- a key with its versions and its intent -/
structure Cel where
  key : List Int
  vs : List Ver
  it : Ver

def ver0 : Ver := ⟨0, 0, false, [], []⟩

/-- where a key is, or would be -/
def plc (st : List Cel) (key : List Int) : Nat := (st.takeWhile (fun c => lessL c.key key)).length

def isAt (st : List Cel) (key : List Int) : Bool := match st[plc st key]? with
  | some c => decide (c.key = key)
  | none => false

theorem plc_le (st : List Cel) (key : List Int) : plc st key ≤ st.length := (List.takeWhile_sublist _).length_le

theorem plc_below : ∀ (st : List Cel) (key : List Int) (i : Nat), i < plc st key → ∃ c, st[i]? = some c ∧ lessL c.key key = true := by
  intro st
  induction st with
  | nil => intro key i h; simp [plc] at h
  | cons c r ih =>
    intro key i h
    unfold plc at h
    rw [List.takeWhile_cons] at h
    split at h
    · rename_i hc
      cases i with
      | zero => exact ⟨c, rfl, hc⟩
      | succ j => exact ih key j (by unfold plc; simpa using h)
    · simp at h

theorem plc_at : ∀ (st : List Cel) (key : List Int) (c : Cel), st[plc st key]? = some c → lessL c.key key = false := by
  intro st
  induction st with
  | nil => intro key c h; simp at h
  | cons c r ih =>
    intro key d h
    unfold plc at h
    rw [List.takeWhile_cons] at h
    split at h
    · exact ih key d (by unfold plc; simpa using h)
    · rename_i hc
      simp at h
      rw [← h]; simpa using hc

/-- a version in memory: where its lists lie -/
structure MV where
  v : Ver
  va : Option Addr
  vn : Nat
  vc : Nat
  ka : Option Addr
  kn : Nat
  kc : Nat

def mv0 : MV := ⟨ver0, none, 0, 0, none, 0, 0⟩

structure MC where
  key : List Int
  ka : Option Addr
  kn : Nat
  kc : Nat
  vs : List MV
  va : Option Addr
  vn : Nat
  vc : Nat
  it : MV

def MC.c (m : MC) : Cel := ⟨m.key, m.vs.map MV.v, m.it.v⟩

def layV : Lay MV where
  e := 36
  t := 50
  k := 5
  bys := 72
  z := .agg #[.int .u64 0, .int .u64 0, .bool false, .slice none 0 0, .slice none 0 0]
  cells := fun m => [.int .u64 m.v.ts, .int .u64 m.v.tx, .bool m.v.dd, .slice m.va m.vn m.vc, .slice m.ka m.kn m.kc]
  len := fun _ => rfl
  one := by intro x u hu; simp at hu; rcases hu with rfl | rfl | rfl | rfl | rfl <;> rfl
  pos := by decide
  few := by decide
  und := Try.underlying50
  info := by kernel_rfl
  zs := rfl

def layC : Lay MC where
  e := 52
  t := 31
  k := 7
  bys := 120
  z := .agg #[.slice none 0 0, .slice none 0 0, .int .u64 0, .int .u64 0, .bool false, .slice none 0 0, .slice none 0 0]
  cells := fun m => [.slice m.ka m.kn m.kc, .slice m.va m.vn m.vc, .int .u64 m.it.v.ts, .int .u64 m.it.v.tx, .bool m.it.v.dd, .slice m.it.va m.it.vn m.it.vc, .slice m.it.ka m.it.kn m.it.kc]
  len := fun _ => rfl
  one := by intro x u hu; simp at hu; rcases hu with rfl | rfl | rfl | rfl | rfl | rfl | rfl <;> rfl
  pos := by decide
  few := by decide
  und := Try.underlying31
  info := by kernel_rfl
  zs := rfl

/-- a version's lists lie in the world w0 -/
def MV.ok (w0 : World) (m : MV) : Prop := IsBytes w0 m.va m.vn m.vc m.v.val ∧ IsTexts w0 m.ka m.kn m.kc m.v.ks

theorem mv0_ok (w0 : World) : mv0.ok w0 := ⟨⟨rfl, Nat.le_refl _, Nat.zero_le _, by simp [mv0, ver0], .inl rfl⟩, isT_none w0 none 0 (Nat.zero_le _)⟩

/-- a key's cell: its key and its versions lie in none of the blocks X -/
structure MC.ok (w0 : World) (X : Nat → Prop) (w : World) (m : MC) : Prop where
  key : IsBytes w m.ka m.kn m.kc m.key
  ko : Out X m.ka m.kn
  vs : IsY layV w m.va m.vn m.vc m.vs
  vo : Out X m.va m.vn
  vok : ∀ v ∈ m.vs, v.ok w0
  iok : m.it.ok w0

theorem MC.ok.lies {w0 w w' : World} {X : Nat → Prop} {m : MC} (h : m.ok w0 X w) (hk : Keeps X w w') : m.ok w0 X w' :=
  ⟨h.key.lies hk h.ko, h.ko, h.vs.lies hk h.vo, h.vo, h.vok, h.iok⟩

theorem MC.ok.keep {w0 w w' : World} {X : Nat → Prop} {m : MC} (h : m.ok w0 X w) (hb : Below w.heap.size w w') : m.ok w0 X w' :=
  ⟨h.key.keep hb, h.ko, h.vs.keep hb, h.vo, h.vok, h.iok⟩

theorem MC.ok.more {w0 w : World} {X Y : Nat → Prop} {m : MC} (h : m.ok w0 X w) (hY : ∀ k, Y k → X k ∨ w.heap.size ≤ k) : m.ok w0 Y w :=
  ⟨h.key, h.ko.more (isB_blk h.key) hY, h.vs, h.vo.more (isY_blk h.vs) hY, h.vok, h.iok⟩

/-- the blocks of the store itself -/
def Sp (p : Nat) (cv : Value) (k : Nat) : Prop := k = p ∨ cv.ownBlock = some k

/-- its blocks, and somebody else's -/
def SpF (F : Nat → Prop) (p : Nat) (cv : Value) (k : Nat) : Prop := Sp p cv k ∨ F k

/-- the reference's store at p: its list is cv, with the cells ms; none of it lies in the blocks F, which are somebody else's -/
structure IsXs (F : Nat → Prop) (w0 w : World) (p : Nat) (cv : Value) (ms : List MC) : Prop where
  c : w.cell? ⟨p, 0, none⟩ = some cv
  fz : w.frozen? ⟨p, 0, none⟩ = false
  lo : w0.heap.size ≤ p
  lt : p < w.heap.size
  own : OwnY layC w w0.heap.size cv ms
  ne : cv.ownBlock ≠ some p
  b : Below w0.heap.size w0 w
  ok : ∀ m ∈ ms, m.ok w0 (SpF F p cv) w
  fl : ∀ k, F k → k < w.heap.size
  pf : ¬ F p
  cf : ∀ g, cv.ownBlock = some g → ¬ F g

theorem IsXs.keep {F : Nat → Prop} {w0 w w' : World} {p : Nat} {cv : Value} {ms : List MC} (h : IsXs F w0 w p cv ms) (hb : Below w.heap.size w w') : IsXs F w0 w' p cv ms :=
  ⟨(hb.cell (p := ⟨p, 0, none⟩) h.lt).trans h.c, (hb.frozen (p := ⟨p, 0, none⟩) h.lt).trans h.fz, h.lo, Nat.lt_of_lt_of_le h.lt hb.size, h.own.keep hb, h.ne, h.b.trans (hb.mono h.b.size), fun m hm => (h.ok m hm).keep hb, fun k hk => Nat.lt_of_lt_of_le (h.fl k hk) hb.size, h.pf, h.cf⟩

/-- behind a call that changes somebody else's blocks alone -/
theorem IsXs.next {F F' : Nat → Prop} {w0 w w' : World} {p : Nat} {cv : Value} {ms : List MC} (h : IsXs F w0 w p cv ms) (hk : Keeps F w w') (hb : Below w0.heap.size w0 w') (hF : ∀ k, F' k → F k ∨ w.heap.size ≤ k) (hl : ∀ k, F' k → k < w'.heap.size) : IsXs F' w0 w' p cv ms :=
  ⟨(World.cell?_of_block (a := ⟨p, 0, none⟩) (hk.block p h.lt h.pf)).trans h.c, (World.frozen?_of_block (a := ⟨p, 0, none⟩) (hk.block p h.lt h.pf)).trans h.fz, h.lo, Nat.lt_of_lt_of_le h.lt hk.size, h.own.lies (fun g hg => hk.block g (h.own.lt g hg).2 (h.cf g hg)), h.ne, hb,
    fun m hm =>
      have h0 := h.ok m hm
      have h1 : m.ok w0 (SpF F' p cv) w := h0.more (fun k hk => by rcases hk with h1 | h1; (exact .inl (.inl h1)); (rcases hF k h1 with h2 | h2; (exact .inl (.inr h2)); (exact .inr h2)))
      ⟨h0.key.lies hk (h0.ko.more (isB_blk h0.key) (fun k hk => .inl (.inr hk))), h1.ko, h0.vs.lies hk (h0.vo.more (isY_blk h0.vs) (fun k hk => .inl (.inr hk))), h1.vo, h1.vok, h1.iok⟩,
    hl, fun e => by rcases hF p e with h1 | h1; (exact h.pf h1); (have := h.lt; omega), fun g hg e => by rcases hF g e with h1 | h1; (exact h.cf g hg h1); (have := (h.own.lt g hg).2; omega)⟩

/-- the cells of place i -/
theorem IsXs.at {F : Nat → Prop} {w0 w : World} {p : Nat} {cv : Value} {ms : List MC} (h : IsXs F w0 w p cv ms) {i : Nat} {m : MC} (hi : ms[i]? = some m) : ∃ g cap, cv = .slice (some ⟨g, 0, none⟩) ms.length cap ∧ g < w.heap.size ∧ ms.length ≤ cap ∧ cap ≤ maxLen ∧ w.rangeAt g (i * 7) (layC.cells m) ∧ ∀ j, w.frozen? ⟨g, j, none⟩ = false := by
  rcases h.own.form with ⟨_, e⟩ | ⟨g, cap, e, _, h2, h3, h4, h5, h6⟩
  · rw [e] at hi; simp at hi
  · have := h5 i m hi
    rw [Nat.zero_add] at this
    exact ⟨g, cap, e, h2, h3, h4, this, h6⟩

end Go.Proofs.Ytfldiapdfpkdaaa

namespace Go.Proofs.Ytfldiapdfpkdaaa
open Go.RowKit NumMath Go.ChangeShapes Go.WideShapes Go.Deep
set_option linter.unusedVariables false
set_option maxRecDepth 100000

set_option maxHeartbeats 4000000 in
theorem place_any (F : Nat → Prop) (w0 w : World) (p : Nat) (cv : Value) (ms : List MC) (h : IsXs F w0 w p cv ms) (a : Option Addr) (n c : Nat) (key : List Int) (hk : IsBytes w a n c key) :
    Calls Try.prog 42 #[.pointer (some ⟨p, 0, none⟩), .slice a n c] w fun e w' => e = .returned (.tuple #[.int .i64 (plc (ms.map MC.c) key), .bool (isAt (ms.map MC.c) key)]) ∧ Below w.heap.size w w' := by
  have H := hide h
  have HK := hide hk
  have hpl := plc_le (ms.map MC.c) key
  rw [List.length_map] at hpl
  have HBl := hide (plc_below (ms.map MC.c) key)
  have HAt := hide (plc_at (ms.map MC.c) key)
  have HI : Hid (isAt (ms.map MC.c) key = match (ms.map MC.c)[plc (ms.map MC.c) key]? with | some c => decide (c.key = key) | none => false) := by show _ = _; rfl
  generalize plc (ms.map MC.c) key = P at *
  generalize isAt (ms.map MC.c) key = B at *
  obtain ⟨ca, cn, cc, rfl⟩ := h.own.any3
  have hcn := h.own.len
  have hcc : (cc : Int) ≤ 9223372036854775807 := by have := hcn.2.2; unfold maxLen at this; omega
  have hlt := h.lt
  clear h hk
  go_enter Try.func42, Try.ntmps42
  go_wp2
  go_loopg [6] P (fun gk i wr => ∃ k : Nat, gk = P - k ∧ i = .int .i64 k ∧ k ≤ P ∧ Below w.heap.size w wr)
  case atStart => exact ⟨0, rfl, rfl, Nat.zero_le _, Below.refl _ _⟩
  case round =>
    obtain ⟨k, rfl, rfl, hkP, hB⟩ := hrel
    have HB := hide hB
    have c0 := (H.out.keep hB).c
    have q2 := fun nd => ((HK.out.keep hB).keep (below_drewN (Below.refl _ wr) nd)).conv
    clear hB
    by_cases hlt : k < P
    · obtain ⟨d, hd, hle⟩ := HBl.out k hlt
      rw [List.getElem?_map] at hd
      obtain ⟨m, hm, rfl⟩ : ∃ m, ms[k]? = some m ∧ m.c = d := by
        cases e : ms[k]? with
        | none => rw [e] at hd; cases hd
        | some m => rw [e] at hd; cases hd; exact ⟨m, rfl, rfl⟩
      obtain ⟨g, cap, e, hg, _, _, hr, _⟩ := (H.out.keep HB.out).at hm
      cases e
      have d0 : wr.cell? ⟨g, k * 7, none⟩ = some (.slice m.ka m.kn m.kc) := hr 0 _ rfl
      have hmo := ((H.out.keep HB.out).ok m (List.mem_of_getElem? hm)).key
      have q1 := fun nd => (hmo.keep (below_drewN (Below.refl _ wr) nd)).conv
      have l1 := bytesLess_strB m.key key hmo.2.2.2.1 HK.out.2.2.2.1
      have hle' : lessL m.key key = true := hle
      rw [hle'] at l1
      have hk' : (k : Int) < (ms.length : Int) := by omega
      have hd1 : decide ((k : Int) < (ms.length : Int)) = true := by simp; omega
      clear hr hd hle hle' hmo
      go_wp2
      go_quiet (fail)
      go_wp2
      go_roundg (P - (k + 1))
      case measure => omega
      case rel => exact ⟨k + 1, rfl, by go_num, by omega, below_drewN HB.out _⟩
    · obtain rfl : k = P := by omega
      by_cases hin : k < ms.length
      · obtain ⟨m, hm⟩ : ∃ m, ms[k]? = some m := ⟨_, List.getElem?_eq_getElem hin⟩
        have hmc : (ms.map MC.c)[k]? = some m.c := by rw [List.getElem?_map, hm]; rfl
        obtain ⟨g, cap, e, hg, _, _, hr, _⟩ := (H.out.keep HB.out).at hm
        cases e
        have d0 : wr.cell? ⟨g, k * 7, none⟩ = some (.slice m.ka m.kn m.kc) := hr 0 _ rfl
        have hmo := ((H.out.keep HB.out).ok m (List.mem_of_getElem? hm)).key
        have q1 := fun nd => (hmo.keep (below_drewN (Below.refl _ wr) nd)).conv
        have l1 := bytesLess_strB m.key key hmo.2.2.2.1 HK.out.2.2.2.1
        have l2 := strB_eq m.key key hmo.2.2.2.1 HK.out.2.2.2.1
        have hle' : lessL m.key key = false := HAt.out _ hmc
        rw [hle'] at l1
        have HI2 : Hid (B = decide (m.key = key)) := by show _ = _; rw [HI.out, hmc]; rfl
        have hk' : (k : Int) < (ms.length : Int) := by omega
        have hd1 : decide ((k : Int) < (ms.length : Int)) = true := by simp; omega
        clear hr hmc hle' hmo
        go_wp2
        go_quiet (fail)
        go_wp2
        go_quiet (fail)
        go_wp2
        go_ret2
        exact ⟨by rw [HI2.out]; rfl, below_drewN (below_drewN HB.out _) _⟩
      · have hmc : (ms.map MC.c)[k]? = none := List.getElem?_eq_none (by rw [List.length_map]; omega)
        have HI2 : Hid (B = false) := by show _ = _; rw [HI.out, hmc]
        have ek : ms.length = k := by omega
        have ecn : cn = k := by omega
        subst ecn
        have hd1 : decide ((cn : Int) < (cn : Int)) = false := by simp
        clear hmc
        go_wp2
        go_quiet (fail)
        go_wp2
        go_quiet (fail)
        go_wp2
        go_ret2
        exact ⟨by rw [HI2.out]; rfl, below_drewN (below_drewN HB.out _) _⟩

end Go.Proofs.Ytfldiapdfpkdaaa

namespace Go.Proofs.Ytfldiapdfpkdaaa
open Go.RowKit NumMath Go.ChangeShapes Go.WideShapes Go.Deep
set_option linter.unusedVariables false
set_option maxRecDepth 100000

/-- a key's cell is there -/
def insC (st : List Cel) (key : List Int) : List Cel := if isAt st key = true then st else st.take (plc st key) ++ ⟨key, [], ver0⟩ :: st.drop (plc st key)

/-- a new cell, its key in memory -/
def mc0 (key : List Int) (a : Option Addr) (n c : Nat) : MC := ⟨key, a, n, c, [], none, 0, 0, mv0⟩

/-- what a call that may lay new blocks leaves of the store -/
structure CellPost (F : Nat → Prop) (w0 w : World) (p : Nat) (cv : Value) (st : List Cel) (w' : World) (cv' : Value) (ms' : List MC) : Prop where
  is : IsXs F w0 w' p cv' ms'
  eq : ms'.map MC.c = st
  kp : Keeps (Sp p cv) w w'
  at' : AtB w cv cv'

theorem okB_of {w : World} {base : Nat} {a : Option Addr} {n c : Nat} {bs : List Int} (h : OwnB w base (.slice a n c) bs) (hr : ∀ c ∈ bs, 0 ≤ c ∧ c < 256) : IsBytes w a n c bs := by
  obtain ⟨a', c', e, hi⟩ := h.is hr
  cases e
  exact hi

/-- the store behind its list was laid anew -/
theorem IsXs.laid {F : Nat → Prop} {w0 w w2 w4 : World} {p : Nat} {cv : Value} {ms : List MC} (h : IsXs F w0 w p cv ms) (i : Nat) (key : List Int) {a : Option Addr} {n c : Nat} {v4 : Value}
    (hk : IsBytes w2 a n c key) (hko : ∀ y, a = some y → w.heap.size ≤ y.block) (hb2 : Below w.heap.size w w2) (hb4 : Below w2.heap.size w2 w4) (hown : OwnY layC w4 w2.heap.size v4 (ms.take i ++ mc0 key a n c :: ms.drop i)) :
    IsXs F w0 (w4.setCell ⟨p, 0, none⟩ v4) p v4 (ms.take i ++ mc0 key a n c :: ms.drop i) ∧ Keeps (Sp p cv) w (w4.setCell ⟨p, 0, none⟩ v4) ∧ AtB w cv v4 := by
  have hs2 := hb2.size
  have hs4 := hb4.size
  have hb : Below w.heap.size w w4 := hb2.trans (hb4.mono hs2)
  have h4 := h.keep hb
  have hne4 : ∀ g, v4.ownBlock = some g → w2.heap.size ≤ g := fun g hg => (hown.lt g hg).1
  have hK : Keeps (fun k => k = p) w4 (w4.setCell ⟨p, 0, none⟩ v4) := keepsY_cell _
  have hsz : (w4.setCell ⟨p, 0, none⟩ v4).heap.size = w4.heap.size := by simp [World.setCell]
  refine ⟨⟨?_, ?_, h.lo, by rw [hsz]; exact h4.lt, ?_, ?_, ?_, ?_, ?_, h.pf, ?_⟩, ?_, ?_⟩
  · exact World.cell?_setCell_same _ _ _ h4.c
  · simp; exact h4.fz
  · refine (hown.mono (Nat.le_trans h.b.size hs2)).lies (fun g hg => hK.block g (hown.lt g hg).2 (fun e => ?_))
    have := hne4 g hg; have := h.lt; omega
  · intro e; have := hne4 _ e; have := h.lt; omega
  · exact h4.b.trans (hK.below h4.b.size (fun k hk => by rw [hk]; exact h.lo))
  · intro m hm
    have hY : ∀ k, SpF F p v4 k → SpF F p cv k ∨ w2.heap.size ≤ k := by
      rintro k ((hk | hk) | hk)
      · exact .inl (.inl (.inl hk))
      · exact .inr (hne4 k hk)
      · exact .inl (.inr hk)
    have hXp : ∀ k, k = p → SpF F p v4 k := fun k hk => .inl (.inl hk)
    have old : m ∈ ms → m.ok w0 (SpF F p v4) (w4.setCell ⟨p, 0, none⟩ v4) := fun hm =>
      (((((h.ok m hm).keep hb2).more hY).keep hb4).lies (hK.wider hXp))
    rcases List.mem_append.1 hm with h1 | h1
    · exact old (List.mem_of_mem_take h1)
    · rcases List.mem_cons.1 h1 with h1 | h1
      · subst h1
        refine ((MC.ok.keep (w := w2) ⟨hk, ?_, isY_nil _, .inl rfl, (fun v hv => by cases hv), mv0_ok w0⟩ hb4).lies (hK.wider hXp))
        rcases isB_blk hk with h2 | h2
        · exact .inl h2
        · refine .inr (fun y hy hX => ?_)
          have g1 := hko y hy
          have g2 := h2 y hy
          rcases hX with (hX | hX) | hX
          · have := h.lt; omega
          · have := hne4 _ hX; omega
          · have := h.fl _ hX; omega
      · exact old (List.mem_of_mem_drop h1)
  · intro k hk; rw [hsz]; exact h4.fl k hk
  · intro g hg e; have := hne4 g hg; have := h.fl g e; omega
  · exact ⟨hb.os.trans (by simp), hb.tape.trans (by simp), hb.output.trans (by simp), by rw [hsz]; exact hb.size, fun g hg hn => (hK.block g (Nat.lt_of_lt_of_le hg hb.size) (fun e => hn (.inl e))).trans (hb.block g hg)⟩
  · cases e : v4.ownBlock with
    | none =>
      exfalso
      rcases hown.form with ⟨_, e2⟩ | ⟨g, cap, e2, _⟩
      · have := congrArg List.length e2; simp at this
      · rw [e2] at e; cases e
    | some g => exact .inr ⟨g, e, Nat.le_trans hs2 (hne4 g e)⟩

end Go.Proofs.Ytfldiapdfpkdaaa

namespace Go.Proofs.Ytfldiapdfpkdaaa
open Go.RowKit NumMath Go.ChangeShapes Go.WideShapes Go.Deep
set_option linter.unusedVariables false
set_option maxRecDepth 100000

/-- what cell answers -/
def CellSpec : Prop := ∀ (F : Nat → Prop) (w0 w : World) (p : Nat) (cv : Value) (ms : List MC) (h : IsXs F w0 w p cv ms) (hf : ms.length ≤ 100000) (a : Option Addr) (n c : Nat) (key : List Int) (hk : IsBytes w a n c key) (hn : n ≤ 100000),
    Calls Try.prog 50 #[.pointer (some ⟨p, 0, none⟩), .slice a n c] w fun e w' => ∃ cv' ms', e = .returned (.int .i64 (plc (ms.map MC.c) key)) ∧ CellPost F w0 w p cv (insC (ms.map MC.c) key) w' cv' ms'

/-- a version among those that are there, one by one -/
def stepP {α : Type} (ts : α → Int) (v : α) (acc : List α × Bool) (x : α) : List α × Bool :=
  let r : List α × Bool := if acc.2 = false ∧ ts x ≤ ts v then (acc.1 ++ [v], true) else acc
  if ts x = ts v then r else (r.1 ++ [x], r.2)

def putP {α : Type} (ts : α → Int) (v : α) (vs : List α) : List α :=
  let r := vs.foldl (stepP ts v) ([], false)
  if r.2 = true then r.1 else r.1 ++ [v]

theorem stepP_map {α β : Type} (f : α → β) (ts : α → Int) (tb : β → Int) (ht : ∀ x, tb (f x) = ts x) (v : α) (acc : List α × Bool) (x : α) : (((stepP ts v acc x).1.map f, (stepP ts v acc x).2) : List β × Bool) = stepP tb (f v) (acc.1.map f, acc.2) (f x) := by
  unfold stepP
  simp only [ht]
  split <;> split <;> simp_all

theorem foldP_map {α β : Type} (f : α → β) (ts : α → Int) (tb : β → Int) (ht : ∀ x, tb (f x) = ts x) (v : α) : ∀ (vs : List α) (acc : List α × Bool), (((vs.foldl (stepP ts v) acc).1.map f, (vs.foldl (stepP ts v) acc).2) : List β × Bool) = (vs.map f).foldl (stepP tb (f v)) (acc.1.map f, acc.2) := by
  intro vs
  induction vs with
  | nil => intro acc; rfl
  | cons x r ih => intro acc; rw [List.foldl_cons, ih, stepP_map f ts tb ht, List.map_cons, List.foldl_cons]

theorem putP_map {α β : Type} (f : α → β) (ts : α → Int) (tb : β → Int) (ht : ∀ x, tb (f x) = ts x) (v : α) (vs : List α) : (putP ts v vs).map f = putP tb (f v) (vs.map f) := by
  have h := foldP_map f ts tb ht v vs ([], false)
  unfold putP
  rw [List.map_nil] at h
  rw [← h]
  dsimp only
  split <;> simp

theorem foldP_len {α : Type} (ts : α → Int) (v : α) : ∀ (vs : List α) (acc : List α × Bool), (vs.foldl (stepP ts v) acc).1.length ≤ acc.1.length + vs.length + (if acc.2 = true then 0 else 1) := by
  intro vs
  induction vs with
  | nil => intro acc; simp
  | cons x r ih =>
    intro acc
    rw [List.foldl_cons]
    refine Nat.le_trans (ih _) ?_
    obtain ⟨l, d⟩ := acc
    unfold stepP
    cases d <;> (dsimp only; split <;> split <;> simp_all <;> omega)

theorem stepP_mem {α : Type} (ts : α → Int) (v : α) (R : α → Prop) (hv : R v) : ∀ (vs : List α) (acc : List α × Bool), (∀ x ∈ vs, R x) → (∀ x ∈ acc.1, R x) → ∀ x ∈ (vs.foldl (stepP ts v) acc).1, R x := by
  intro vs
  induction vs with
  | nil => intro acc _ h; exact h
  | cons y r ih =>
    intro acc h1 h2
    rw [List.foldl_cons]
    refine ih _ (fun x hx => h1 x (List.mem_cons_of_mem _ hx)) ?_
    have hy := h1 y (List.mem_cons_self ..)
    intro x hx
    unfold stepP at hx
    dsimp only at hx
    split at hx <;> split at hx <;> (try simp only [List.mem_append, List.mem_singleton] at hx)
    · rcases hx with hx | rfl
      · exact h2 x hx
      · exact hv
    · exact h2 x hx
    · rcases hx with (hx | rfl) | rfl
      · exact h2 x hx
      · exact hv
      · exact hy
    · rcases hx with hx | rfl
      · exact h2 x hx
      · exact hy

/-- a key's versions changed -/
def setVs (f : List Ver → List Ver) (c : Cel) : Cel := ⟨c.key, f c.vs, c.it⟩

/-- a version is put -/
def putC (st : List Cel) (key : List Int) (v : Ver) : List Cel := (insC st key).modify (plc st key) (setVs (putP Ver.ts v))

theorem insC_at (st : List Cel) (key : List Int) : ∃ c, (insC st key)[plc st key]? = some c := by
  unfold insC
  split
  · rename_i h
    unfold isAt at h
    cases e : st[plc st key]? with
    | none => rw [e] at h; cases h
    | some c => exact ⟨c, rfl⟩
  · have := plc_le st key
    rw [List.getElem?_append_right (by rw [List.length_take]; omega)]
    rw [List.length_take, Nat.min_eq_left this, Nat.sub_self]
    exact ⟨_, rfl⟩

theorem insC_len (st : List Cel) (key : List Int) : (insC st key).length ≤ st.length + 1 := by
  unfold insC
  split
  · omega
  · rw [List.length_append, List.length_cons, List.length_take, List.length_drop]; have := plc_le st key; omega

/-- the store behind one cell of its list was set: the key's versions -/
theorem IsXs.setVs {F : Nat → Prop} {w0 w : World} {p g n cap : Nat} {ms : List MC} (h : IsXs F w0 w p (.slice (some ⟨g, 0, none⟩) n cap) ms) {i : Nat} {m : MC} (hi : ms[i]? = some m) (a : Option Addr) (vn vc : Nat) (vs : List MV) (hv : IsY layV w a vn vc vs) (ho : Out (SpF F p (.slice (some ⟨g, 0, none⟩) n cap)) a vn) (hok : ∀ v ∈ vs, v.ok w0) (o : Nat) (eo : o = i * 7 + 1) :
    IsXs F w0 (w.setCell ⟨g, o, none⟩ (.slice a vn vc)) p (.slice (some ⟨g, 0, none⟩) n cap) (ms.set i { m with vs := vs, va := a, vn := vn, vc := vc }) ∧ Keeps (Sp p (.slice (some ⟨g, 0, none⟩) n cap)) w (w.setCell ⟨g, o, none⟩ (.slice a vn vc)) := by
  have hK : Keeps (fun k => k = g) w (w.setCell ⟨g, o, none⟩ (.slice a vn vc)) := keepsY_cell _
  have hgp : ¬ p = g := fun e => h.ne (by rw [e]; rfl)
  have hX : ∀ k, k = g → SpF F p (.slice (some ⟨g, 0, none⟩) n cap) k := fun k e => .inl (.inr (by rw [e]; rfl))
  have hg0 := (h.own.lt g rfl).1
  refine ⟨⟨(World.cell?_of_block (a := ⟨p, 0, none⟩) (hK.block p h.lt hgp)).trans h.c, (World.frozen?_of_block (a := ⟨p, 0, none⟩) (hK.block p h.lt hgp)).trans h.fz, h.lo, Nat.lt_of_lt_of_le h.lt hK.size, h.own.cell i 1 m { m with vs := vs, va := a, vn := vn, vc := vc } (.slice a vn vc) hi (by show 1 < 7; decide) rfl o eo, h.ne, h.b.trans (hK.below h.b.size (fun k hk => by rw [hk]; exact hg0)), ?_, fun k hk => Nat.lt_of_lt_of_le (h.fl k hk) hK.size, h.pf, h.cf⟩, hK.wider (fun k e => .inr (by rw [e]; rfl))⟩
  intro m' hm'
  rcases List.mem_or_eq_of_mem_set hm' with h1 | h1
  · exact (h.ok m' h1).lies (hK.wider hX)
  · subst h1
    have h0 := h.ok m (List.mem_of_getElem? hi)
    exact MC.ok.lies (w := w) ⟨h0.key, h0.ko, hv, ho, hok, h0.iok⟩ (hK.wider hX)

end Go.Proofs.Ytfldiapdfpkdaaa
