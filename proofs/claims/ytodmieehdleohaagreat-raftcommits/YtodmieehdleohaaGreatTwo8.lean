/- Two logs side by side that have the same. -/
import Derived.Test.YtodmieehdleohaaGreatRrA
import Derived.Test.YtodmieehdleohaaGreatDeeds8
namespace Go.Proofs.YtodmieehdleohaaGreat
open Go.RowKit NumMath
set_option linter.unusedVariables false
set_option maxRecDepth 100000

theorem isL_clean {X : Nat → Prop} {w : World} {base p : Nat} {L : LogS} (h : IsL X w base p L) : IsL X ((w.setCell ⟨p, 5, none⟩ (.int .u64 0)).setCell ⟨p, 6, none⟩ (.bool false)) base p L.clean ∧ SPost 4 w p ((w.setCell ⟨p, 5, none⟩ (.int .u64 0)).setCell ⟨p, 6, none⟩ (.bool false)) := by
  obtain ⟨ma, mn, mc, da, dn, dc, ea, en, ec, ms, c0, c1, c2, c3, c4, c5, c6, hf, hm, hd, hr, he, ho, hp, hn, hx, hx4⟩ := h
  have hk : Keeps (fun k => k = p) w ((w.setCell ⟨p, 5, none⟩ (.int .u64 0)).setCell ⟨p, 6, none⟩ (.bool false)) := ((Keeps.self _ w).also _).also _
  refine ⟨isL_again (L' := L.clean) hk
    (by rw [cell_set_off _ _ _ _ _ (by decide), cell_set_off _ _ _ _ _ (by decide)]; exact c0) (by rw [cell_set_off _ _ _ _ _ (by decide), cell_set_off _ _ _ _ _ (by decide)]; exact c1) (by rw [cell_set_off _ _ _ _ _ (by decide), cell_set_off _ _ _ _ _ (by decide)]; exact c2) (by rw [cell_set_off _ _ _ _ _ (by decide), cell_set_off _ _ _ _ _ (by decide)]; exact c3) (by rw [cell_set_off _ _ _ _ _ (by decide), cell_set_off _ _ _ _ _ (by decide)]; exact c4)
    (by rw [cell_set_off _ _ _ _ _ (by decide)]; exact World.cell?_setCell_same _ _ _ c5) (World.cell?_setCell_same _ _ _ ((cell_set_off _ _ _ _ _ (by decide)).trans c6)) (fun i => by simp [hf]) hm hd hr he ho hp hn hx hx4, (spost_set (w := w) (p := p) (i := 5) (by decide) (.int .u64 0)).trans (spost_set (p := p) (i := 6) (by decide) (.bool false))⟩

/-- the blocks of both -/
def XB (w : World) (p q : Nat) (k : Nat) : Prop := SB 4 w p k ∨ SB 4 w q k

/-- two logs that have the same, behind n deeds -/
structure Two8 (w : World) (base p q : Nat) (L : LogS) (n : Nat) : Prop where
  a : IsL (XB w p q) w base p L
  b : IsL (XB w p q) w base q L
  off : Off2 4 4 w p q
  good : L.Good
  len : L.es.length ≤ 12 * n
  top : L.s.i + L.es.length ≤ 4611686018427387904 + 12 * n

theorem Two8.lt {w : World} {base p q : Nat} {L : LogS} {n : Nat} (h : Two8 w base p q L n) {k : Nat} (hk : XB w p q k) : base ≤ k ∧ k < w.heap.size := by
  rcases hk with hk | hk
  · exact ⟨(h.a.lt hk).2.1, (h.a.lt hk).1⟩
  · exact ⟨(h.b.lt hk).2.1, (h.b.lt hk).1⟩

theorem Two8.keep {w w' : World} {base p q : Nat} {L : LogS} {n : Nat} (h : Two8 w base p q L n) (hb : Below w.heap.size w w') : Two8 w' base p q L n := by
  have hX : ∀ k, XB w' p q k → XB w p q k := fun k hk => hk.imp (fun h1 => h1.same (hb.block p h.a.at)) (fun h1 => h1.same (hb.block q h.b.at))
  exact ⟨((h.a.keep hb).more (fun k hk => .inl (hX k hk)) (fun k hk => .inl hk)), ((h.b.keep hb).more (fun k hk => .inl (hX k hk)) (fun k hk => .inr hk)), h.off.keep h.a.at h.b.at hb, h.good, h.len, h.top⟩

/-- the first has been changed -/
def XM (w w1 : World) (p q : Nat) (k : Nat) : Prop := XB w p q k ∨ SB 4 w1 p k

theorem Two8.mid {w w1 : World} {base p q : Nat} {L : LogS} {n : Nat} (h : Two8 w base p q L n) (hp : SPost 4 w p w1) : IsL (XM w w1 p q) w1 base q L := by
  refine IsL.off (h.b.more (Y := XM w w1 p q) ?_ (fun k hk => .inl (.inr hk))) h.off (fun k hk => .inl (.inl hk)) hp
  rintro k (hk | hk)
  · exact .inl hk
  · exact (hp.2 k hk).imp (fun h => .inl h) id

theorem Two8.ltM {w w1 : World} {base p q : Nat} {L L' : LogS} {n : Nat} (h : Two8 w base p q L n) (hp : SPost 4 w p w1) (ha : IsL (fun k => XB w p q k ∨ SB 4 w1 p k) w1 base p L') {k : Nat} (hk : XM w w1 p q k) : base ≤ k ∧ k < w1.heap.size := by
  rcases hk with hk | hk
  · have := h.lt hk
    have := hp.size
    omega
  · have := ha.lt hk
    omega

theorem Two8.next {w w1 w2 : World} {base p q : Nat} {L L' : LogS} {n : Nat} (h : Two8 w base p q L n) (hp : SPost 4 w p w1) (ha : IsL (fun k => XB w p q k ∨ SB 4 w1 p k) w1 base p L') (hq : SPost 4 w1 q w2) (hb : IsL (fun k => XM w w1 p q k ∨ SB 4 w2 q k) w2 base q L')
    (hG : L'.Good) (hl : L'.es.length ≤ 12 * (n + 1)) (ht : L'.s.i + L'.es.length ≤ 4611686018427387904 + 12 * (n + 1)) : Two8 w2 base p q L' (n + 1) := by
  have o1 : Off2 4 4 w1 p q := h.off.next (fun k hk => (h.b.lt hk).1) hp
  have o2 : Off2 4 4 w2 q p := o1.symm.next (fun k hk => (ha.lt hk).1) hq
  have hp1 := ha.at
  have hpB : w2.heap[p]? = w1.heap[p]? := hq.1.block p hp1 (fun hx => o1 p SB.at hx)
  have hqB : w1.heap[q]? = w.heap[q]? := hp.1.block q h.b.at (fun hx => h.off q hx SB.at)
  have a2 : IsL (fun k => XM w w1 p q k ∨ SB 4 w2 q k) w2 base p L' := by
    refine IsL.off (IsL.more (X := XM w w1 p q) ha ?_ (fun k hk => .inl (.inr hk))) o1.symm (fun k hk => .inl (.inl (.inr (hk.same hqB)))) hq
    rintro k (hk | hk)
    · exact .inl hk
    · exact (hq.2 k hk).imp (fun h => .inl (.inr (h.same hqB))) id
  have hX : ∀ k, XB w2 p q k → (XM w w1 p q k ∨ SB 4 w2 q k) := by
    rintro k (hk | hk)
    · exact .inl (.inr (hk.same hpB))
    · exact .inr hk
  exact ⟨a2.more (fun k hk => .inl (hX k hk)) (fun k hk => .inl hk), hb.more (fun k hk => .inl (hX k hk)) (fun k hk => .inr hk), o2.symm, hG, hl, ht⟩

theorem Two8.below {w w1 w2 : World} {base p q : Nat} {L L' : LogS} {n : Nat} (h : Two8 w base p q L n) (hp : SPost 4 w p w1) (ha : IsL (fun k => XB w p q k ∨ SB 4 w1 p k) w1 base p L') (hq : SPost 4 w1 q w2) (hbs : base ≤ w.heap.size) : Below base w w2 :=
  (h.a.below hp hbs).trans ((h.mid hp).below hq (Nat.le_trans hbs hp.size))

theorem Two8.far {w w1 : World} {base p q : Nat} {L : LogS} {n : Nat} (h : Two8 w base p q L n) (hb : Below w.heap.size w w1) : ¬ XB w1 p q w.heap.size := by
  rintro (hk | hk)
  · have := (h.a.lt (hk.same (hb.block p h.a.at))).1; omega
  · have := (h.b.lt (hk.same (hb.block q h.b.at))).1; omega

theorem Two8.farM {w w1 : World} {base p q g : Nat} {L : LogS} {n : Nat} (h : Two8 w base p q L n) (hp : SPost 4 w p w1) (hg : ¬ XB w p q g) : ¬ SB 4 w1 q g :=
  fun hk => hg (.inr (hk.same (hp.1.block q h.b.at (fun hx => h.off q hx SB.at))))

theorem isL_wide {X : Nat → Prop} {w : World} {base p : Nat} {L : LogS} (h : IsL X w base p L) : IsL (fun k => X k ∨ SB 4 w p k) w base p L :=
  h.more (fun k hk => .inl (hk.elim id (fun h1 => (h.lt h1).2.2))) (fun k hk => .inr hk)

/-- entries that were there before both logs were -/
theorem ms_off {w W : World} {a : Option Addr} {n c : Nat} {ms : List MEnt} (h : IsMs (fun _ => False) w a n c ms) (hW : Below w.heap.size w W) {X : Nat → Prop} (hX : ∀ k, X k → w.heap.size ≤ k) : IsMs X W a n c ms := (h.more (fun k hk => .inr (hX k hk))).keep hW

theorem ms_far {w : World} {a : Option Addr} {n c p : Nat} {ms : List MEnt} {X : Nat → Prop} (h : IsMs X w a n c ms) (hp : w.heap.size ≤ p) : n = 0 ∨ ∀ y, a = some y → y.block ≠ p := by
  rcases h.2.2.2.2 with h | ⟨g, off, e, hg, _⟩
  · exact .inl h
  · exact .inr (fun y hy => by rw [e] at hy; cases hy; show g ≠ p; omega)

theorem bytes_far {w : World} {a : Option Addr} {n c p : Nat} {bs : List Int} (h : IsBytes w a n c bs) (hp : w.heap.size ≤ p) : n = 0 ∨ ∀ y, a = some y → y.block ≠ p := by
  rcases h.2.2.2.2 with h | ⟨g, off, e, hg, _⟩
  · exact .inl h
  · exact .inr (fun y hy => by rw [e] at hy; cases hy; show g ≠ p; omega)

theorem dat_off {w W : World} {a : Option Addr} {n c : Nat} {bs : List Int} (h : IsBytes w a n c bs) (hW : Below w.heap.size w W) {X : Nat → Prop} (hX : ∀ k, X k → w.heap.size ≤ k) : DatB X W a n c bs := (DatB.free h (fun k hk hx => by have := hX k hx; omega)).keep hW

theorem good_clean {L : LogS} (h : L.Good) : L.clean.Good := ⟨h.i0, h.i1, h.t0, h.t1, h.m0, h.m1, h.d1, h.n, h.at_, h.ok, Int.le_refl 0, by show (0 : Int) ≤ _; omega⟩

theorem appL_top {L : LogS} (es : List Ent) : ((appL L es).2.s.i + ((appL L es).2.es.length : Int)) ≤ L.s.i + L.es.length + es.length := by
  rw [appL_s]
  have := appL_len L es
  omega

theorem compL_top {L : LogS} (x : Int) (data : List Int) : (compL L x data).2.es.length ≤ L.es.length ∧ ((compL L x data).2.s.i + ((compL L x data).2.es.length : Int)) ≤ L.s.i + L.es.length := by
  by_cases h : x < L.s.i + 1 ∨ L.s.i + L.es.length < x
  · rw [compL_no h]; exact ⟨Nat.le_refl _, Int.le_refl _⟩
  · obtain ⟨k, hk⟩ : ∃ k : Nat, x = L.s.i + 1 + k := ⟨(x - (L.s.i + 1)).toNat, by omega⟩
    have hkl : k < L.es.length := by omega
    rw [compL_yes k hk hkl]
    dsimp only
    rw [List.length_drop]
    constructor <;> omega

end Go.Proofs.YtodmieehdleohaaGreat
