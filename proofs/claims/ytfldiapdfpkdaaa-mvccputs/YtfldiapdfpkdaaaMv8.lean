/- The reference's store: an intent is laid; a store of several cells at once. -/
import Derived.Test.YtfldiapdfpkdaaaMv7
import Derived.Test.YtfldiapdfpkdaaaMv4
import Derived.Deep.Upon
namespace Go.Proofs.Ytfldiapdfpkdaaa
open Go.RowKit NumMath Go.ChangeShapes Go.WideShapes Go.Deep
set_option linter.unusedVariables false
set_option maxRecDepth 100000

/-- an intent in the place of another -/
def setIt (v : Ver) (c : Cel) : Cel := ⟨c.key, c.vs, v⟩

theorem OwnY.setIt {w : World} {base g n cap : Nat} {ms : List MC} (h : OwnY layC w base (.slice (some ⟨g, 0, none⟩) n cap) ms) {i : Nat} {m : MC} (hi : ms[i]? = some m) (mi : MV) : OwnY layC (w.setCells g (i * 7 + 2) (layV.cells mi)) base (.slice (some ⟨g, 0, none⟩) n cap) (ms.set i { m with it := mi }) := by
  have hlt := (List.getElem?_eq_some_iff.1 hi).1
  have g0 : ∀ (x : MC), (ms.set i x)[i]? = some x := fun x => List.getElem?_set_self hlt
  have h1 := h.cell i 2 m { m with it := { m.it with v := { m.it.v with ts := mi.v.ts } } } (.int .u64 mi.v.ts) hi (by show 2 < 7; decide) rfl (i * 7 + 2) rfl
  have h2 := h1.cell i 3 _ { m with it := { m.it with v := { m.it.v with ts := mi.v.ts, tx := mi.v.tx } } } (.int .u64 mi.v.tx) (g0 _) (by show 3 < 7; decide) rfl (i * 7 + 3) rfl
  rw [List.set_set] at h2
  have h3 := h2.cell i 4 _ { m with it := { m.it with v := { m.it.v with ts := mi.v.ts, tx := mi.v.tx, dd := mi.v.dd } } } (.bool mi.v.dd) (g0 _) (by show 4 < 7; decide) rfl (i * 7 + 4) rfl
  rw [List.set_set] at h3
  have h4 := h3.cell i 5 _ { m with it := { m.it with v := { m.it.v with ts := mi.v.ts, tx := mi.v.tx, dd := mi.v.dd }, va := mi.va, vn := mi.vn, vc := mi.vc } } (.slice mi.va mi.vn mi.vc) (g0 _) (by show 5 < 7; decide) rfl (i * 7 + 5) rfl
  rw [List.set_set] at h4
  have h5 := h4.cell i 6 _ { m with it := mi } (.slice mi.ka mi.kn mi.kc) (g0 _) (by show 6 < 7; decide) rfl (i * 7 + 6) rfl
  rw [List.set_set] at h5
  exact h5

/-- the store behind one cell of its list was given another intent -/
theorem IsXs.setIt {F : Nat → Prop} {w0 w : World} {p g n cap : Nat} {ms : List MC} (h : IsXs F w0 w p (.slice (some ⟨g, 0, none⟩) n cap) ms) {i : Nat} {m : MC} (hi : ms[i]? = some m) (mi : MV) (hok : mi.ok w0) :
    IsXs F w0 (w.setCells g (i * 7 + 2) (layV.cells mi)) p (.slice (some ⟨g, 0, none⟩) n cap) (ms.set i { m with it := mi }) ∧ Keeps (Sp p (.slice (some ⟨g, 0, none⟩) n cap)) w (w.setCells g (i * 7 + 2) (layV.cells mi)) := by
  have hK := keepsYs w g (i * 7 + 2) (layV.cells mi)
  have hgp : ¬ p = g := fun e => h.ne (by rw [e]; rfl)
  have hX : ∀ k, k = g → SpF F p (.slice (some ⟨g, 0, none⟩) n cap) k := fun k e => .inl (.inr (by rw [e]; rfl))
  have hg0 := (h.own.lt g rfl).1
  refine ⟨⟨(World.cell?_of_block (a := ⟨p, 0, none⟩) (hK.block p h.lt hgp)).trans h.c, (World.frozen?_of_block (a := ⟨p, 0, none⟩) (hK.block p h.lt hgp)).trans h.fz, h.lo, Nat.lt_of_lt_of_le h.lt hK.size, h.own.setIt hi mi, h.ne, h.b.trans (hK.below h.b.size (fun k hk => by rw [hk]; exact hg0)), ?_, fun k hk => Nat.lt_of_lt_of_le (h.fl k hk) hK.size, h.pf, h.cf⟩, hK.wider (fun k e => .inr (by rw [e]; rfl))⟩
  intro m' hm'
  rcases List.mem_or_eq_of_mem_set hm' with h1 | h1
  · exact (h.ok m' h1).lies (hK.wider hX)
  · subst h1
    have h0 := h.ok m (List.mem_of_getElem? hi)
    exact MC.ok.lies (w := w) ⟨h0.key, h0.ko, h0.vs, h0.vo, h0.vok, hok⟩ (hK.wider hX)

/-- there is room for an intent -/
theorem IsXs.there {F : Nat → Prop} {w0 w : World} {p g n cap : Nat} {ms : List MC} (h : IsXs F w0 w p (.slice (some ⟨g, 0, none⟩) n cap) ms) {i : Nat} {m : MC} (hi : ms[i]? = some m) : w.there g (i * 7 + 2) 5 := by
  obtain ⟨g', cap', e, _, _, _, hr, hf⟩ := h.at hi
  cases e
  obtain ⟨-, -, x2, x3, x4, x5, x6⟩ := rangeC hr
  intro j hj
  refine ⟨?_, hf _⟩
  have : j = 0 ∨ j = 1 ∨ j = 2 ∨ j = 3 ∨ j = 4 := by omega
  rcases this with rfl | rfl | rfl | rfl | rfl
  · rw [show i * 7 + 2 + 0 = i * 7 + 2 by omega, x2]; rfl
  · rw [show i * 7 + 2 + 1 = i * 7 + 3 by omega, x3]; rfl
  · rw [show i * 7 + 2 + 2 = i * 7 + 4 by omega, x4]; rfl
  · rw [show i * 7 + 2 + 3 = i * 7 + 5 by omega, x5]; rfl
  · rw [show i * 7 + 2 + 4 = i * 7 + 6 by omega, x6]; rfl

/-- the post of a call that sets a key's intent behind cell -/
theorem CellPost.setIt {F : Nat → Prop} {w0 w w1 w2 w3 : World} {p g n cap : Nat} {cv : Value} {st1 : List Cel} {ms2 : List MC} (hb : Below w.heap.size w w1) (h : CellPost F w0 w1 p cv st1 w2 (.slice (some ⟨g, 0, none⟩) n cap) ms2) {i : Nat} {m2 : MC} (hi : ms2[i]? = some m2)
    (hb3 : Below w2.heap.size w2 w3) (mi : MV) (hok : mi.ok w0) :
    CellPost F w0 w p cv (st1.modify i (Go.Proofs.Ytfldiapdfpkdaaa.setIt mi.v)) (w3.setCells g (i * 7 + 2) (layV.cells mi)) (.slice (some ⟨g, 0, none⟩) n cap) (ms2.set i { m2 with it := mi }) := by
  have h3 := h.is.keep hb3
  obtain ⟨r1, r2⟩ := h3.setIt hi mi hok
  have ha : AtB w cv (.slice (some ⟨g, 0, none⟩) n cap) := by
    rcases h.at' with e | ⟨g', e, hle⟩
    · exact .inl e
    · exact .inr ⟨g', e, Nat.le_trans hb.size hle⟩
  have hk1 : Keeps (Sp p cv) w w2 := ⟨h.kp.os.trans hb.os, h.kp.tape.trans hb.tape, h.kp.output.trans hb.output, Nat.le_trans hb.size h.kp.size, fun k hk hn => (h.kp.block k (Nat.lt_of_lt_of_le hk hb.size) hn).trans (hb.block k hk)⟩
  refine ⟨r1, ?_, keeps_sp hk1 ha (keeps_sp (keepsOfB hb3) (.inl rfl) r2), ha⟩
  have hd : st1[i]? = some m2.c := by rw [← h.eq, List.getElem?_map, hi]; rfl
  rw [modify_at _ st1 i m2.c hd, ← h.eq, List.map_set]
  rfl

end Go.Proofs.Ytfldiapdfpkdaaa
