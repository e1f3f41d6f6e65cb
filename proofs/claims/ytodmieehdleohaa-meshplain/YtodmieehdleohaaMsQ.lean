/- What MeshPlain is handed: a list of messages, each list in it no longer than a call can be handed. -/
import Derived.Test.YtodmieehdleohaaMsO
import Derived.Test.YtodmieehdleohaaMs7
import Derived.SizedLaws
namespace Go.Proofs.Ytodmieehdleohaa
open Go.RowKit NumMath Go.ChangeShapes Go.WideShapes Go.Deep
set_option linter.unusedVariables false
set_option maxRecDepth 100000

/-- all that is weighed in a datum is within the form's reach -/
def Wt {H : Type} (t : TypeId) (d : DataW H) : Prop := ∀ n ∈ d.weights Try.prog t, n ≤ reachBytes

theorem wt_all {H : Type} {t : TypeId} {ds : List (DataW H)} {d : DataW H} (h : d ∈ ds) : ∀ n ∈ d.weights Try.prog t, n ∈ DataW.weightsAll Try.prog t ds := by
  induction ds with
  | nil => cases h
  | cons x r ih =>
    intro n hn
    simp only [DataW.weightsAll, List.mem_append]
    rcases List.mem_cons.1 h with rfl | h
    · exact .inl hn
    · exact .inr (ih h n hn)

theorem wt_slice {H : Type} {enc : TypeId × Value → H} {w : World} {base : Nat} {spare : Nat → Bool} {held : Bool} {fuel : Nat} {t e : TypeId} (ht : Try.prog.underlying t = some (.slice e)) {a : Option Addr} {len cap : Nat} {x : DataW H × List MemPlace}
    (h : DataW.trod enc Try.prog w base spare held fuel t [.slice a len cap] = some x) (hw : Wt t x.1) :
    len * Try.prog.bytesOf e ≤ reachBytes ∧ ∀ i, i < len → ∃ ad cs' n y, a = some ad ∧ w.cells? base (ad.add (i * Try.prog.cellsOf e)) (Try.prog.cellsOf e) = some cs' ∧ DataW.trod enc Try.prog w base spare held n e cs' = some y ∧ Wt e y.1 := by
  rcases open_slice ht h with ⟨hcs, _⟩ | ⟨ad, l, c, m, n, D, Pl, hcs, hb, hl, hm, hmm, rfl, hx⟩
  · simp at hcs
    obtain ⟨rfl, rfl, rfl⟩ := hcs
    exact ⟨by simp, fun i hi => by omega⟩
  · simp only [List.cons.injEq, Value.slice.injEq, and_true] at hcs
    obtain ⟨rfl, rfl, rfl⟩ := hcs
    have hlm : len ≤ m := by rw [hmm]; split <;> omega
    have hs : ∀ n, n ∈ DataW.weights Try.prog t (DataW.slice ((List.range len).map D) ((List.range (m - len)).map fun j => D (len + j))) → n ≤ reachBytes := hw
    simp only [DataW.weights, ht] at hs
    refine ⟨?_, fun i hi => ?_⟩
    · have h1 := hs _ (List.mem_cons_self ..)
      simp only [List.length_map, List.length_range] at h1
      exact Nat.le_trans (Nat.mul_le_mul_right _ (by omega)) h1
    · obtain ⟨cs', h1, h2⟩ := hx i (by omega)
      refine ⟨ad, cs', n, _, rfl, h1, h2, fun k hk => hs k (List.mem_cons_of_mem _ (List.mem_append_left _ (wt_all (List.mem_map.2 ⟨i, List.mem_range.2 hi, rfl⟩) k hk)))⟩

theorem wt_field {H : Type} {t : TypeId} {fs : Array Field} (ht : Try.prog.underlying t = some (.struct fs)) {xs : List (DataW H × List MemPlace)} (hw : Wt t (.agg (xs.map (·.1)))) {i : Nat} {f : Field} {y : DataW H × List MemPlace} (hf : fs[i]? = some f) (hy : xs[i]? = some y) : Wt f.type y.1 := by
  intro n hn
  refine hw n ?_
  simp only [DataW.weights, ht]
  exact DataW.weights_mem_each (j := i) (by simp [hf]) (by simp [hy]) n hn

theorem bytes_u8 : Try.prog.bytesOf 5 = 1 := by kernel_rfl
theorem bytes_u64 : Try.prog.bytesOf 32 = 8 := by kernel_rfl
theorem bytes_ent : Try.prog.bytesOf 62 = 48 := by kernel_rfl

theorem wt_ent {H : Type} {enc : TypeId × Value → H} {w : World} {base : Nat} {spare : Nat → Bool} {held : Bool} {fuel : Nat} {c0 c1 c2 : Value} {a : Option Addr} {n c : Nat} {x : DataW H × List MemPlace}
    (h : DataW.trod enc Try.prog w base spare held fuel 62 [c0, c1, c2, .slice a n c] = some x) (hw : Wt 62 x.1) : n ≤ reachBytes := by
  obtain ⟨xs, k, _, rfl, hl, hlen, hf⟩ := DataW.trod_struct Try.underlying62 h
  obtain ⟨y3, g3⟩ := fld9 (show DataW.trod enc Try.prog w base spare held k 35 (([c0, c1, c2, .slice a n c].drop 3).take (Try.prog.cellsOf 35)) = xs[3]? from hf 3 _ rfl) (by rw [hlen]; decide)
  have e3 : xs[3]? = some y3 := (hf 3 _ rfl).symm.trans g3
  rw [cells8_bytes] at g3
  simp only [List.drop, List.take] at g3
  have := (wt_slice Try.underlying35 g3 (wt_field Try.underlying62 hw (i := 3) rfl e3)).1
  rw [bytes_u8] at this
  omega

theorem wt_ents {H : Type} {enc : TypeId × Value → H} {w : World} {base : Nat} {spare : Nat → Bool} {held : Bool} {fuel : Nat} {X : Nat → Prop} {a : Option Addr} {len cap : Nat} {ms : List MEnt} {x : DataW H × List MemPlace} (hI : IsMs X w a len cap ms)
    (h : DataW.trod enc Try.prog w base spare held fuel 33 [.slice a len cap] = some x) (hw : Wt 33 x.1) : len * 48 ≤ reachBytes ∧ ∀ e ∈ ms, e.n ≤ reachBytes := by
  obtain ⟨h1, h2⟩ := wt_slice Try.underlying33 h hw
  rw [bytes_ent] at h1
  refine ⟨h1, fun e he => ?_⟩
  obtain ⟨i, hi, rfl⟩ := List.getElem_of_mem he
  have hil : i < len := by rw [← hI.1]; exact hi
  obtain ⟨ad, cs', n, y, rfl, g1, g2, g3⟩ := h2 i hil
  rcases hI.2.2.2.2 with h0 | ⟨g, off, ha, hg, hc⟩
  · omega
  · cases ha
    rw [cells8_ent] at g1
    obtain ⟨_, hlen, hcell⟩ := World.cells?_some g1
    obtain ⟨c0, c1, c2, c3, rfl⟩ := list4 hlen
    have hx := hcell 3 (by omega)
    rw [Go.Deep.add_add, add_plain] at hx
    have hc3 : w.cell? ⟨g, off + i * 4 + 3, none⟩ = some (.slice (ms.getD i ment0).b (ms.getD i ment0).n (ms.getD i ment0).c) := (hc i hi).2.2.2
    rw [Nat.add_assoc, hx] at hc3
    have e3 : c3 = .slice (ms.getD i ment0).b (ms.getD i ment0).n (ms.getD i ment0).c := Option.some.inj hc3
    subst e3
    have := wt_ent g2 g3
    simpa [List.getD, List.getElem?_eq_getElem hi] using this

theorem wt_msg {H : Type} {enc : TypeId × Value → H} {w : World} {base : Nat} {spare : Nat → Bool} {held : Bool} {fuel : Nat} {X : Nat → Prop} {m : MMsg} {x : DataW H × List MemPlace} (hI : m.okX X w)
    (h : DataW.trod enc Try.prog w base spare held fuel 39 m.vals = some x) (hw : Wt 39 x.1) : m.small := by
  have hr : reachBytes ≤ 140737488355328 := by decide
  obtain ⟨xs, k, _, rfl, hl, hlen, hf⟩ := DataW.trod_struct Try.underlying39 h
  obtain ⟨y9, g9⟩ := fld9 (show DataW.trod enc Try.prog w base spare held k 33 ((m.vals.drop 9).take (Try.prog.cellsOf 33)) = xs[9]? from hf 9 _ rfl) (by rw [hlen]; decide)
  have e9 : xs[9]? = some y9 := (hf 9 _ rfl).symm.trans g9
  rw [cells8_ents] at g9
  have g9' : DataW.trod enc Try.prog w base spare held k 33 [.slice m.ea m.en m.ec] = some y9 := g9
  obtain ⟨y10, g10⟩ := fld9 (show DataW.trod enc Try.prog w base spare held k 37 ((m.vals.drop 10).take (Try.prog.cellsOf 37)) = xs[10]? from hf 10 _ rfl) (by rw [hlen]; decide)
  have e10 : xs[10]? = some y10 := (hf 10 _ rfl).symm.trans g10
  rw [cells8_snap] at g10
  have g10' : DataW.trod enc Try.prog w base spare held k 37 [.int .u64 m.si, .int .u64 m.st, .slice m.ma m.mn m.mc, .slice m.sa m.sn m.sc] = some y10 := g10
  have w9 : Wt 33 y9.1 := wt_field Try.underlying39 hw (i := 9) rfl e9
  have w10 : Wt 37 y10.1 := wt_field Try.underlying39 hw (i := 10) rfl e10
  obtain ⟨h1, h2⟩ := wt_ents hI.es g9' w9
  obtain ⟨zs, k2, _, rfl, hl2, hlen2, hf2⟩ := DataW.trod_struct Try.underlying37 g10'
  obtain ⟨z2, q2⟩ := fld9 (show DataW.trod enc Try.prog w base spare held k2 34 (([.int .u64 m.si, .int .u64 m.st, .slice m.ma m.mn m.mc, .slice m.sa m.sn m.sc].drop 2).take (Try.prog.cellsOf 34)) = zs[2]? from hf2 2 _ rfl) (by rw [hlen2]; decide)
  have f2 : zs[2]? = some z2 := (hf2 2 _ rfl).symm.trans q2
  rw [cells8_nums] at q2
  have q2' : DataW.trod enc Try.prog w base spare held k2 34 [.slice m.ma m.mn m.mc] = some z2 := q2
  obtain ⟨z3, q3⟩ := fld9 (show DataW.trod enc Try.prog w base spare held k2 35 (([.int .u64 m.si, .int .u64 m.st, .slice m.ma m.mn m.mc, .slice m.sa m.sn m.sc].drop 3).take (Try.prog.cellsOf 35)) = zs[3]? from hf2 3 _ rfl) (by rw [hlen2]; decide)
  have f3 : zs[3]? = some z3 := (hf2 3 _ rfl).symm.trans q3
  rw [cells8_bytes] at q3
  have q3' : DataW.trod enc Try.prog w base spare held k2 35 [.slice m.sa m.sn m.sc] = some z3 := q3
  have v2 := (wt_slice Try.underlying34 q2' (wt_field Try.underlying37 w10 (i := 2) rfl f2)).1
  have v3 := (wt_slice Try.underlying35 q3' (wt_field Try.underlying37 w10 (i := 3) rfl f3)).1
  rw [bytes_u64] at v2
  rw [bytes_u8] at v3
  exact ⟨by omega, fun e he => by have := h2 e he; omega, by omega, by omega⟩

/-- a list of messages that is handed in -/
def IsGs (w : World) (a : Option Addr) (len cap : Nat) (ms : List MMsg) : Prop := IsG w a len cap ms ∧ ∀ m ∈ ms, m.okX (fun _ => False) w ∧ m.small

theorem open_gs {H : Type} {enc : TypeId × Value → H} {w : World} {base : Nat} {spare : Nat → Bool} {held : Bool} {fuel : Nat} {a : Option Addr} {len cap : Nat} {x : DataW H × List MemPlace}
    (h : DataW.trod enc Try.prog w base spare held fuel 46 [.slice a len cap] = some x) (hw : Wt 46 x.1) : ∃ xs, IsGs w a len cap xs := by
  have hlc : len ≤ cap ∧ cap ≤ maxLen := by
    rcases open_slice Try.underlying46 h with ⟨hcs, _⟩ | ⟨ad, l, c, m, n, D, Pl, hcs, hb, hl, hm, hmm, _, hx⟩
    · simp at hcs
      obtain ⟨rfl, rfl, rfl⟩ := hcs
      exact ⟨Nat.le_refl _, Nat.zero_le _⟩
    · simp only [List.cons.injEq, Value.slice.injEq, and_true] at hcs
      obtain ⟨rfl, rfl, rfl⟩ := hcs
      exact ⟨hl, hm⟩
  have h2 := (wt_slice Try.underlying46 h hw).2
  by_cases h0 : len = 0
  · subst h0
    exact ⟨[], ⟨rfl, hlc.1, hlc.2, .inl rfl⟩, fun m hm => by cases hm⟩
  obtain ⟨ad, _, _, _, rfl, _⟩ := h2 0 (by omega)
  have each : ∀ i, i < len → ∃ p : MMsg, (p.okX (fun _ => False) w ∧ p.small) ∧ ∀ j, j < 14 → w.cell? (ad.add (i * 14 + j)) = p.vals[j]? := by
    intro i hi
    obtain ⟨ad', cs', n, y, e, g1, g2, g3⟩ := h2 i hi
    cases e
    rw [cells9_msg] at g1
    obtain ⟨_, hlen, hcell⟩ := World.cells?_some g1
    obtain ⟨c0, c1, c2, c3, c4, c5, c6, c7, c8, c9, c10, c11, c12, c13, rfl⟩ := list14 hlen
    obtain ⟨p, e, hok⟩ := open_msg g2
    rw [e] at g2 hcell
    refine ⟨p, ⟨hok, wt_msg hok g2 g3⟩, fun j hj => ?_⟩
    have := hcell j hj
    rw [Go.Deep.add_add] at this
    exact this
  obtain ⟨V, hV⟩ := @choose_lt MMsg ⟨msg0⟩ len _ each
  have hg : ∀ i, i < len → ((List.range len).map V).getD i msg0 = V i := by
    intro i hi
    simp [List.getD, hi]
  refine ⟨(List.range len).map V, ⟨by simp, hlc.1, hlc.2, .inr ?_⟩, ?_⟩
  · obtain ⟨b, off, spot⟩ := ad
    have c00 : w.cell? ((⟨b, off, spot⟩ : Addr).add (0 * 14 + 0)) = some (.int .i64 (V 0).k) := (hV 0 (by omega)).2 0 (by omega)
    have hspot : spot = none := by
      have := World.cell?_spot c00
      simpa [Addr.add] using this
    subst hspot
    refine ⟨b, off, rfl, ?_, ?_⟩
    · have := World.block_lt_of_cell? _ _ c00
      rw [add_plain] at this
      exact this
    · intro i hi j v hj
      rw [hg i hi] at hj
      have hj1 : j < 14 := by have := (List.getElem?_eq_some_iff.1 hj).1; rwa [vals_len] at this
      have := (hV i hi).2 j hj1
      rw [add_plain, hj] at this
      rw [Nat.add_assoc]
      exact this
  · intro v hv
    simp only [List.mem_map, List.mem_range] at hv
    obtain ⟨i, hi, rfl⟩ := hv
    exact (hV i hi).1

end Go.Proofs.Ytodmieehdleohaa
