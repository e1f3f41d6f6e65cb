/- Both stores: what At, Intents and Keys tell of both is alike. -/
import Derived.Test.YtfldiapdfpkdaaaQsO
import Derived.Test.YtfldiapdfpkdaaaRgJ
import Derived.Test.YtfldiapdfpkdaaaSaT
import Derived.Laws.EntriesVeiled
namespace Go.Proofs.Ytfldiapdfpkdaaa
open Go.RowKit Go.Shelf NumMath Go.ChangeShapes Go.WideShapes Go.Deep
set_option linter.unusedVariables false
set_option maxRecDepth 100000

theorem twoAtP {w0 w : World} {p q : Nat} {st : List Cel} (h : TwoG w0 w p q st) (a : Option Addr) (n c : Nat) (key : List Int) (hk : IsBytes w a n c key) (hn : n ≤ 100000) (ts : Int) :
    Calls Try.prog 13 #[.pointer (some ⟨p, 0, none⟩), .slice a n c, .int .u64 ts] w fun e w' => ∃ m : MV, e = .returned (.tuple #[.agg #[.int .u64 m.v.ts, .int .u64 m.v.tx, .bool m.v.dd, .slice m.va m.vn m.vc, .slice m.ka m.kn m.kc], .bool (atC st key ts).isSome]) ∧ m.v = (atC st key ts).getD ver0 ∧ m.at w' ∧ Below w.heap.size w w' := by
  obtain ⟨mb, z, cs, cv, ms, h1, h2, h3, h4⟩ := h
  refine (pAt_any _ _ w p mb z cs h2.s (by omega) a n c key hk hn ts).mono ?_
  rw [h3.eq, live_at h3.sort, h4]
  rintro e w' ⟨m, rfl, k1, k2, k3⟩
  exact ⟨m, rfl, k1, k2.now, k3⟩

theorem twoAtX {w0 w : World} {p q : Nat} {st : List Cel} (h : TwoG w0 w p q st) (a : Option Addr) (n c : Nat) (key : List Int) (hk : IsBytes w a n c key) (ts : Int) :
    Calls Try.prog 14 #[.pointer (some ⟨q, 0, none⟩), .slice a n c, .int .u64 ts] w fun e w' => ∃ m : MV, e = .returned (.tuple #[.agg #[.int .u64 m.v.ts, .int .u64 m.v.tx, .bool m.v.dd, .slice m.va m.vn m.vc, .slice m.ka m.kn m.kc], .bool (atC st key ts).isSome]) ∧ m.v = (atC st key ts).getD ver0 ∧ m.at w' ∧ Below w.heap.size w w' := by
  obtain ⟨mb, z, cs, cv, ms, h1, h2, h3, h4⟩ := h
  refine (at_any _ w0 w q cv ms h2.x a n c key hk ts).mono ?_
  rw [h4]
  rintro e w' ⟨m, rfl, k1, k2, k3⟩
  exact ⟨m, rfl, k2, k1.at (h2.x.b.trans (k3.mono h2.x.b.size)), k3⟩

theorem twoIntsP {w0 w : World} {p q : Nat} {st : List Cel} (h : TwoG w0 w p q st) (txn : Int) :
    Calls Try.prog 17 #[.pointer (some ⟨p, 0, none⟩), .int .u64 txn] w fun e w' => ∃ a n c, e = .returned (.slice a n c) ∧ IsTexts w' a n c (intentsC st txn) ∧ Below w.heap.size w w' := by
  obtain ⟨mb, z, cs, cv, ms, h1, h2, h3, h4⟩ := h
  refine (pInts_any _ _ w p mb z cs h2.s (by omega) txn).mono ?_
  rintro e w' ⟨v, ts, rfl, k1, k2, k3, k4⟩
  obtain ⟨a, n, c, rfl, -, -, -⟩ := k1.any4
  refine ⟨a, n, c, rfl, ?_, k4⟩
  have := texts_of k1.is (fun m hm => (k3 m hm).now)
  rw [k2, h3.eq, live_intents, h4] at this
  exact this

theorem texts_mb {w0 w : World} {X : Nat → Prop} {ms : List MC} (h : ∀ m ∈ ms, m.ok w0 X w) {a : Option Addr} {n c : Nat} (f : MC → Bool) (hY : IsY layT w a n c ((ms.filter f).map MC.mb)) : IsTexts w a n c ((ms.filter f).map MC.key) := by
  have := texts_of hY (fun m hm => by
    obtain ⟨x, hx, rfl⟩ := List.mem_map.1 hm
    exact (h x (List.mem_filter.1 hx).1).key)
  rw [List.map_map] at this
  exact this

theorem twoIntsX {w0 w : World} {p q : Nat} {st : List Cel} (h : TwoG w0 w p q st) (txn : Int) :
    Calls Try.prog 18 #[.pointer (some ⟨q, 0, none⟩), .int .u64 txn] w fun e w' => ∃ a n c, e = .returned (.slice a n c) ∧ IsTexts w' a n c (intentsC st txn) ∧ Below w.heap.size w w' := by
  obtain ⟨mb, z, cs, cv, ms, h1, h2, h3, h4⟩ := h
  have hln := h3.len
  rw [List.length_map] at hln
  refine (intents_any _ w0 w q cv ms h2.x (by omega) txn).mono ?_
  rintro e w' ⟨v, rfl, k1, k4⟩
  obtain ⟨a, n, c, rfl, -, -, -⟩ := k1.any4
  refine ⟨a, n, c, rfl, ?_, k4⟩
  have := texts_mb (h2.x.keep k4).ok _ k1.is
  rw [← h4]
  unfold intentsC
  rw [List.filter_map, List.map_map]
  exact this

theorem ky_live {w0 w : World} {X : Nat → Prop} {m : MC} (h : m.ok w0 X w) : isKy m = liveC m.c := by
  have h1 := h.vs.1
  unfold isKy liveC MC.c
  simp only [List.length_map]
  rw [h1]
  by_cases e1 : m.vn = 0 <;> by_cases e2 : m.it.v.tx = 0 <;> simp [e1, e2] <;> omega

theorem twoKeysX {w0 w : World} {p q : Nat} {st : List Cel} (h : TwoG w0 w p q st) :
    Calls Try.prog 19 #[.pointer (some ⟨q, 0, none⟩)] w fun e w' => ∃ a n c, e = .returned (.slice a n c) ∧ IsTexts w' a n c (keysC (st.filter liveC)) ∧ Below w.heap.size w w' := by
  obtain ⟨mb, z, cs, cv, ms, h1, h2, h3, h4⟩ := h
  have hln := h3.len
  rw [List.length_map] at hln
  refine (keys_any _ w0 w q cv ms h2.x (by omega)).mono ?_
  rintro e w' ⟨v, rfl, k1, k4⟩
  obtain ⟨a, n, c, rfl, -, -, -⟩ := k1.any4
  refine ⟨a, n, c, rfl, ?_, k4⟩
  have := texts_mb (h2.x.keep k4).ok _ k1.is
  rw [← h4]
  unfold keysC
  rw [List.filter_map, List.map_map]
  have e : ms.filter isKy = ms.filter (liveC ∘ MC.c) := List.filter_congr (fun m hm => ky_live (h2.x.ok m hm))
  rw [← e]
  exact this

/-- the iterator of keys in memory, below N -/
structure KeysAt (w : World) (N Bk Bs : Nat) (a : Option Addr) (n c : Nat) (ks : List (List Int)) : Prop where
  k : w.cell? ⟨Bk, 0, none⟩ = some (.func (.func 68) #[] #[.pointer (some ⟨Bs, 0, none⟩)])
  s : w.cell? ⟨Bs, 0, none⟩ = some (.slice a n c)
  t : SrcY layS w a n (ks.map kb)
  lk : N ≤ Bk ∧ Bk < w.heap.size
  ls : N ≤ Bs ∧ Bs < w.heap.size
  la : ∀ y, a = some y → N ≤ y.block

theorem KeysAt.same {w w' : World} {N Bk Bs : Nat} {a : Option Addr} {n c : Nat} {ks : List (List Int)} (h : KeysAt w N Bk Bs a n c ks) (hs : w.heap.size ≤ w'.heap.size) (hb : ∀ k, N ≤ k → k < w.heap.size → w'.heap[k]? = w.heap[k]?) : KeysAt w' N Bk Bs a n c ks := by
  refine ⟨(World.cell?_of_block (a := ⟨Bk, 0, none⟩) (hb Bk h.lk.1 h.lk.2)).trans h.k, (World.cell?_of_block (a := ⟨Bs, 0, none⟩) (hb Bs h.ls.1 h.ls.2)).trans h.s, ⟨h.t.1, ?_⟩, ⟨h.lk.1, by have := h.lk.2; omega⟩, ⟨h.ls.1, by have := h.ls.2; omega⟩, h.la⟩
  rcases h.t.2 with h0 | ⟨g, off, ha, hg, hC⟩
  · exact .inl h0
  · have := h.la _ ha
    exact .inr ⟨g, off, ha, by omega, hC.same (hb g this hg)⟩

set_option maxHeartbeats 2000000 in
theorem pKeys_any (G : Nat → Prop) (base : Nat) (w : World) (p mb z : Nat) (cs : List PC) (h : IsS G base w p mb z cs) (hz : z ≤ 100000) :
    Calls Try.prog 20 #[.pointer (some ⟨p, 0, none⟩)] w fun e w' => ∃ Bk Bs a n c, e = .returned (.func (.func 45) #[] #[.pointer (some ⟨Bk, 0, none⟩)]) ∧ (keysC (cs.map PC.c)).length = n ∧ n ≤ 100000 ∧ KeysAt w' w.heap.size Bk Bs a n c (keysC (cs.map PC.c)) ∧ Below w.heap.size w w' := by
  have HR := hide (rising_any G base w p mb z cs h hz (fun _ => true) (fun W m _ _ => anyCell_any _ _ W))
  have HF := hide h.few
  have hmf : ∀ (fn : Fn) (first cap : Array Value) (w : World), (Instr.makeFunc fn first cap).run Try.prog w = .ok (.func fn first cap) w := fun _ _ _ _ => rfl
  clear h
  go_enter Try.func20, Try.ntmps20
  go_wp2_with (first
    | (go_at_call 37; refine HR.out.mono ?_; rintro e w2 ⟨Bs, a2, n2, c2, rfl, hBs1, hBs2, hBs3, hsrc, hal, hb2⟩; have HR2 := hide (And.intro hBs1 (And.intro hBs2 (And.intro hBs3 (And.intro hsrc (And.intro hal hb2))))); clear hBs1 hBs2 hBs3 hsrc hal hb2))
  go_ret
  obtain ⟨hBs1, hBs2, hBs3, hsrc, hal, hb2⟩ := HR2.out
  rw [keys_all] at hsrc
  have hl := hsrc.1
  rw [List.length_map] at hl
  have hnb := new_below w2 (.cells #[.func (.func 68) #[] #[.pointer (some ⟨Bs, 0, none⟩)]] 70)
  refine ⟨w2.heap.size, Bs, a2, n2, c2, rfl, hl, by rw [← hl]; unfold keysC; rw [List.length_map, List.length_map]; have := HF.out; omega, ⟨rangeY_new w2 w2.heap.size _ _ rfl 0 _ rfl, (hnb.cell (p := ⟨Bs, 0, none⟩) hBs2).trans hBs3, ⟨hsrc.1, ?_⟩, ⟨hb2.size, by simp⟩, ⟨hBs1, by simp; omega⟩, hal⟩, hb2.trans (hnb.mono hb2.size)⟩
  rcases hsrc.2 with h0 | ⟨g, off, ha, hg, hC⟩
  · exact .inl h0
  · exact .inr ⟨g, off, ha, Nat.lt_of_lt_of_le hg hnb.size, hC.same (hnb.block g hg)⟩

theorem twoKeysP {w0 w : World} {p q : Nat} {st : List Cel} (h : TwoG w0 w p q st) :
    Calls Try.prog 20 #[.pointer (some ⟨p, 0, none⟩)] w fun e w' => ∃ Bk Bs a n c, e = .returned (.func (.func 45) #[] #[.pointer (some ⟨Bk, 0, none⟩)]) ∧ (keysC (st.filter liveC)).length = n ∧ n ≤ 100000 ∧ KeysAt w' w.heap.size Bk Bs a n c (keysC (st.filter liveC)) ∧ (∀ k ∈ keysC (st.filter liveC), (∀ c ∈ k, 0 ≤ c ∧ c < 256) ∧ k.length ≤ 100000) ∧ Below w.heap.size w w' := by
  obtain ⟨mb, z, cs, cv, ms, h1, h2, h3, h4⟩ := h
  have hk : ∀ k ∈ keysC (cs.map PC.c), (∀ c ∈ k, 0 ≤ c ∧ c < 256) ∧ k.length ≤ 100000 := by
    intro k hk
    unfold keysC at hk
    rw [List.map_map] at hk
    obtain ⟨m, hm, rfl⟩ := List.mem_map.1 hk
    exact ⟨(h2.s.go m hm).key, (h2.s.go m hm).kl⟩
  have hp := pKeys_any _ _ w p mb z cs h2.s (by omega)
  rw [h3.eq, h4] at hp hk
  refine hp.mono ?_
  rintro e w' ⟨Bk, Bs, a, n, c, e1, e2, e3, e4, e5⟩
  exact ⟨Bk, Bs, a, n, c, e1, e2, e3, e4, hk, e5⟩

end Go.Proofs.Ytfldiapdfpkdaaa
