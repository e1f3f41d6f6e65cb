/- Iterators: slices.Values of strings; the store's Keys. -/
import Derived.Test.YtfldiapdfpkdaaaRgM
import Derived.Test.YtfldiapdfpkdaaaQsL
namespace Go.Proofs.Ytfldiapdfpkdaaa
open Go.RowKit Go.Shelf NumMath Go.ChangeShapes Go.WideShapes Go.Deep
set_option linter.unusedVariables false
set_option maxRecDepth 100000

attribute [local go_sem] Oper.semAt_some

theorem roundIn_wide {m m' r : Nat} {P : Program} {l : Nat} {f : FuncId} {tmps : Array Value} {assign body : Code} {w : World} {R : Ending → World → Prop} (h : RoundIn Fence.wide m P l f tmps assign body w R) : RoundIn (Fence.wide.inRound r) m' P l f tmps assign body w R := ⟨trivial, fun c cs _ => h.2 c cs (by simp [Fence.room, Fence.wide])⟩

set_option maxHeartbeats 2000000 in
theorem valsI (Bs len cap : Nat) (a : Option Addr) (xs : List (List UInt8)) (hlen : xs.length = len) (hl5 : len ≤ 1000000) :
    SeqI 1 68 #[.pointer (some ⟨Bs, 0, none⟩)] (fun x v _ => v = #[encStr x]) xs (fun W => W.cell? ⟨Bs, 0, none⟩ = some (.slice a len cap) ∧ SrcY layS W a len xs) := by
  intro n hn l B I Ix W hI hIx hR hY h0 hB
  refine callsIn_of_wp Try.func68 rfl trivial ?_ rfl
  simp only [Try.ntmps68, List.size_toArray, List.length_cons, List.length_nil, Nat.reduceAdd, Nat.reduceSub, Array.replicate_succ, Array.replicate_zero, List.push_toArray, List.append_toArray, List.nil_append, List.cons_append]
  have hBs := (hR 0 W h0).1
  have HRf : Hid (Keeps (fun k => k < B) W W) := Below.keeps (Below.refl _ W) _
  gi_wp2
  gi_loopw [7] (fun i wr => ∃ j : Nat, j ≤ len ∧ i = .int .i64 (j : Int) ∧ I j wr ∧ Keeps (fun k => k < B) W wr) (fun i _ => len - (intOf i).toNat)
  case atStart => exact ⟨0, Nat.zero_le _, rfl, h0, HRf.out⟩
  case round =>
    obtain ⟨j, hj, rfl, hJs, hkp⟩ := hrel
    have HKp := hide hkp
    by_cases hlt : j < len
    · have hj2 : j < xs.length := by omega
      obtain ⟨x, hx⟩ : ∃ x, xs[j]? = some x := ⟨_, List.getElem?_eq_getElem hj2⟩
      rcases (hR j wr hJs).2.2 with h2 | ⟨g, off, ha, hg, hC⟩
      · omega
      have hcell : wr.cell? ⟨g, off + j, none⟩ = some (encStr x) := by have := hC j x hx 0 _ rfl; simpa [layS] using this
      obtain ⟨fn, tmps, assign, body, hy, hRd⟩ := hY j x _ wr hx hJs rfl (by have := hkp.size; omega)
      have hjl : (j : Int) < (len : Int) := by omega
      subst ha
      clear hY hC hR hkp
      gi_wp2
      refine hRd.mono ?_
      rintro e W3 ⟨hk3, (⟨rfl, hJ3⟩ | ⟨rfl, hJ3⟩)⟩
      · have HK3 := hide (kp_then HKp.out (fun k hk _ => hk) hk3)
        clear hk3
        gi_wp2
        go_roundw
        case rel => exact ⟨j + 1, by omega, by go_num, hJ3, HK3.out⟩
        case measure => simp [intOf]; omega
      · have HK3 := hide (kp_then HKp.out (fun k hk _ => hk) hk3)
        clear hk3
        gi_wp2
        refine bodyPost_ret (results_none rfl _ _ _) rfl ?_
        exact ⟨⟨_, rfl⟩, HK3.out, .inr hJ3⟩
    · have hjn : j = len := by omega
      subst hjn
      gi_wp2
      go_end0
      exact ⟨⟨_, rfl⟩, HKp.out, .inl (by rw [hlen]; exact hJs)⟩

set_option maxHeartbeats 4000000 in
theorem keysI (Bk Bs len cap : Nat) (a : Option Addr) (ks : List (List Int)) (hlen : ks.length = len) (hl5 : len ≤ 1000000) (hks : ∀ k ∈ ks, (∀ c ∈ k, 0 ≤ c ∧ c < 256) ∧ k.length ≤ 100000) :
    SeqI 6 45 #[.pointer (some ⟨Bk, 0, none⟩)] (fun k v W => ∃ s n c, v = #[.slice s n c] ∧ IsBytes W s n c k) ks (fun W => W.cell? ⟨Bk, 0, none⟩ = some (.func (.func 68) #[] #[.pointer (some ⟨Bs, 0, none⟩)]) ∧ W.cell? ⟨Bs, 0, none⟩ = some (.slice a len cap) ∧ SrcY layS W a len (ks.map kb)) := by
  intro n hn l B I Ix W hI hIx hR hY h0 hB
  refine callsIn_of_wp_marks Try.func45 rfl trivial ?_ rfl
  simp only [Try.ntmps45, List.size_toArray, List.length_cons, List.length_nil, Nat.reduceAdd, Nat.reduceSub, Array.replicate_succ, Array.replicate_zero, List.push_toArray, List.append_toArray, List.nil_append, List.cons_append]
  subst hB
  obtain ⟨W0, hW0⟩ : ∃ W0, W0 = W.alloc (.cells #[.func (.yield l) #[] #[]] 82) := ⟨_, rfl⟩
  have hb0 : Below W.heap.size W W0 := by rw [hW0]; exact new_below _ _
  have hs0 : W0.heap.size = W.heap.size + 1 := by rw [hW0]; simp
  have hY0 : W0.cell? ⟨W.heap.size, 0, none⟩ = some (.func (.yield l) #[] #[]) := by rw [hW0]; exact rangeY_new _ _ _ _ rfl 0 _ rfl
  have hI0 : I 0 W0 := hI 0 W W0 h0 hb0
  have hc0 := (hR 0 W0 hI0).1
  have HKp : Hid (Keeps (fun k => k < W.heap.size) W W0) := Below.keeps hb0 _
  have HI := hide hI
  have HIx := hide hIx
  have HR := hide hR
  have HY := hide hY
  clear hI hIx hR hY h0
  have hc1 := hc0
  rw [hW0] at hc1
  gi_wp2
  rw [← hW0]
  refine' loopI1 (a₁ := _) (valsI Bs len cap a (ks.map kb) (by rw [List.length_map]; exact hlen) hl5) (by omega) rfl (fun args w => rfl) (fun x v W h => by rw [h]; rfl)
    (fun j W' => I j W' ∧ W'.cell? ⟨W.heap.size, 0, none⟩ = some (.func (.yield l) #[] #[]) ∧ Keeps (fun k => k < W.heap.size) W W' ∧ W.heap.size < W'.heap.size) (fun W' => Ix W' ∧ Keeps (fun k => k < W.heap.size) W W' ∧ W.heap.size < W'.heap.size) _ _ _ _ _ _ _ _
  case refine'_1 =>
    rintro j V V' ⟨h1, h2, h3, h4⟩ hb
    have hb' := hb.mono (show W.heap.size ≤ W0.heap.size by omega)
    exact ⟨HI.out j V V' h1 hb', (hb.cell (p := ⟨W.heap.size, 0, none⟩) (by show W.heap.size < W0.heap.size; omega)).trans h2, kp_then h3 (X' := fun k => W0.heap.size ≤ k) (fun k hk _ => by omega) (kp_bel hb (by omega)), by have := hb.size; omega⟩
  case refine'_2 =>
    rintro V V' ⟨h1, h3, h4⟩ hb
    have hb' := hb.mono (show W.heap.size ≤ W0.heap.size by omega)
    exact ⟨HIx.out V V' h1 hb', kp_then h3 (X' := fun k => W0.heap.size ≤ k) (fun k hk _ => by omega) (kp_bel hb (by omega)), by have := hb.size; omega⟩
  case refine'_3 =>
    rintro j V ⟨h1, -⟩
    exact (HR.out j V h1).2
  case refine'_4 => exact ⟨hI0, hY0, HKp.out, by omega⟩
  case refine'_6 =>
    rintro x v V K rfl hK
    gi_wp2
    exact hK
  case refine'_7 =>
    rintro j x V hx ⟨h1, h2, h3, h4⟩ hlt
    obtain ⟨k, hk, rfl⟩ := map_get hx
    have hkk := hks k (List.mem_of_getElem? hk)
    obtain ⟨cc, V1, hcv, hcB, hcb, hcs⟩ := conv_key k hkk.1 hkk.2 V
    obtain ⟨fn, tmps, assign, body, hy, hRd⟩ := HY.out j k #[.slice (some ⟨V.heap.size, 0, none⟩) k.length cc] V1 hk (HI.out j V V1 h1 (hcb.mono (by omega))) ⟨_, _, _, rfl, hcB⟩ (by omega)
    have hes : encStr (kb k) = .string (strB k) := strB_kb k
    have HH := hide (And.intro h1 (And.intro h3 h4))
    have HCb := hide hcb
    have HCs := hide hcs
    clear h1 h3 hcB hcb hcs hx hk hkk HR HY hks
    rw [hes]
    gi_wp2
    refine ⟨fun _ => by omega, (roundIn_wide hRd).mono ?_⟩
    rintro e V3 ⟨hk3, (⟨rfl, h5⟩ | ⟨rfl, h5⟩)⟩
    · have HK3 := hide hk3
      clear hk3
      gi_wp2
      refine ⟨kp_then (Below.keeps HCb.out _) (fun k hk _ => by omega) HK3.out, h5, ?_, ?_, ?_⟩
      · exact (World.cell?_of_block (a := ⟨W.heap.size, 0, none⟩) (HK3.out.block W.heap.size (by have := HCs.out; omega) (by omega))).trans ((HCb.out.cell (p := ⟨W.heap.size, 0, none⟩) h4).trans h2)
      · exact kp_then (kp_then HH.out.2.1 (fun k hk _ => hk) (Below.keeps HCb.out _)) (fun k hk _ => hk) HK3.out
      · have := HK3.out.size; have := HCs.out; omega
    · have HK3 := hide hk3
      clear hk3
      gi_wp2
      refine ⟨kp_then (Below.keeps HCb.out _) (fun k hk _ => by omega) HK3.out, h5, ?_, ?_⟩
      · exact kp_then (kp_then HH.out.2.1 (fun k hk _ => hk) (Below.keeps HCb.out _)) (fun k hk _ => hk) HK3.out
      · have := HK3.out.size; have := HCs.out; omega
  case refine'_8 =>
    rintro V ⟨h1, -, h3, h4⟩ hD hlt
    have HD := hide hD
    clear hD
    gi_wp2
    refine ⟨by simp, .inl ⟨_, _, rfl, run_takeDeferred HD.out, ?_⟩⟩
    refine ⟨_, results_none rfl _ _ _, ⟨_, rfl⟩, kp_then h3 (fun k (hk : k = W0.heap.size) h => by omega) (kp_put _ _ _), .inl ?_⟩
    rw [List.length_map] at h1
    exact HI.out _ _ _ h1 (below_put _ (by omega) (by omega))
  case refine'_9 =>
    rintro V ⟨h1, h3, h4⟩ hD hlt
    have HD := hide hD
    clear hD
    gi_wp2
    refine ⟨by simp, .inl ⟨_, _, rfl, run_takeDeferred HD.out, ?_⟩⟩
    refine ⟨_, results_none rfl _ _ _, ⟨_, rfl⟩, kp_then h3 (fun k (hk : k = W0.heap.size) h => by omega) (kp_put _ _ _), .inr ?_⟩
    exact HIx.out _ _ h1 (below_put _ (by omega) (by omega))

end Go.Proofs.Ytfldiapdfpkdaaa
