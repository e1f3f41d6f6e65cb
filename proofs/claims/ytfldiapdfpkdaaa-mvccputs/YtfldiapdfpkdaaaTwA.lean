/- Package twin: copies of lists of texts, of versions, of lists of versions. Printed by part/gen_twa.py. -/
import Derived.Test.YtfldiapdfpkdaaaQsA
import Derived.Test.YtfldiapdfpkdaaaTwG
namespace Go.Proofs.Ytfldiapdfpkdaaa
open Go.RowKit NumMath Go.ChangeShapes Go.WideShapes Go.Deep
set_option linter.unusedVariables false
set_option linter.unusedSimpArgs false
set_option maxRecDepth 100000

set_option maxHeartbeats 4000000 in
theorem eachT_any (a : Option Addr) (n c : Nat) (ms : List MB) (w : World) (h : IsY layT w a n c ms) (hbig : n ≤ 100000) (hcl : ∀ W, Below w.heap.size w W → ∀ m ∈ ms, Calls Try.prog 57 #[.slice m.a m.n m.c] W (TwinOne (fun m => .slice m.a m.n m.c) MB.t (fun V m => m.at V) W m)) :
    Calls Try.prog 70 #[.slice a n c, .func (.func 57) #[] #[]] w fun e w' => ∃ v ms', e = .returned v ∧ TwinPost layT MB.t (fun V m => m.at V) w ms w' v ms' := by
  have HCl := hide (cloneT_any a n c ms w h.src (by omega))
  have HL := hide h.1
  have HF := hide hcl
  clear h hcl
  go_enter Try.func70, Try.ntmps70
  go_wp2_with (first
    | (go_at_call 84; go_must (refine HCl.out.mono ?_); rintro e w1 ⟨v1, rfl, hO1, hb1⟩; obtain ⟨a1, n1, c1, rfl⟩ := hO1.any3; have HO1 := hide hO1; have HB1 := hide hb1; clear hO1 hb1))
  have hn1 : n1 = n := by rw [← HO1.out.len.1]; exact HL.out
  subst hn1
  clear HCl
  go_loopw [10] (fun i wr => ∃ (k : Nat) (cur : List MB), k ≤ n1 ∧ i = .int .i64 k ∧ cur.map MB.t = ms.map MB.t ∧ OwnY layT wr w.heap.size (.slice a1 n1 c1) cur ∧ (∀ j m, j < k → cur[j]? = some m → Foot (fun k => k < w.heap.size ∨ (Value.slice a1 n1 c1).ownBlock = some k) wr (fun V => m.at V)) ∧ (∀ j, k ≤ j → cur[j]? = ms[j]?) ∧ Below w.heap.size w wr) (fun i _ => n1 - (intOf i).toNat)
  case atStart => exact ⟨0, ms, Nat.zero_le _, rfl, rfl, HO1.out, by intro j m hj; omega, fun _ _ => rfl, HB1.out⟩
  case round =>
    obtain ⟨k, cur, hk, rfl, hE, hrow, hdone, hrest, hb⟩ := hrel
    have HE := hide hE
    have HR := hide hrow
    have HDn := hide hdone
    have HRe := hide hrest
    have HB := hide hb
    clear hE hrow hdone hrest hb HO1 HB1
    by_cases hlt : k < n1
    · obtain ⟨g, cap, e, hg1, hg2, -, -, hC, hfr⟩ : ∃ g cap, (Value.slice a1 n1 c1) = .slice (some ⟨g, 0, none⟩) cur.length cap ∧ w.heap.size ≤ g ∧ g < wr.heap.size ∧ cur.length ≤ cap ∧ cap ≤ maxLen ∧ CellsY layT wr g 0 cur ∧ ∀ i, wr.frozen? ⟨g, i, none⟩ = false := by
        rcases HR.out.form with ⟨e, e0⟩ | h
        · have := HR.out.len.1; rw [e0] at this; simp at this; omega
        · exact h
      have hcl := HR.out.len.1
      have hga : a1 = some ⟨g, 0, none⟩ := by simp only [Value.slice.injEq] at e; exact e.1
      subst hga
      have hkl : k < ms.length := by rw [HL.out]; exact hlt
      obtain ⟨me, hme⟩ : ∃ me, ms[k]? = some me := ⟨_, List.getElem?_eq_getElem hkl⟩
      have HCx : Hid (cur[k]? = some me) := by show _ = _; rw [HRe.out k (Nat.le_refl _)]; exact hme
      have hcells : wr.rangeAt g (k * 1) (layT.cells me) := by have := hC k _ HCx.out; rw [Nat.zero_add] at this; exact this
      have hmem : me ∈ ms := List.mem_of_getElem? hme
      have HCp := hide (HF.out wr HB.out me hmem)
      have HCr : Hid (∀ W, Below wr.heap.size wr W → W.rangeAt g (k * 1) (layT.cells me)) := fun W hW => rangeY_same hcells (hW.block g hg2)
      have HFr : Hid (∀ W, Below wr.heap.size wr W → ∀ j, W.frozen? ⟨g, j, none⟩ = false) := fun W hW j => (hW.frozen (p := ⟨g, j, none⟩) hg2).trans (hfr j)
      have x0 : wr.cell? ⟨g, k, none⟩ = some (.slice me.a me.n me.c) := (by have q := HCr.out wr (Below.refl _ _) 0 _ rfl; simpa using q)
      have hkI : (k : Int) < (n1 : Int) := by omega
      clear hmem hC hfr e hme hcells
      go_wp2_with (first
        | (go_at_call 57; go_must (refine HCp.out.mono ?_); rintro e w3 ⟨m3, rfl, hv3, hF3, hb3⟩; have y0 : w3.cell? ⟨g, k, none⟩ = some (.slice me.a me.n me.c) := (by have q := HCr.out w3 hb3 0 _ rfl; simpa using q); have hfz := HFr.out _ hb3; have HV3 := hide hv3; have HF3 := hide hF3; have HB3 := hide hb3; clear hv3 hF3 hb3))
      go_roundw
      case rel =>
        have hsz3 := HB3.out.size
        have hgF : (Value.slice (some ⟨g, 0, none⟩) n1 c1).ownBlock = some g := rfl
        have hk0 := keepsYs w3 g (k * 1) (layT.cells m3)
        have hk0' : Keeps (fun k => k < w.heap.size ∨ (Value.slice (some ⟨g, 0, none⟩) n1 c1).ownBlock = some k) w3 (w3.setCells g (k * 1) (layT.cells m3)) := Keeps.wider hk0 (fun x hx => .inr (by rw [hgF, hx]))
        have hse : w3.setCells g (k * 1) (layT.cells m3) = w3.setCell ⟨g, k, none⟩ (.slice m3.a m3.n m3.c) := by rw [Nat.mul_one]; rfl
        rw [hse] at hk0 hk0'
        refine ⟨k + 1, cur.set k m3, by omega, by go_num, (map_set_sameT HCx.out HV3.out).trans HE.out, ?_, ?_, ?_, ?_⟩
        · have h := (HR.out.keep HB3.out).lay k hlt m3
          have e : w3.setCells g (k * layT.k) (layT.cells m3) = w3.setCell ⟨g, k, none⟩ (.slice m3.a m3.n m3.c) := hse
          rwa [e] at h
        · intro j m hj hm
          by_cases hjk : j = k
          · subst hjk
            rw [List.getElem?_set_self (by omega)] at hm
            cases hm
            exact (HF3.out.more (Y := fun k => k < w.heap.size ∨ (Value.slice (some ⟨g, 0, none⟩) n1 c1).ownBlock = some k) (fun k hk => .inl (by rcases hk with hk | hk; (have := HB.out.size; omega); (rw [hgF] at hk; have := Option.some.inj hk; omega)))).step hk0' (fun k hk => .inl hk)
          · rw [List.getElem?_set_ne (fun e => hjk e.symm)] at hm
            exact ((HDn.out j m (by omega) hm).keep HB3.out).step hk0' (fun k hk => .inl hk)
        · intro j hj
          rw [List.getElem?_set_ne (by omega)]
          exact HRe.out j (by omega)
        · exact (HB.out.trans (HB3.out.mono HB.out.size)).trans (hk0.below (B := w.heap.size) (by have := HB.out.size; omega) (fun x hx => by rw [hx]; exact hg1))
      case measure => simp [intOf]; omega
    · have hkn : k = n1 := by omega
      subst hkn
      go_wp2
      go_ret
      refine ⟨_, cur, rfl, HE.out, HR.out, fun m hm => ?_, HB.out⟩
      obtain ⟨j, hj, rfl⟩ := List.getElem_of_mem hm
      exact HDn.out j _ (by rw [← HR.out.len.1]; exact hj) (List.getElem?_eq_getElem hj)

set_option maxHeartbeats 4000000 in
theorem eachV_any (a : Option Addr) (n c : Nat) (ms : List MV) (w : World) (h : IsY layV w a n c ms) (hbig : n ≤ 1000000) (hcl : ∀ W, Below w.heap.size w W → ∀ m ∈ ms, Calls Try.prog 39 #[.agg #[.int .u64 m.v.ts, .int .u64 m.v.tx, .bool m.v.dd, .slice m.va m.vn m.vc, .slice m.ka m.kn m.kc]] W (TwinOne (fun m => .agg #[.int .u64 m.v.ts, .int .u64 m.v.tx, .bool m.v.dd, .slice m.va m.vn m.vc, .slice m.ka m.kn m.kc]) MV.v (fun V m => m.at V) W m)) :
    Calls Try.prog 56 #[.slice a n c, .func (.func 39) #[] #[]] w fun e w' => ∃ v ms', e = .returned v ∧ TwinPost layV MV.v (fun V m => m.at V) w ms w' v ms' := by
  have HCl := hide (cloneV_any a n c ms w h.src (by omega))
  have HL := hide h.1
  have HF := hide hcl
  clear h hcl
  go_enter Try.func56, Try.ntmps56
  go_wp2_with (first
    | (go_at_call 69; go_must (refine HCl.out.mono ?_); rintro e w1 ⟨v1, rfl, hO1, hb1⟩; obtain ⟨a1, n1, c1, rfl⟩ := hO1.any3; have HO1 := hide hO1; have HB1 := hide hb1; clear hO1 hb1))
  have hn1 : n1 = n := by rw [← HO1.out.len.1]; exact HL.out
  subst hn1
  clear HCl
  go_loopw [10] (fun i wr => ∃ (k : Nat) (cur : List MV), k ≤ n1 ∧ i = .int .i64 k ∧ cur.map MV.v = ms.map MV.v ∧ OwnY layV wr w.heap.size (.slice a1 n1 c1) cur ∧ (∀ j m, j < k → cur[j]? = some m → Foot (fun k => k < w.heap.size ∨ (Value.slice a1 n1 c1).ownBlock = some k) wr (fun V => m.at V)) ∧ (∀ j, k ≤ j → cur[j]? = ms[j]?) ∧ Below w.heap.size w wr) (fun i _ => n1 - (intOf i).toNat)
  case atStart => exact ⟨0, ms, Nat.zero_le _, rfl, rfl, HO1.out, by intro j m hj; omega, fun _ _ => rfl, HB1.out⟩
  case round =>
    obtain ⟨k, cur, hk, rfl, hE, hrow, hdone, hrest, hb⟩ := hrel
    have HE := hide hE
    have HR := hide hrow
    have HDn := hide hdone
    have HRe := hide hrest
    have HB := hide hb
    clear hE hrow hdone hrest hb HO1 HB1
    by_cases hlt : k < n1
    · obtain ⟨g, cap, e, hg1, hg2, -, -, hC, hfr⟩ : ∃ g cap, (Value.slice a1 n1 c1) = .slice (some ⟨g, 0, none⟩) cur.length cap ∧ w.heap.size ≤ g ∧ g < wr.heap.size ∧ cur.length ≤ cap ∧ cap ≤ maxLen ∧ CellsY layV wr g 0 cur ∧ ∀ i, wr.frozen? ⟨g, i, none⟩ = false := by
        rcases HR.out.form with ⟨e, e0⟩ | h
        · have := HR.out.len.1; rw [e0] at this; simp at this; omega
        · exact h
      have hcl := HR.out.len.1
      have hga : a1 = some ⟨g, 0, none⟩ := by simp only [Value.slice.injEq] at e; exact e.1
      subst hga
      have hkl : k < ms.length := by rw [HL.out]; exact hlt
      obtain ⟨me, hme⟩ : ∃ me, ms[k]? = some me := ⟨_, List.getElem?_eq_getElem hkl⟩
      have HCx : Hid (cur[k]? = some me) := by show _ = _; rw [HRe.out k (Nat.le_refl _)]; exact hme
      have hcells : wr.rangeAt g (k * 5) (layV.cells me) := by have := hC k _ HCx.out; rw [Nat.zero_add] at this; exact this
      have hmem : me ∈ ms := List.mem_of_getElem? hme
      have HCp := hide (HF.out wr HB.out me hmem)
      have HCr : Hid (∀ W, Below wr.heap.size wr W → W.rangeAt g (k * 5) (layV.cells me)) := fun W hW => rangeY_same hcells (hW.block g hg2)
      have HFr : Hid (∀ W, Below wr.heap.size wr W → ∀ j, W.frozen? ⟨g, j, none⟩ = false) := fun W hW j => (hW.frozen (p := ⟨g, j, none⟩) hg2).trans (hfr j)
      have x0 : wr.cell? ⟨g, k * 5, none⟩ = some (.int .u64 me.v.ts) := (by exact HCr.out wr (Below.refl _ _) 0 _ rfl)
      have x1 : wr.cell? ⟨g, k * 5 + 1, none⟩ = some (.int .u64 me.v.tx) := (by exact HCr.out wr (Below.refl _ _) 1 _ rfl)
      have x2 : wr.cell? ⟨g, k * 5 + 2, none⟩ = some (.bool me.v.dd) := (by exact HCr.out wr (Below.refl _ _) 2 _ rfl)
      have x3 : wr.cell? ⟨g, k * 5 + 3, none⟩ = some (.slice me.va me.vn me.vc) := (by exact HCr.out wr (Below.refl _ _) 3 _ rfl)
      have x4 : wr.cell? ⟨g, k * 5 + 4, none⟩ = some (.slice me.ka me.kn me.kc) := (by exact HCr.out wr (Below.refl _ _) 4 _ rfl)
      have hkI : (k : Int) < (n1 : Int) := by omega
      clear hmem hC hfr e hme hcells
      go_wp2_with (first
        | (go_at_call 39; go_must (refine HCp.out.mono ?_); rintro e w3 ⟨m3, rfl, hv3, hF3, hb3⟩; have y0 : w3.cell? ⟨g, k * 5, none⟩ = some (.int .u64 me.v.ts) := (by exact HCr.out w3 hb3 0 _ rfl); have y1 : w3.cell? ⟨g, k * 5 + 1, none⟩ = some (.int .u64 me.v.tx) := (by exact HCr.out w3 hb3 1 _ rfl); have y2 : w3.cell? ⟨g, k * 5 + 2, none⟩ = some (.bool me.v.dd) := (by exact HCr.out w3 hb3 2 _ rfl); have y3 : w3.cell? ⟨g, k * 5 + 3, none⟩ = some (.slice me.va me.vn me.vc) := (by exact HCr.out w3 hb3 3 _ rfl); have y4 : w3.cell? ⟨g, k * 5 + 4, none⟩ = some (.slice me.ka me.kn me.kc) := (by exact HCr.out w3 hb3 4 _ rfl); have hfz := HFr.out _ hb3; have HV3 := hide hv3; have HF3 := hide hF3; have HB3 := hide hb3; clear hv3 hF3 hb3))
      go_roundw
      case rel =>
        have hsz3 := HB3.out.size
        have hgF : (Value.slice (some ⟨g, 0, none⟩) n1 c1).ownBlock = some g := rfl
        have hk0 := keepsYs w3 g (k * 5) (layV.cells m3)
        have hk0' : Keeps (fun k => k < w.heap.size ∨ (Value.slice (some ⟨g, 0, none⟩) n1 c1).ownBlock = some k) w3 (w3.setCells g (k * 5) (layV.cells m3)) := Keeps.wider hk0 (fun x hx => .inr (by rw [hgF, hx]))
        refine ⟨k + 1, cur.set k m3, by omega, by go_num, (map_set_sameT HCx.out HV3.out).trans HE.out, ?_, ?_, ?_, ?_⟩
        · have h := (HR.out.keep HB3.out).lay k hlt m3
          exact h
        · intro j m hj hm
          by_cases hjk : j = k
          · subst hjk
            rw [List.getElem?_set_self (by omega)] at hm
            cases hm
            exact (HF3.out.more (Y := fun k => k < w.heap.size ∨ (Value.slice (some ⟨g, 0, none⟩) n1 c1).ownBlock = some k) (fun k hk => .inl (by rcases hk with hk | hk; (have := HB.out.size; omega); (rw [hgF] at hk; have := Option.some.inj hk; omega)))).step hk0' (fun k hk => .inl hk)
          · rw [List.getElem?_set_ne (fun e => hjk e.symm)] at hm
            exact ((HDn.out j m (by omega) hm).keep HB3.out).step hk0' (fun k hk => .inl hk)
        · intro j hj
          rw [List.getElem?_set_ne (by omega)]
          exact HRe.out j (by omega)
        · exact (HB.out.trans (HB3.out.mono HB.out.size)).trans (hk0.below (B := w.heap.size) (by have := HB.out.size; omega) (fun x hx => by rw [hx]; exact hg1))
      case measure => simp [intOf]; omega
    · have hkn : k = n1 := by omega
      subst hkn
      go_wp2
      go_ret
      refine ⟨_, cur, rfl, HE.out, HR.out, fun m hm => ?_, HB.out⟩
      obtain ⟨j, hj, rfl⟩ := List.getElem_of_mem hm
      exact HDn.out j _ (by rw [← HR.out.len.1]; exact hj) (List.getElem?_eq_getElem hj)

theorem texts_any (a : Option Addr) (n c : Nat) (ms : List MB) (w : World) (h : IsY layT w a n c ms) (hm : ∀ m ∈ ms, m.at w) (hbig : n ≤ 100000) (hsz : ∀ m ∈ ms, m.n ≤ 140737488355328) :
    Calls Try.prog 58 #[.slice a n c] w fun e w' => ∃ v ms', e = .returned v ∧ TwinPost layT MB.t (fun V m => m.at V) w ms w' v ms' := by
  have HE := hide (eachT_any a n c ms w h hbig (fun W hW m hm2 => (cloneB_big m.a m.n m.c m.t W (IsBytes.keep (hm m hm2) hW).src (hsz m hm2)).mono (fun e w' hp => by
    obtain ⟨v1, rfl, hO1, hb1⟩ := hp
    obtain ⟨a1, n1, c1, rfl, -⟩ := hO1.any
    exact ⟨⟨m.t, a1, n1, c1⟩, rfl, rfl, foot_own hO1 (hm m hm2).2.2.2.1 (fun k hk => hk), hb1⟩)))
  clear h hm hbig hsz
  go_enter Try.func58, Try.ntmps58
  go_wp2_with (first
    | (go_at_call 70; go_must (refine HE.out.mono ?_); rintro e w1 ⟨v1, ms', rfl, hP⟩; have HP := hide hP; clear hP))
  go_ret
  exact ⟨v1, ms', rfl, HP.out⟩

set_option maxHeartbeats 4000000 in
theorem copyOf_any (m : MV) (w : World) (h : m.at w) (hf : FitV m.v) :
    Calls Try.prog 39 #[.agg #[.int .u64 m.v.ts, .int .u64 m.v.tx, .bool m.v.dd, .slice m.va m.vn m.vc, .slice m.ka m.kn m.kc]] w fun e w' => CopyPost w m e w' := by
  obtain ⟨W0, hW0⟩ : ∃ W0, W0 = (w.alloc (.cells #[.int .u64 m.v.ts, .int .u64 m.v.tx, .bool m.v.dd, .slice m.va m.vn m.vc, .slice m.ka m.kn m.kc] 36)).alloc (.cells #[.int .u64 0, .int .u64 0, .bool false, .slice none 0 0, .slice none 0 0] 36) := ⟨_, rfl⟩
  have hs0 : W0.heap.size = w.heap.size + 2 := by rw [hW0]; simp
  have hb0 : Below w.heap.size w W0 := by rw [hW0]; exact belY (belY (Below.refl _ _) _) _
  have HX0 : Hid (BxV W0 w.heap.size m) := by show BxV W0 w.heap.size m; rw [hW0]; exact (bxV_new w m w.heap.size rfl).keep (new_below _ _)
  have HZ0 : Hid (BxV W0 (w.heap.size + 1) mv0) := by show BxV W0 (w.heap.size + 1) mv0; rw [hW0]; exact bxV_new _ mv0 _ (by simp)
  obtain ⟨h1, h2⟩ := h
  obtain ⟨mb, hmb, hmY, hmA⟩ := h2.mbs
  obtain ⟨f1, f2, f3⟩ := hf
  have HV := hide h1
  have HMY := hide hmY
  have HMA := hide hmA
  have HMT := hide hmb
  have hkn : m.kn ≤ 1000 := by rw [← hmY.1, ← List.length_map (f := MB.t), hmb]; exact f2
  have hvn : m.vn ≤ 140737488355328 := by rw [← h1.1]; exact f1
  have HSz : Hid (∀ x ∈ mb, x.n ≤ 140737488355328) := fun x hx => by rw [← (hmA x hx).1]; exact f3 _ (by rw [← hmb]; exact List.mem_map_of_mem hx)
  have HB0 := hide hb0
  have HPi := hide hs0
  clear h1 h2 hmY hmA hmb f1 f2 f3 hb0 hs0
  go_enter Try.func39, Try.ntmps39
  go_upto_region 1 with fail
  rw [← hW0]
  clear hW0
  refine startE (fun i => i == 7 || i == 8 || i == 9) (by kernel_rfl) ?_
  refine' takeE (i := 0) (v := _) rfl (by kernel_rfl) (by kernel_rfl) (by kernel_rfl) (by kernel_rfl) (fun _ _ _ h => h) (by rfl) (Below.refl _ _) ?_ ?_; rotate_left
  · (intro V hSV; obtain ⟨x0, x1, x2, x3, x4⟩ := (HX0.out.keep (undT hSV)).x; go_simp; all_goals (with_reducible rfl))
  (try simp only [Act.put, List.setIfInBounds_toArray, List.set_cons_zero, List.set_cons_succ])
  refine' takeE (i := 1) (v := _) rfl (by kernel_rfl) (by kernel_rfl) (by kernel_rfl) (by kernel_rfl) (fun _ _ _ h => h) (by rfl) (Below.refl _ _) ?_ ?_; rotate_left
  · (intro V hSV; obtain ⟨x0, x1, x2, x3, x4⟩ := (HX0.out.keep (undT hSV)).x; go_simp; all_goals (with_reducible rfl))
  (try simp only [Act.put, List.setIfInBounds_toArray, List.set_cons_zero, List.set_cons_succ])
  refine' takeE (i := 3) (v := _) rfl (by kernel_rfl) (by kernel_rfl) (by kernel_rfl) (by kernel_rfl) (fun _ _ _ h => h) (by rfl) (Below.refl _ _) ?_ ?_; rotate_left
  · (intro V hSV; obtain ⟨x0, x1, x2, x3, x4⟩ := (HX0.out.keep (undT hSV)).x; go_simp; all_goals (with_reducible rfl))
  (try simp only [Act.put, List.setIfInBounds_toArray, List.set_cons_zero, List.set_cons_succ])
  refine' takeE (i := 4) (v := _) rfl (by kernel_rfl) (by kernel_rfl) (by kernel_rfl) (by kernel_rfl) (fun _ _ _ h => h) (by rfl) (Below.refl _ _) ?_ ?_; rotate_left
  · (intro V hSV; obtain ⟨x0, x1, x2, x3, x4⟩ := (HX0.out.keep (undT hSV)).x; go_simp; all_goals (with_reducible rfl))
  (try simp only [Act.put, List.setIfInBounds_toArray, List.set_cons_zero, List.set_cons_succ])
  refine callE (i := 2) rfl (by kernel_rfl) (fun K hK => ?_)
  go_simp
  refine (cloneB_big m.va m.vn m.vc m.v.val W0.drew (IsBytes.keep (HV.out.keep HB0.out) (Below.refl _ W0).drew).src hvn).mono ?_
  rintro e w1 ⟨v1, rfl, hO1, hb1⟩
  obtain ⟨a1, n1, c1, rfl, -⟩ := hO1.any
  have HO1 := hide hO1
  have HB1 := hide hb1
  refine hK.out _ _ (fun _ => HB1.out) ?_
  clear hK K hO1 hb1
  (try simp only [Act.put, List.setIfInBounds_toArray, List.set_cons_zero, List.set_cons_succ])
  refine' takeE (i := 6) (v := _) rfl (by kernel_rfl) (by kernel_rfl) (by kernel_rfl) (by kernel_rfl) (fun _ _ _ h => h) (by rfl) (HB1.out) ?_ ?_; rotate_left
  · (intro V hSV; go_simp; all_goals (with_reducible rfl))
  (try simp only [Act.put, List.setIfInBounds_toArray, List.set_cons_zero, List.set_cons_succ])
  refine callE (i := 5) rfl (by kernel_rfl) (fun K hK => ?_)
  go_simp
  have hB01 : Below w.heap.size w w1 := HB0.out.trans ((undT HB1.out).mono HB0.out.size)
  refine (texts_any m.ka m.kn m.kc mb w1 (HMY.out.keep hB01) (fun x hx => (HMA.out x hx).keep hB01) (by omega) HSz.out).mono ?_
  rintro e w2 ⟨v2, mt, rfl, hP2⟩
  have HP2 := hide hP2
  obtain ⟨a2, n2, c2, rfl⟩ := hP2.own.any3
  have HB2 := hide (HB1.out.trans (hP2.b.mono HB1.out.size))
  refine hK.out _ _ (fun _ => HB2.out) ?_
  clear hK K hP2 hB01
  (try simp only [Act.put, List.setIfInBounds_toArray, List.set_cons_zero, List.set_cons_succ])
  refine callE (i := 7) rfl (by kernel_rfl) (fun K hK => ?_)
  have HX2 := hide (HX0.out.keep (undT HB2.out))
  have HZ2 := hide (HZ0.out.keep (undT HB2.out))
  have b3 := HX2.out.x.2.2.2.1
  have f3 := HX2.out.fz 3
  go_simp
  obtain ⟨W1, hW1⟩ : ∃ W1, W1 = w2.setCell ⟨w.heap.size, 3, none⟩ (.slice a1 n1 c1) := ⟨_, rfl⟩
  rw [← hW1]
  have hk1 : Keeps (fun k => k = w.heap.size) w2 W1 := by rw [hW1]; exact keepsY_cell _
  have HXs : Hid (BxV W1 w.heap.size { m with va := a1, vn := n1, vc := c1 }) := by show BxV W1 _ _; rw [hW1]; exact HX2.out.set 3 _ (by decide) rfl
  have HZs : Hid (BxV W1 (w.heap.size + 1) mv0) := HZ2.out.lies hk1 (by omega)
  have HK1 := hide hk1
  refine hK.out _ _ (fun h => by cases h) ?_
  clear hK K hW1 b3 f3 hk1
  (try simp only [Act.put, List.setIfInBounds_toArray, List.set_cons_zero, List.set_cons_succ])
  refine callE (i := 8) rfl (by kernel_rfl) (fun K hK => ?_)
  go_simp
  refine hK.out _ _ (fun h => by cases h) ?_
  clear hK K
  (try simp only [Act.put, List.setIfInBounds_toArray, List.set_cons_zero, List.set_cons_succ])
  refine callE (i := 9) rfl (by kernel_rfl) (fun K hK => ?_)
  have b4 := HXs.out.x.2.2.2.2
  have f4 := HXs.out.fz 4
  dsimp only at b4
  go_simp
  obtain ⟨W2, hW2⟩ : ∃ W2, W2 = W1.setCell ⟨w.heap.size, 4, none⟩ (.slice a2 n2 c2) := ⟨_, rfl⟩
  rw [← hW2]
  have hk2 : Keeps (fun k => k = w.heap.size) W1 W2 := by rw [hW2]; exact keepsY_cell _
  have HXt : Hid (BxV W2 w.heap.size { m with va := a1, vn := n1, vc := c1, ka := a2, kn := n2, kc := c2 }) := by show BxV W2 _ _; rw [hW2]; exact HXs.out.set 4 _ (by decide) rfl
  have HZt : Hid (BxV W2 (w.heap.size + 1) mv0) := HZs.out.lies hk2 (by omega)
  have HK2 := hide hk2
  refine hK.out _ _ (fun h => by cases h) ?_
  clear hK K hW2 b4 f4 hk2
  (try simp only [Act.put, List.setIfInBounds_toArray, List.set_cons_zero, List.set_cons_succ])
  refine doneE (by kernel_rfl) ?_ _
  have hld := HXt.out.r
  obtain ⟨z0, z1, z2, z3, z4⟩ := HZt.out.x
  have hzf := HZt.out.fz
  go_wp2_with (first
    | (refine wp_loadY layV _ _ Try.underlying36 rfl rfl (.tmp 1) rfl w.heap.size 0 { m with va := a1, vn := n1, vc := c1, ka := a2, kn := n2, kc := c2 } #[.int .u64 m.v.ts, .int .u64 m.v.tx, .bool m.v.dd, .slice a1 n1 c1, .slice a2 n2 c2] rfl rfl hld ?_))
  have hw3 := resV HZt.out.r HZt.out.fz { m with va := a1, vn := n1, vc := c1, ka := a2, kn := n2, kc := c2 }
  have r0 : (W2.setCells (w.heap.size + 1) 0 [.int .u64 m.v.ts, .int .u64 m.v.tx, .bool m.v.dd, .slice a1 n1 c1, .slice a2 n2 c2]).cell? ⟨w.heap.size + 1, 0, none⟩ = _ := hw3 0 _ rfl
  have r1 : (W2.setCells (w.heap.size + 1) 0 [.int .u64 m.v.ts, .int .u64 m.v.tx, .bool m.v.dd, .slice a1 n1 c1, .slice a2 n2 c2]).cell? ⟨w.heap.size + 1, 1, none⟩ = _ := hw3 1 _ rfl
  have r2 : (W2.setCells (w.heap.size + 1) 0 [.int .u64 m.v.ts, .int .u64 m.v.tx, .bool m.v.dd, .slice a1 n1 c1, .slice a2 n2 c2]).cell? ⟨w.heap.size + 1, 2, none⟩ = _ := hw3 2 _ rfl
  have r3 : (W2.setCells (w.heap.size + 1) 0 [.int .u64 m.v.ts, .int .u64 m.v.tx, .bool m.v.dd, .slice a1 n1 c1, .slice a2 n2 c2]).cell? ⟨w.heap.size + 1, 3, none⟩ = _ := hw3 3 _ rfl
  have r4 : (W2.setCells (w.heap.size + 1) 0 [.int .u64 m.v.ts, .int .u64 m.v.tx, .bool m.v.dd, .slice a1 n1 c1, .slice a2 n2 c2]).cell? ⟨w.heap.size + 1, 4, none⟩ = _ := hw3 4 _ rfl
  have hk4 := keepsYs W2 (w.heap.size + 1) 0 [.int .u64 m.v.ts, .int .u64 m.v.tx, .bool m.v.dd, .slice a1 n1 c1, .slice a2 n2 c2]
  dsimp only at r0 r1 r2 r3 r4
  obtain ⟨W9, hW9⟩ : ∃ W9, W9 = W2.setCells (w.heap.size + 1) 0 [.int .u64 m.v.ts, .int .u64 m.v.tx, .bool m.v.dd, .slice a1 n1 c1, .slice a2 n2 c2] := ⟨_, rfl⟩
  rw [← hW9] at r0 r1 r2 r3 r4 hk4
  have hW9' := hW9
  simp only [World.setCells, Nat.zero_add, Nat.reduceAdd] at hW9'
  rw [← hW9']
  refine bodyPost_ret (v := .agg #[.int .u64 m.v.ts, .int .u64 m.v.tx, .bool m.v.dd, .slice a1 n1 c1, .slice a2 n2 c2]) (by simp [results, Try.results39, go_sem, r0, r1, r2, r3, r4]) rfl ?_
  refine ⟨{ m with va := a1, vn := n1, vc := c1, ka := a2, kn := n2, kc := c2 }, rfl, rfl, ?_, ?_⟩
  · have hs0 : w.heap.size + 2 ≤ W0.drew.heap.size := by have := HPi.out; show _ ≤ W0.heap.size; omega
    have k12 : Keeps (fun k => k = w.heap.size ∨ k = w.heap.size + 1) w2 W9 := kpThen (kpThen (Keeps.wider HK1.out (fun k hk => .inl hk)) (fun k hk => .inl hk) (Keeps.wider HK2.out (fun k hk => .inl hk) : Keeps (fun k => k = w.heap.size ∨ k = w.heap.size + 1) W1 W2)) (fun k hk => .inl (.inr hk)) hk4
    have hfb : Foot (fun k => k < w.heap.size + 2) w1 (fun V => IsBytes V a1 n1 c1 m.v.val) := foot_own HO1.out HV.out.2.2.2.1 (fun k hk => by omega)
    have hsz1 := HB1.out.size
    have hft : Foot (fun k => k < w.heap.size + 2) w2 (fun V => IsTexts V a2 n2 c2 (mt.map MB.t)) := foot_texts HP2.out.own.is (by
      rcases HP2.out.own.form with ⟨e, _⟩ | ⟨g, cap, e, hg1, _⟩
      · simp only [Value.slice.injEq] at e; exact .inl e.2.1
      · simp only [Value.slice.injEq] at e; exact .inr (fun y hy hlt => by rw [e.1] at hy; cases hy; dsimp only at hlt; omega)) (fun x hx => (HP2.out.ok x hx).more (fun k hk => .inl (.inl (by omega))))
    rw [HP2.out.eq, HMT.out] at hft
    exact ((hfb.keep HP2.out.b).and hft).step (Keeps.wider k12 (fun k hk => by omega)) (fun k hk => .inl (by omega))
  · have b2 : Below w.heap.size w w2 := HB0.out.trans ((undT HB2.out).mono HB0.out.size)
    exact ((b2.trans (HK1.out.below (B := w.heap.size) b2.size (fun k e => by omega))).trans (HK2.out.below (B := w.heap.size) (by have := b2.size; have := HK1.out.size; omega) (fun k e => by omega))).trans (hk4.below (B := w.heap.size) (by have := b2.size; have := HK1.out.size; have := HK2.out.size; omega) (fun k e => by omega))

theorem copies_any (a : Option Addr) (n c : Nat) (ms : List MV) (w : World) (h : IsY layV w a n c ms) (ha : ∀ m ∈ ms, m.at w) (hf : ∀ m ∈ ms, FitV m.v) (hbig : n ≤ 1000000) :
    Calls Try.prog 38 #[.slice a n c] w fun e w' => ∃ v ms', e = .returned v ∧ CopiesPost w ms w' v ms' := by
  have HE := hide (eachV_any a n c ms w h hbig (fun W hW m hm => (copyOf_any m W ((ha m hm).keep hW) (hf m hm)).mono (fun e w' hp => hp)))
  clear h ha hf hbig
  go_enter Try.func38, Try.ntmps38
  go_wp2_with (first
    | (go_at_call 56; go_must (refine HE.out.mono ?_); rintro e w1 ⟨v1, ms', rfl, hP⟩; have HP := hide hP; clear hP))
  go_ret
  exact ⟨v1, ms', rfl, HP.out.eq, HP.out.own, HP.out.ok, HP.out.b⟩

end Go.Proofs.Ytfldiapdfpkdaaa
