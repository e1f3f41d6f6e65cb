/- The reference's PutMembers: an insertion; append where there is no room. The reference's PutMembers. -/
import Derived.Test.YtodmieehdleohaaGreatPmA
import Derived.Deep.RegionLaw
namespace Go.Proofs.YtodmieehdleohaaGreat
open Go.RowKit NumMath
set_option linter.unusedVariables false
set_option maxRecDepth 100000

theorem ins_at : ∀ (S : List Int) (m : Int) (k : Nat), (∀ i, i < k → S.getD i 0 < m) → k ≤ S.length → (k < S.length → ¬ S.getD k 0 < m) → insL m S = if k < S.length ∧ S.getD k 0 = m then S else S.take k ++ m :: S.drop k
  | [], m, k, _, hk, _ => by
    have : k = 0 := by simpa using hk
    subst this
    simp [insL]
  | x :: r, m, 0, _, hk, hn => by
    have h0 : ¬ x < m := by simpa using hn (by simp)
    unfold insL
    rw [if_neg h0]
    by_cases e : x = m
    · rw [if_pos e, if_pos ⟨by simp, by simpa using e⟩]
    · rw [if_neg e, if_neg (fun h => e (by simpa using h.2))]
      simp
  | x :: r, m, k + 1, hl, hk, hn => by
    have h0 : x < m := by simpa using hl 0 (by omega)
    have ih := ins_at r m k (fun i hi => by simpa using hl (i + 1) (by omega)) (by simpa using hk) (fun h => by simpa using hn (by simpa using h))
    unfold insL
    rw [if_pos h0, ih]
    by_cases c : k < r.length ∧ r.getD k 0 = m
    · rw [if_pos c, if_pos ⟨by simpa using c.1, by simpa using c.2⟩]
    · rw [if_neg c, if_neg (fun h => c ⟨by simpa using h.1, by simpa using h.2⟩)]
      simp

theorem set_snoc (l : List Int) (m : Int) : setL (l ++ [m]) = insL m (setL l) := by unfold setL; rw [List.foldl_append]; rfl

theorem ins_length (m : Int) : ∀ l : List Int, (insL m l).length ≤ l.length + 1
  | [] => by simp [insL]
  | x :: r => by
    have ih := ins_length m r
    unfold insL
    split
    · simp only [List.length_cons]; omega
    · split <;> simp

theorem fold_length : ∀ (l acc : List Int), (l.foldl (fun acc m => insL m acc) acc).length ≤ acc.length + l.length
  | [], acc => by simp
  | m :: r, acc => by
    have := fold_length r (insL m acc)
    have := ins_length m acc
    rw [List.foldl_cons, List.length_cons]
    omega

theorem set_length (l : List Int) : (setL l).length ≤ l.length := by
  have := fold_length l []
  simpa [setL] using this

theorem ownU_one (w : World) (B : Nat) (c : Int) (hB : B ≤ w.heap.size) : OwnU (w.alloc (.cells #[.int .u64 c] 22)) B (.slice (some ⟨w.heap.size, 0, none⟩) 1 1) [c] :=
  ⟨by simp, .inr ⟨w.heap.size, 1, #[.int .u64 c], rfl, hB, heap_alloc_new w _, Nat.le_refl _, by unfold maxLen; omega, rfl, rfl⟩⟩

/-- append where there is no room: a new row -/
theorem run_growU (w : World) (ty : TypeId) (g off k : Nat) (olds : List Int) (hk : olds.length = k) (ho : NumsAt w g off olds) (g2 off2 m c : Nat) (ys : List Int) (hm : ys.length = m) (hy : NumsAt w g2 off2 ys) (h0 : 0 < m) (hbig : k + m ≤ 1000000) :
    ∃ v' w', (Builtin.append_ #[25, 25] ty #[.slice (some ⟨g, off, none⟩) k k, .slice (some ⟨g2, off2, none⟩) m c]).run Tryz.prog w = .ok v' w' ∧ OwnU w' w.heap.size v' (olds ++ ys) ∧ Below w.heap.size w w' := by
  obtain ⟨i0, hi, hz0, hz1, hz2⟩ := info_parts infoU64
  have hr := run_append_grow (P := Tryz.prog) w 25 ty 22 i0 (.int .u64 0) Tryz.underlying25 hi hz0 ⟨g, off, none⟩ k k (olds.map (Value.int .u64)) (by rw [List.length_map, hz1, hk]; omega) (numsAt_add ho) ⟨g2, off2, none⟩ m c (ys.map (Value.int .u64)) (by rw [List.length_map, hz1, hm]; omega) (numsAt_add hy) (by omega) (by omega) (growslice_fits (by omega) (by rw [hz2]; omega))
  refine ⟨_, _, hr, ?_, ?_⟩
  · have hge := grownCap_ge w (k + m) k 22
    have hcm := grownCap_le_maxLen w (k + m) k 22 (by unfold maxLen; omega)
    unfold OwnU
    refine ⟨by simp, .inr ⟨w.heap.size, _, _, by rw [List.length_append, hk, hm], Nat.le_refl _, heap_alloc_new w.drew _, by rw [List.length_append, hk, hm]; exact hge, hcm, ?_, ?_⟩⟩
    · simp only [Array.size_append, List.size_toArray, size_zeroCells, List.length_map, hk, hm]
      show k + m + (_ - (k + m)) * 1 = _ * 1
      omega
    · rw [List.length_append, hk, hm, List.map_append]
      simp only [Array.toList_append, List.append_assoc]
      rw [← List.append_assoc]
      have hl : (olds.map (Value.int .u64) ++ ys.map (Value.int .u64)).length = (k + m) * 1 := by rw [List.length_append, List.length_map, List.length_map, hk, hm]; omega
      rw [← hl]
      exact List.take_left
  · exact ⟨rfl, rfl, rfl, by simp, fun i hi => heap_alloc_old w.drew _ hi⟩

theorem step_growU {ops : Array Oper} {o : Oper} {a : Act} {K : Act → World → Prop} {Q : Exit → Act → World → Prop} {E : Prop} (w : World) (hgd : Region.wanted o (yielded ops a.tmps) = true) (s x : Operand)
    (ho : o.op = .call { callee := .builtin .append, args := #[s, x], argTypes := #[25, 25] }) (g off k : Nat) (olds : List Int) (hs : a.eval s = .slice (some ⟨g, off, none⟩) k k) (hk : olds.length = k) (hO : NumsAt w g off olds)
    (g2 off2 m c : Nat) (ys : List Int) (hx : a.eval x = .slice (some ⟨g2, off2, none⟩) m c) (hm : ys.length = m) (hy : NumsAt w g2 off2 ys) (h0 : 0 < m) (hbig : k + m ≤ 1000000)
    (h : ∀ v' w', OwnU w' w.heap.size v' (olds ++ ys) → Below w.heap.size w w' → K (a.put o.dst v') w') :
    if Region.wanted o (yielded ops a.tmps) = true then Oper.wp Tryz.prog o a w K Q else E := by
  rw [if_pos hgd]
  obtain ⟨v', w', hr, h1, h2⟩ := run_growU w o.type g off k olds hk hO g2 off2 m c ys hm hy h0 hbig
  unfold Oper.wp execOp
  simp only [ho, resolve, invoke, builtin, Sem.run_bind, Sem.run_pure, Result.andThen_ok, List.map_toArray, List.map_cons, List.map_nil, hs, hx, hr]
  exact h v' w' h1 h2

end Go.Proofs.YtodmieehdleohaaGreat

namespace Go.Proofs.YtodmieehdleohaaGreat
open Go.RowKit NumMath
set_option linter.unusedVariables false
set_option maxRecDepth 100000

theorem numsAt_drop {w : World} {g : Nat} {S : List Int} (h : NumsAt w g 0 S) (k : Nat) : NumsAt w g k (S.drop k) := fun i hi => by
  rw [List.length_drop] at hi
  have := h (k + i) (by omega)
  rw [Nat.zero_add] at this
  rw [this]
  simp [List.getD]

theorem numsAt_takeU {w : World} {g : Nat} {S : List Int} (h : NumsAt w g 0 S) (k : Nat) : NumsAt w g 0 (S.take k) := fun i hi => by
  rw [List.length_take] at hi
  have := h i (by omega)
  rw [this]
  simp [List.getD, show i < k by omega]

theorem NumsAt.keepB {w w' : World} {g off B : Nat} {xs : List Int} (h : NumsAt w g off xs) (hb : Below B w w') (hg : g < B) : NumsAt w' g off xs := fun i hi => (hb.cell (p := ⟨g, off + i, none⟩) hg).trans (h i hi)

set_option maxHeartbeats 2000000 in
theorem xputmem_any (a : Option Addr) (len cap : Nat) (xs : List Int) (w : World) (h : IsNums w a len cap xs) (hl : len < 50) :
    Calls Tryz.prog 96 #[.slice a len cap] w fun e w' => ∃ v, e = .returned v ∧ OwnB w' w.heap.size v (memB xs) ∧ Below w.heap.size w w' := by
  have H := hide h
  have hrg := h.2.2.2.1
  have HRg := hide (set_range hrg)
  have hxl := h.1
  have HLen := hide (memB_length hrg)
  have HSl := hide (set_length xs)
  clear h hrg
  go_enter Tryz.func96, Tryz.ntmps96
  go_wp2
  go_loopg [3, 12] len (fun gk s3 s12 wr => ∃ i : Nat, gk = len - i ∧ i ≤ len ∧ s12 = .int .i64 i ∧ OwnU wr w.heap.size s3 (setL (xs.take i)) ∧ Below w.heap.size w wr)
  case atStart => exact ⟨0, rfl, Nat.zero_le _, rfl, ownU_nil _ _, Below.refl _ _⟩
  case round =>
    obtain ⟨i, rfl, hi, rfl, hO, hB⟩ := hrel
    have HO := hide hO
    have HB := hide hB
    obtain ⟨va, vn, vc, rfl⟩ := hO.any3
    clear hO hB
    by_cases hlt : i < len
    · obtain ⟨g0, off0, rfl, hg0, hN0⟩ := H.out.at hlt
      have hcm := (HB.out.cell (p := ⟨g0, off0 + i, none⟩) hg0).trans (hN0 i (by omega))
      have HTs : Hid (setL (xs.take (i + 1)) = insL (xs.getD i 0) (setL (xs.take i))) := by
        show _ = _
        rw [take_snoc (by omega), set_snoc]
      have hSl := set_length (xs.take i)
      rw [List.length_take] at hSl
      obtain ⟨S, hS⟩ : ∃ S, setL (xs.take i) = S := ⟨_, rfl⟩
      rw [hS] at HO HTs hSl
      have HSE := hide hS
      generalize xs.getD i 0 = m at *
      have hil : (i : Int) < (len : Int) := by omega
      have hwr := HB.out.size
      clear hN0 hS
      rcases HO.out.form with ⟨hv, hSn⟩ | ⟨g, cap', hv, hg, hg2, hc, hmx, hN⟩
      · cases hv
        have HIn : Hid (insL m S = [m]) := by show _ = _; rw [hSn]; rfl
        clear hSn
        go_upto_block 2 with fail
        go_cut [6] (fun s6 wx => s6 = .int .i64 0 ∧ wr = wx)
        case first =>
          go_wp2_with fail
          go_loopg [6] 0 (fun gk s6 wx => s6 = .int .i64 0 ∧ wr = wx)
          case atStart => exact ⟨rfl, rfl⟩
          case round =>
            obtain ⟨rfl, rfl⟩ := hrel
            go_wp2
            go_meet
            exact ⟨rfl, rfl⟩
        case rest =>
          obtain ⟨rfl, rfl⟩ := hcut
          go_wp2
          go_region_law (first
            | (refine step_joinU _ (by rfl) (.tmp 45) (.tmp 51) (by rfl) w.heap.size _ [] (by rfl) (ownU_nil _ _) a2 n2 c2 [m] (by rfl) HS2.out (by simp) (by have := HZ2.out; omega) ?_; intro v3 w3 hown3 hg3 hat3; have HO3 := hide hown3; have HB3 := hide ((ownU_nil _ w.heap.size).grown hg3 (by have := HZ2.out; omega)); clear hown3 hg3 hat3)
            | (refine step_joinU _ (by rfl) (.tmp 47) (.tmp 50) (by rfl) w.heap.size _ [m] (by rfl) (ownU_one wr.drew w.heap.size m (by exact hwr)) none 0 0 [] (by rfl) ⟨rfl, .inl rfl⟩ (by simp) (by simp; omega) ?_; intro v2 w2 hown2 hg2 hat2; rw [List.append_nil] at hown2; obtain ⟨a2, n2, c2, rfl⟩ := hown2.any3; have HS2 : Hid (SrcU w2 a2 n2 [m]) := (by rcases hown2.form with ⟨_, hx⟩ | ⟨g', cap'', hx, _, hlt', _, _, hN'⟩; (cases hx); (cases hx; exact ⟨rfl, .inr ⟨g', 0, rfl, hlt', hN'⟩⟩)); have HB2 := hide ((ownU_one wr.drew w.heap.size m (by exact hwr)).grown hg2 (by simp; omega)); have HZ2 : Hid (w.heap.size ≤ w2.heap.size) := (by have := HB2.out.size; simp at this; show _ ≤ _; omega); clear hown2 hg2 hat2))
          all_goals
            go_wp2
            go_roundg (len - (i + 1))
            case measure => omega
            case rel => exact ⟨i + 1, rfl, by omega, by go_num, by rw [HTs.out, HIn.out]; exact HO3.out, ((HB.out.drew.alloc hwr (.cells #[.int .u64 m] 22)).trans HB2.out).trans HB3.out⟩
      · obtain ⟨n, hn⟩ : ∃ n, S.length = n := ⟨_, rfl⟩
        rw [hn] at hv hc hSl
        cases hv
        have HNl := hide hn
        have HN := hide hN
        clear hN hn
        go_upto_block 2 with fail
        go_cut [6] (fun s6 wx => wr = wx ∧ ∃ k : Nat, s6 = .int .i64 k ∧ k ≤ vn ∧ (∀ j, j < k → S.getD j 0 < m) ∧ (k < vn → ¬ S.getD k 0 < m))
        case first =>
          go_wp2_with fail
          go_loopg [6] vn (fun gk s6 wx => wr = wx ∧ ∃ k : Nat, gk = vn - k ∧ s6 = .int .i64 k ∧ k ≤ vn ∧ (∀ j, j < k → S.getD j 0 < m))
          case atStart => exact ⟨rfl, 0, rfl, rfl, Nat.zero_le _, fun j hj => by omega⟩
          case round =>
            obtain ⟨rfl, k, rfl, rfl, hk, hJ⟩ := hrel
            have HJ := hide hJ
            clear hJ
            by_cases hkn : k < vn
            · have ck := HN.out k (by rw [HNl.out]; exact hkn)
              rw [Nat.zero_add] at ck
              obtain ⟨X, hX⟩ : ∃ v, S.getD k 0 = v := ⟨_, rfl⟩
              rw [hX] at ck
              have HX := hide hX
              have hkn' : (k : Int) < (vn : Int) := by omega
              clear hX
              by_cases hXm : X < m
              · go_wp2
                go_roundg (vn - (k + 1))
                case measure => omega
                case rel => exact ⟨rfl, k + 1, rfl, by go_num, by omega, fun j hj => by
                  by_cases e : j = k
                  · rw [e, HX.out]; exact hXm
                  · exact HJ.out j (by omega)⟩
              · go_wp2
                go_meet
                exact ⟨rfl, k, rfl, hk, HJ.out, fun _ => by rw [HX.out]; exact hXm⟩
            · have hkn' : ¬ (k : Int) < (vn : Int) := by omega
              go_wp2
              go_meet
              exact ⟨rfl, k, rfl, hk, HJ.out, fun h => absurd h hkn⟩
        case rest =>
          obtain ⟨rfl, k, rfl, hk, hJ, hE⟩ := hcut
          have HIn := hide (ins_at S m k hJ (by rw [HNl.out]; exact hk) (by rw [HNl.out]; exact hE))
          rw [HNl.out] at HIn
          clear hJ hE
          by_cases hdup : k < vn ∧ S.getD k 0 = m
          · rw [if_pos hdup] at HIn
            have ck := HN.out k (by rw [HNl.out]; exact hdup.1)
            rw [Nat.zero_add, hdup.2] at ck
            have hkn' : (k : Int) < (vn : Int) := by have := hdup.1; omega
            clear hdup
            go_wp2
            go_roundg (len - (i + 1))
            case measure => omega
            case rel => exact ⟨i + 1, rfl, by omega, by go_num, by rw [HTs.out, HIn.out]; exact HO.out, HB.out⟩
          · rw [if_neg hdup] at HIn
            have hlv : vn ≤ vc := hc
            go_upto_region 8 with fail
            go_cut [41] (fun s41 wx => s41 = .bool false ∧ wr = wx)
            case first =>
              by_cases hkn : k < vn
              · have ck := HN.out k (by rw [HNl.out]; exact hkn)
                rw [Nat.zero_add] at ck
                have hne : ¬ S.getD k 0 = m := fun e => hdup ⟨hkn, e⟩
                obtain ⟨X, hX⟩ : ∃ v, S.getD k 0 = v := ⟨_, rfl⟩
                rw [hX] at ck hne
                have hne2 : (X == m) = false := by simp [hne]
                have hkn' : (k : Int) < (vn : Int) := by omega
                clear hX hdup
                go_wp2
                go_meet
                exact ⟨by first | rfl | simp [hne], rfl⟩
              · have hkn' : ¬ (k : Int) < (vn : Int) := by omega
                clear hdup
                go_wp2
                go_meet
                exact ⟨rfl, rfl⟩
            case rest =>
              obtain ⟨rfl, rfl⟩ := hcut
              clear hdup
              have h1 : (k : Int) ≤ (vc : Int) := by omega
              have h2 : (k : Int) ≤ (vn : Int) := by omega
              have HTk := hide (numsAt_takeU HN.out k)
              have HDr := hide (numsAt_drop HN.out k)
              have hLt : (S.take k).length = k := by rw [List.length_take, HNl.out]; omega
              have HLt := hide hLt
              have HLd : Hid ((S.drop k).length = vn - k) := by show _ = _; rw [List.length_drop, HNl.out]
              clear hLt
              by_cases hck : vc = k
              · have hvk : vn - k = 0 := by omega
                have HDn : Hid (S.drop k = []) := List.eq_nil_of_length_eq_zero (by rw [HLd.out]; exact hvk)
                rw [HDn.out] at HIn
                go_wp2
                go_region_law (first
                  | (refine step_growU _ (by rfl) (.tmp 45) (.tmp 51) (by rfl) g 0 k (S.take k) (by rfl) HLt.out (HTk.out.keepB (((Below.refl _ wr).drew).alloc (Nat.le_refl _) (.cells #[.int .u64 m] 22)) hg2) wr.heap.size 0 1 1 [m] (by rfl) rfl (fun i hi => by (match i, hi with | 0, _ => simp)) (by omega) (by omega) ?_; intro v3 w3 hown3 hb3; have HO3 := hide (hown3.mono (show w.heap.size ≤ _ by simp; omega)); have HB3 := hide (hb3.mono (show w.heap.size ≤ _ by simp; omega)); clear hown3 hb3)
                  | fail)
                all_goals
                  go_wp2
                  go_roundg (len - (i + 1))
                  case measure => omega
                  case rel => exact ⟨i + 1, rfl, by omega, by go_num, by rw [HTs.out, HIn.out]; exact HO3.out, (HB.out.drew.alloc hwr (.cells #[.int .u64 m] 22)).trans HB3.out⟩
              · go_wp2
                go_region_law (first
                  | (refine step_growU _ (by rfl) (.tmp 45) (.tmp 51) (by rfl) g 0 k (S.take k) (by rfl) HLt.out (HTk.out.keepB HB2.out hg2) g2 0 n2 c2 ([m] ++ S.drop k) (by rfl) HL2.out HN2.out HP2.out (by omega) ?_; intro v3 w3 hown3 hb3; have HO3 := hide (hown3.mono HZ2.out); have HB3 := hide (hb3.mono HZ2.out); clear hown3 hb3)
                  | (refine step_joinU _ (by rfl) (.tmp 47) (.tmp 50) (by rfl) w.heap.size _ [m] (by rfl) (ownU_one wr.drew w.heap.size m (by exact hwr)) (some ⟨g, k, none⟩) (vn - k) (vc - k) (S.drop k) (by rfl) ⟨HLd.out, .inr ⟨g, k, rfl, by simp; omega, HDr.out.keepB (((Below.refl _ wr).drew).alloc (Nat.le_refl _) _) hg2⟩⟩ (by rw [HLd.out]; simp; omega) (by simp; omega) ?_; intro v2 w2 hown2 hg2' hat2; rcases hown2.form with ⟨_, hx⟩ | ⟨g2, c2, hx, _, hlt2, _, _, hN2⟩; (cases hx); have hlen2 : ([m] ++ S.drop k).length = vn - k + 1 := (by rw [List.length_append, HLd.out]; simp; omega); (obtain ⟨n2, hn2⟩ : ∃ n2, n2 = vn - k + 1 := ⟨_, rfl⟩); rw [hlen2, ← hn2] at hx; subst hx; have HL2 : Hid (([m] ++ S.drop k).length = n2) := (by show _ = _; rw [hlen2, hn2]); have HN2 := hide hN2; have HP2 : Hid (0 < n2) := (by show _ < _; omega); have hn2b : n2 ≤ 60 := (by omega); have HBa := hide ((ownU_one wr.drew w.heap.size m (by exact hwr)).grown hg2' (by simp; omega)); have HB2 : Hid (Below wr.heap.size wr w2) := (by exact (((Below.refl _ wr).drew).alloc (Nat.le_refl _) _).grown hg2' (by simp) (fun j ej => by cases ej; exact Nat.le_refl _)); have HZ2 : Hid (w.heap.size ≤ w2.heap.size) := (Nat.le_trans hwr HB2.out.size); clear hown2 hg2' hat2 hlen2 hn2 hN2))
                all_goals
                  go_wp2
                  go_roundg (len - (i + 1))
                  case measure => omega
                  case rel => exact ⟨i + 1, rfl, by omega, by go_num, by rw [HTs.out, HIn.out]; exact HO3.out, HB.out.trans ((HB2.out.mono hwr).trans HB3.out)⟩
    · have hil : ¬ (i : Int) < (len : Int) := by omega
      have HSx : Hid (setL (xs.take i) = setL xs) := by show _ = _; rw [List.take_of_length_le (by omega)]
      rw [HSx.out] at HO
      obtain ⟨ns, hns⟩ : ∃ ns, (setL xs).take 9 = ns := ⟨_, rfl⟩
      rw [hns] at HRg
      have HSrc : Hid (SrcU wr va vn (setL xs)) := by
        rcases HO.out.form with ⟨hv, hx⟩ | ⟨g, c, hv, _, hlt, _, _, hN⟩
        · cases hv; rw [hx]; exact ⟨rfl, .inl rfl⟩
        · cases hv; exact ⟨rfl, .inr ⟨g, 0, rfl, hlt, hN⟩⟩
      have hvl := HSrc.out.1
      have hsl := HSl.out
      have hcp : vn ≤ vc ∧ vc ≤ maxLen := by
        rcases HO.out.form with ⟨hv, hx⟩ | ⟨g, c, hv, _, hlt, hc1, hc2, hN⟩
        · cases hv; exact ⟨Nat.le_refl _, Nat.zero_le _⟩
        · cases hv; exact ⟨hc1, hc2⟩
      have HNs := hide hns
      obtain ⟨k, hk⟩ : ∃ k, ns.length = k := ⟨_, rfl⟩
      have hkm : k = min 9 vn := by rw [← hk, ← hns, List.length_take, hvl]
      have HK := hide hk
      have hk9 : k ≤ 9 := by omega
      have HKm := hide hkm
      have HVl := hide hvl
      have hvc : vn ≤ vc := hcp.1
      have hvn : vn < 50 := by omega
      have HM : Hid (memB xs = numL (k : Int) ++ numsL ns) := by show _ = _; unfold memB; rw [hns, hk]
      have HLn := hide (HLen.out)
      rw [HM.out] at HLn
      clear hns hk HLen hkm hvl hsl hcp
      go_upto_if 56 with fail
      go_cut [3] (fun s3 wx => wr = wx ∧ ∃ b c, s3 = .slice b k c ∧ SrcU wr b k ns)
      case first =>
        by_cases h9 : 9 < vn
        · have h9' : (9 : Int) < (vn : Int) := by omega
          have h9c : (9 : Int) ≤ (vc : Int) := by omega
          have h9d : 9 ≤ vc := by omega
          have HS9 : Hid (SrcU wr va 9 ns) := by
            refine ⟨by rw [HK.out]; have := HKm.out; omega, .inr ?_⟩
            rcases HSrc.out.2 with h0 | ⟨g, off, e, hg, hN⟩
            · omega
            · exact ⟨g, off, e, hg, fun j hj => by
                rw [← HNs.out] at hj ⊢
                obtain ⟨q1, q2⟩ := take_get (setL xs) 9 j hj
                rw [q2]; exact hN j q1⟩
          have ek : k = 9 := by have := HKm.out; omega
          subst ek
          rcases HSrc.out.2 with h0 | ⟨g, off, e, hg, hN⟩
          · omega
          · subst e
            clear hN
            go_wp2
            go_meet
            exact ⟨rfl, _, _, rfl, HS9.out⟩
        · have h9' : ¬ (9 : Int) < (vn : Int) := by omega
          have HS9 : Hid (SrcU wr va k ns) := by
            have e : ns = setL xs := by rw [← HNs.out, List.take_of_length_le (by have := HVl.out; omega)]
            show SrcU wr va k ns
            rw [e, show k = vn by have := HKm.out; omega]; exact HSrc.out
          have ek : k = vn := by have := HKm.out; omega
          subst ek
          go_wp2
          go_meet
          exact ⟨rfl, _, _, rfl, HS9.out⟩
      case rest =>
        obtain ⟨rfl, b, c, rfl, hs⟩ := hcut
        have HS := hide hs
        clear hs HO HSrc
        go_wp2_with (first
          | (go_at_call 132; go_must (refine (rN_any none 0 0 [] (k : Int) _ ⟨rfl, .inl rfl⟩ (by omega) (by omega) (by omega)).mono ?_); rintro e w2 ⟨v2, rfl, hO2, hb2⟩; rw [List.nil_append] at hO2; have HO2 := hide (hO2.mono HB.out.size); have HB2 := hide (HB.out.trans (hb2.mono HB.out.size)); have HW2 := hide hb2; clear hO2 hb2))
        go_loopg [7, 65] k (fun gk s7 s65 wx => ∃ j : Nat, gk = k - j ∧ j ≤ k ∧ s65 = .int .i64 j ∧ OwnB wx w.heap.size s7 (numL (k : Int) ++ numsL (ns.take j)) ∧ Below w.heap.size w wx ∧ Below wr.heap.size wr wx)
        case atStart => exact ⟨0, rfl, Nat.zero_le _, rfl, by simpa [numsL] using HO2.out, HB2.out, HW2.out⟩
        case round =>
          clear HO2 HB2 HW2
          obtain ⟨j, rfl, hj, rfl, hO, hB, hW⟩ := hrel
          have HOj := hide hO
          have HBj := hide hB
          have HWj := hide hW
          obtain ⟨a2, c2, rfl, hs2, -⟩ := hO.src
          have HS2 := hide hs2
          have hln := numsL_length (ns.take j) (fun x hx => HRg.out x (List.mem_of_mem_take hx))
          rw [List.length_take] at hln
          have hnk := numL_length (k : Int) (by omega) (by omega)
          obtain ⟨bk, hbk⟩ : ∃ bk, numL (k : Int) ++ numsL (ns.take j) = bk := ⟨_, rfl⟩
          have hbl : bk.length ≤ 1000 := by rw [← hbk, List.length_append]; omega
          obtain ⟨n2, hn2⟩ : ∃ n2, bk.length = n2 := ⟨_, rfl⟩
          have HBk := hide hbk
          rw [hbk, hn2] at HS2 HOj ⊢
          rw [hn2] at hbl
          clear hO hB hW hs2 hln hnk hbk hn2
          by_cases hjk : j < k
          · have hcell : ∃ g off, b = some ⟨g, off, none⟩ ∧ wr.cell? ⟨g, off + j, none⟩ = some (.int .u64 (ns.getD j 0)) := by
              rcases HS.out.2 with h0 | ⟨g, off, e, hg, hN⟩
              · omega
              · exact ⟨g, off, e, (HWj.out.cell (p := ⟨g, off + j, none⟩) hg).trans (hN j (by rw [HK.out]; exact hjk))⟩
            obtain ⟨g, off, rfl, hcl⟩ := hcell
            have hrg := HRg.out _ (getD_mem (ns := ns) (k := j) (by rw [HK.out]; exact hjk))
            have HT : Hid (numsL (ns.take (j + 1)) = numsL (ns.take j) ++ numL (ns.getD j 0)) := by
              show _ = _
              rw [take_snoc (by rw [HK.out]; exact hjk), numsL_snoc]
            generalize ns.getD j 0 = x at *
            have hjk' : (j : Int) < (k : Int) := by omega
            go_wp2_with (first
              | (go_at_call 132; go_must (refine (rN_any a2 n2 c2 bk x _ HS2.out hrg.1 hrg.2 (by omega)).mono ?_); rintro e w3 ⟨v3, rfl, hO3, hb3⟩; have HO3 := hide (hO3.mono HBj.out.size); have HB3 := hide (HBj.out.trans (hb3.mono HBj.out.size)); have HW3 := hide (HWj.out.trans (hb3.mono HWj.out.size)); clear hO3 hb3))
            go_roundg (k - (j + 1))
            case measure => omega
            case rel => exact ⟨j + 1, rfl, by omega, by go_num, by rw [HT.out, ← List.append_assoc, HBk.out]; exact HO3.out, HB3.out, HW3.out⟩
          · have hjk' : ¬ (j : Int) < (k : Int) := by omega
            have HE : Hid (memB xs = bk) := by
              show _ = _
              rw [HM.out, ← HBk.out, List.take_of_length_le (by rw [HK.out]; omega)]
            go_wp2
            go_ret
            exact ⟨_, rfl, by rw [HE.out]; exact HOj.out, HBj.out⟩

end Go.Proofs.YtodmieehdleohaaGreat
