/- Send, and where the messages that wait lie: outside the blocks X of somebody else. -/
import Derived.Test.YtodmieehdleohaaMs7
namespace Go.Proofs.Ytodmieehdleohaa
open Go.RowKit NumMath Go.ChangeShapes Go.WideShapes Go.Deep
set_option linter.unusedVariables false
set_option maxRecDepth 100000

structure MidE (X : Nat → Prop) (w : World) (base p z : Nat) (cs : Nat → Value) (C : Int → Int → Bool) (N : Nat → Nat) (F' : List (Int × Int)) (cs' : Nat → Value) (Q' : Nat → List MMsg) (wr : World) : Prop extends Mid w base p z cs C N F' cs' Q' wr where
  nw : ∀ x m, 2 ≤ x → x < 103 → m ∈ Q' x → m.okX (fun k => X k ∨ Spine p cs' k) wr

theorem MidE.below {X : Nat → Prop} {w : World} {base p z : Nat} {cs : Nat → Value} {C : Int → Int → Bool} {N : Nat → Nat} {F' : List (Int × Int)} {cs' : Nat → Value} {Q' : Nat → List MMsg} {wr w' : World} (h : MidE X w base p z cs C N F' cs' Q' wr) (hb : Below wr.heap.size wr w') : MidE X w base p z cs C N F' cs' Q' w' :=
  ⟨h.toMid.below hb, fun x m h1 h2 h3 => (h.nw x m h1 h2 h3).keep hb⟩

theorem MidE.more {X : Nat → Prop} {w : World} {base p z : Nat} {cs : Nat → Value} {C : Int → Int → Bool} {N N' : Nat → Nat} {F' : List (Int × Int)} {cs' : Nat → Value} {Q' : Nat → List MMsg} {wr : World} (h : MidE X w base p z cs C N F' cs' Q' wr) (hN : ∀ x, N x ≤ N' x) : MidE X w base p z cs C N' F' cs' Q' wr :=
  ⟨h.toMid.more hN, h.nw⟩

theorem MidE.next {X : Nat → Prop} {w : World} {base p z : Nat} {cs : Nat → Value} {C : Int → Int → Bool} {N N' : Nat → Nat} {F' F'' : List (Int × Int)} {cs' : Nat → Value} {Q' Q'' : Nat → List MMsg} {wr w' : World} (h : MidE X w base p z cs C N F' cs' Q' wr) (hp : MPost wr base p z cs' F'' C Q'' w') (hN : ∀ x, (Q'' x).length ≤ N' x) (hn : ∀ x m, 2 ≤ x → x < 103 → m ∈ Q'' x → m ∈ Q' x ∨ m.okX (fun k => X k ∨ Spine p cs' k) wr) :
    ∃ cs'', MidE X w base p z cs C N' F'' cs'' Q'' w' ∧ Keeps (Spine p cs') wr w' ∧ ∀ k, Spine p cs'' k → Spine p cs' k ∨ wr.heap.size ≤ k := by
  obtain ⟨cs'', h1, h2, h3⟩ := h.toMid.next hp hN
  refine ⟨cs'', ⟨h1, fun x m a1 a2 a3 => ?_⟩, h2, h3⟩
  have ho : m.okX (fun k => X k ∨ Spine p cs' k) wr := (hn x m a1 a2 a3).elim (h.nw x m a1 a2) id
  have ho2 : m.okX (fun k => (X k ∨ Spine p cs'' k) ∨ Spine p cs' k) wr := ho.more (fun k hk => by
    rcases hk with (hk | hk) | hk
    · exact .inl (.inl hk)
    · exact (h3 k hk).imp .inr id
    · exact .inl (.inr hk))
  exact (ho2.lies h2 (fun k hk => .inr hk)).more (fun k hk => .inl (.inl hk))

theorem mem_upd {Q : Nat → List MMsg} {i x : Nat} {m y : MMsg} (h : y ∈ upd Q i (Q i ++ [m]) x) : y ∈ Q x ∨ y = m := by
  unfold upd at h
  split at h
  · rename_i e; subst e; simpa using h
  · exact .inl h

set_option maxHeartbeats 8000000 in
theorem sendE_any (X : Nat → Prop) (base p z : Nat) (cs : Nat → Value) (F : List (Int × Int)) (C : Int → Int → Bool) (Q : Nat → List MMsg) (a : Option Addr) (len cap : Nat) (ms : List MMsg) (w : World) (h : IsMesh w base p z cs F C Q) (hX : ∀ k, X k → k < w.heap.size) (hQ : ∀ x m, 2 ≤ x → x < 103 → m ∈ Q x → m.okX (fun k => X k ∨ Spine p cs k) w) (hG : IsG w a len cap ms) (hO : OffA (Spine p cs) len a) (hD : ∀ m ∈ ms, m.okX (Spine p cs) w) (hS : ∀ m ∈ ms, m.small) (hbig : ∀ x, (Q x).length + 3 * len ≤ 900000) (hlen : len ≤ 100000) :
    Calls Try.prog 9 #[.pointer (some ⟨p, 0, none⟩), .slice a len cap] w fun e w' => e = .returned (.tuple #[]) ∧ ∃ cs' Q', MidE X w base p z cs C (fun x => (Q x).length + 3 * len) (sendL C (F, pq Q) (ms.map MMsg.pure)).1 cs' Q' w' ∧ pq Q' = (sendL C (F, pq Q) (ms.map MMsg.pure)).2 := by
  have HMade := hide (madeM_any w base p z cs F C Q h)
  have H0 : Hid (MidE X w base p z cs C (fun x => (Q x).length + 3 * 0) F cs Q w) := ⟨⟨h, kpSelf _ _, fun k hk => .inl hk, fun x => Nat.le_refl _⟩, hQ⟩
  have HX := hide hX
  have HG := hide hG
  have HO := hide hO
  have HD := hide hD
  have HS := hide hS
  have HB := hide hbig
  have HL := hide hG.1
  clear h hX hQ hG hO hD hS hbig
  go_enter Try.func9, Try.ntmps9
  go_wp2_with (first
    | (go_at_call 21; go_must (refine HMade.out.mono ?_); rintro e w' ⟨rfl, hw⟩; have hw := hw.symm; subst hw))
  go_loopg [14] len (fun gk i wr => ∃ (k : Nat) (F' : List (Int × Int)) (cs' : Nat → Value) (Q' : Nat → List MMsg), gk = len - k ∧ k ≤ len ∧ i = .int .i64 k ∧ MidE X w base p z cs C (fun x => (Q x).length + 3 * k) F' cs' Q' wr ∧ (F', pq Q') = sendL C (F, pq Q) ((ms.take k).map MMsg.pure))
  case atStart => exact ⟨0, F, cs, Q, rfl, Nat.zero_le _, rfl, H0.out, rfl⟩
  case round =>
    obtain ⟨k, F', cs', Q', rfl, hk, rfl, hM, hE⟩ := hrel
    have HM := hide hM
    have HE := hide hE
    clear hM hE
    by_cases hlt : k < len
    · obtain ⟨g, off, hga, hg, hC0⟩ := (HG.out.lies HM.out.kp HO.out).at hlt
      subst hga
      have hkl : k < ms.length := by rw [HL.out]; exact hlt
      have hmem := msg_mem ms k hkl
      have HSm := hide (HS.out _ hmem)
      have HDm := hide (HD.out _ hmem)
      have HTk := hide (take_snoc ms k hkl)
      have HCe := hide hC0
      clear hmem hC0
      generalize ms.getD k msg0 = m at *
      have hpl := HM.out.is.pb.2
      obtain ⟨N1, hN1⟩ : ∃ N1, N1 = wr.heap.size := ⟨_, rfl⟩
      have HN1 := hide hN1
      have hN1s : Hid (¬ Spine p cs' N1) := fun hs => by have := (Spine.lt HM.out.is hs).2; omega
      have HX1 := hide (boxG_new wr m N1 39 hN1.symm)
      have HM1 := hide (HM.out.below (new_below wr (.cells #[.int .i64 m.k, .int .u64 m.fr, .int .u64 m.tt, .int .u64 m.tm, .int .u64 m.ix, .int .u64 m.lt, .int .u64 m.cm, .int .u64 m.hn, .bool m.rj, .slice m.ea m.en m.ec, .int .u64 m.si, .int .u64 m.st, .slice m.ma m.mn m.mc, .slice m.sa m.sn m.sc] 39)))
      obtain ⟨tn, htn⟩ : ∃ tn : Nat, (fateOf F').1 = tn := ⟨(fateOf F').1.toNat, by have := (fateOf_rng F').1.1; omega⟩
      obtain ⟨dn, hdn⟩ : ∃ dn : Nat, (fateOf F').2 = dn := ⟨(fateOf F').2.toNat, by have := (fateOf_rng F').2.1; omega⟩
      have ht3 : tn ≤ 3 := by have := (fateOf_rng F').1.2; omega
      have hd100 : dn ≤ 100 := by have := (fateOf_rng F').2.2; omega
      have HTn := hide htn
      have HDn := hide hdn
      have HNf := hide (nextFate_any base p z cs' F' C Q' _ HM1.out.is)
      rw [htn, hdn] at HNf
      subst hN1
      clear htn hdn
      go_wp2_with (first
        | (refine wp_loadG _ rfl (.tmp 16) rfl g (off + k * 14) m rfl HCe.out ?_)
        | (refine wp_storeN wr rfl (.tmp 5) (.tmp 17) rfl wr.heap.size rfl m rfl rfl ?_)
        | (go_at_call 22; go_must (refine HNf.out.mono ?_); rintro e w2 ⟨rfl, hp2⟩; obtain ⟨cs2, hm2, hk2, hs2⟩ := HM1.out.next (N' := fun x => (Q x).length + 3 * k) hp2 HM1.out.le (fun x m _ _ h => .inl h); have HX2 := hide (HX1.out.lies hk2 hN1s.out); have hN2 : Hid (¬ Spine p cs2 wr.heap.size) := (fun hs => by rcases hs2 _ hs with h1 | h1; exact hN1s.out h1; (rw [World.size_alloc] at h1; omega)); have HM2 := hide hm2; have HS2 := hide hs2; have h2sz := hk2.size; clear hp2 hm2 hk2 hs2))
      have HM3 := hide (HM2.out.below (new_below w2 (.cells #[.int .i64 (tn : Int), .int .i64 (dn : Int)] 56)))
      have HX3 := hide (HX2.out.keep (new_below w2 (.cells #[.int .i64 (tn : Int), .int .i64 (dn : Int)] 56)))
      have HF3 := hide (boxF_new w2 tn dn w2.heap.size rfl)
      have hNF : Hid (¬ Spine p cs2 w2.heap.size) := fun hs => by have := (Spine.lt HM2.out.is hs).2; omega
      obtain ⟨mb, hmb, hmap⟩ := HM3.out.is.map
      have c1 := HM3.out.is.cell 1 (by decide)
      rw [hmb] at c1
      obtain ⟨-, b1, b2, -⟩ := HX3.out.x
      obtain ⟨cb, hcb⟩ : ∃ cb, C (min m.fr m.tt) (max m.fr m.tt) = cb := ⟨_, rfl⟩
      have HU1 : Hid (UU (min m.fr m.tt)) := by show UU _; have := HDm.out.fr; have := HDm.out.tt; constructor <;> omega
      have HU2 : Hid (UU (max m.fr m.tt)) := by show UU _; have := HDm.out.fr; have := HDm.out.tt; constructor <;> omega
      have hp3 := HM3.out.is.pb.2
      have hx3 := HX3.out.lt
      have HKT := hide (fun W (hW : Below (w2.alloc (.cells #[.int .i64 (tn : Int), .int .i64 (dn : Int)] 56)).heap.size (w2.alloc (.cells #[.int .i64 (tn : Int), .int .i64 (dn : Int)] 56)) W) => And.intro ((hW.cell (p := ⟨p, 1, none⟩) hp3).trans c1) (And.intro ((hW.cell (p := ⟨wr.heap.size, 1, none⟩) hx3).trans b1) (And.intro ((hW.cell (p := ⟨wr.heap.size, 2, none⟩) hx3).trans b2) ((mapC_same hmap (hW.block mb (mapC_lt hmap))).look HU1.out HU2.out))))
      rw [hcb] at HKT
      have HMf := hide (fun W (hW : Below (w2.alloc (.cells #[.int .i64 (tn : Int), .int .i64 (dn : Int)] 56)).heap.size (w2.alloc (.cells #[.int .i64 (tn : Int), .int .i64 (dn : Int)] 56)) W) => HM3.out.below hW)
      have HXf := hide (fun W (hW : Below (w2.alloc (.cells #[.int .i64 (tn : Int), .int .i64 (dn : Int)] 56)).heap.size (w2.alloc (.cells #[.int .i64 (tn : Int), .int .i64 (dn : Int)] 56)) W) => HX3.out.keep hW)
      have HFf := hide (fun W (hW : Below (w2.alloc (.cells #[.int .i64 (tn : Int), .int .i64 (dn : Int)] 56)).heap.size (w2.alloc (.cells #[.int .i64 (tn : Int), .int .i64 (dn : Int)] 56)) W) => HF3.out.keep hW)
      have HCb := hide hcb
      clear hmap hmb hcb HM1 HX1 HX2 HM2 HNf c1 b1 b2 hp3 hx3
      go_wp2_with fail
      go_region_held3 (fun W => W.cell? ⟨p, 1, none⟩ = some (.map (some mb)) ∧ W.cell? ⟨wr.heap.size, 1, none⟩ = some (.int .u64 m.fr) ∧ W.cell? ⟨wr.heap.size, 2, none⟩ = some (.int .u64 m.tt) ∧ (Instr.lookup 57 (.map (some mb)) (.agg #[.int .u64 (min m.fr m.tt), .int .u64 (max m.fr m.tt)]) true).run Try.prog W = .ok (.tuple #[.agg #[], .bool cb]) W) (exact HKT.out _ (by repeat (first | exact Below.refl _ _ | refine belA ?_ _ | refine Below.drew ?_))) (first
        | (go_at_call 23; go_must (refine (pair_any m.fr m.tt _).mono ?_); rintro e w' ⟨rfl, rfl⟩))
      all_goals
        clear HKT HM3 HX3 HF3
        cases cb with
        | true =>
          go_wp2
          go_roundg (len - (k + 1))
          case measure => omega
          case rel =>
            refine ⟨k + 1, F'.tail, cs2, Q', rfl, by omega, by go_num, (HMf.out _ (by repeat (first | exact Below.refl _ _ | refine belA ?_ _ | refine Below.drew ?_))).more (fun x => by omega), ?_⟩
            rw [HTk.out, List.map_append, List.map_singleton, sendL_snoc, ← HE.out]
            unfold send1
            have : C (min m.pure.fr m.pure.tt) (max m.pure.fr m.pure.tt) = true := HCb.out
            simp [this]
        | false =>
          have HN1b := HN1.out
          clear HN1b
          have HFs := hide HMf.out
          go_wp2
          generalize hg1 : wr.heap.size = N1 at *
          clear hg1
          go_loopw [36] (fun i wj => ∃ (j : Nat) (cs'' : Nat → Value) (Q'' : Nat → List MMsg), j ≤ tn ∧ i = .int .i64 j ∧ MidE X w base p z cs C (fun x => (Q x).length + 3 * k + j) F'.tail cs'' Q'' wj ∧ BoxG wj N1 m ∧ BoxF wj w2.heap.size tn dn ∧ (¬ Spine p cs'' N1 ∧ ¬ Spine p cs'' w2.heap.size) ∧ pq Q'' = pushN (pq Q') (2 + dn) j m.pure) (fun i _ => tn - (intOf i).toNat)
          case atStart => exact ⟨0, cs2, Q', Nat.zero_le _, rfl, (HMf.out _ (by repeat (first | exact Below.refl _ _ | refine belA ?_ _ | refine Below.drew ?_))).more (fun x => by omega), HXf.out _ (by repeat (first | exact Below.refl _ _ | refine belA ?_ _ | refine Below.drew ?_)), HFf.out _ (by repeat (first | exact Below.refl _ _ | refine belA ?_ _ | refine Below.drew ?_)), ⟨hN2.out, hNF.out⟩, (pushN_zero _ _ _).symm⟩
          case round =>
            obtain ⟨j, cs3, Q3, hj, rfl, hMj, hXj, hFj, hNj, hEj⟩ := hrel
            have HMj := hide hMj
            have HXj := hide hXj
            have HFj := hide hFj
            have HNj := hide hNj
            have HEj := hide hEj
            obtain ⟨r0, r1, r2, r3, r4, r5, r6, r7, r8, r9, r10, r11, r12, r13⟩ := hXj.x
            obtain ⟨q0, q1, -⟩ := hFj
            clear hMj hXj hNj hEj
            by_cases hjt : j < tn
            · have HOk := hide (((HDm.out.lies HMj.out.kp (fun _ h => h)).more (Y := fun _ => False) (fun k hk => hk.elim)).keep (Below.refl _ wr).drew)
              have hb3 : (Q3 (2 + dn)).length ≤ 900000 := by have h1 := HMj.out.le (2 + dn); have h2 := HB.out (2 + dn); omega
              go_wp2_with fail
              go_region_with (first
                | (go_at_call 25; go_must (refine (copyM_any m _ HOk.out HSm.out.se HSm.out.sd HSm.out.sm HSm.out.ss).mono ?_); rintro e w6 ⟨m6, rfl, hpm6, hok6, hb6⟩; (have hb6 := below_undrew hb6); have HPm6 := hide hpm6; have HM6 := hide (HMj.out.below hb6); have HX6 := hide (HXj.out.keep hb6); have HF6 := hide (HFj.out.keep hb6); have HOk6 := hide (hok6.more (Y := Spine p cs3) (fun k hk => .inl (Spine.lt HMj.out.is hk).2)); have HOe6 := hide (hok6.more (Y := fun k => X k ∨ Spine p cs3 k) (fun k hk => .inl (hk.elim (fun h => Nat.lt_of_lt_of_le (HX.out k h) HMj.out.kp.size) (fun h => (Spine.lt HMj.out.is h).2)))); obtain ⟨u0, u1, -⟩ := HF6.out; clear hpm6 hok6 hb6)
                | (go_at_call 24; go_must (refine (hold_any base p z cs3 F'.tail C Q3 m6 dn hd100 _ HM6.out.is HOk6.out (by omega)).mono ?_); rintro e w7 ⟨rfl, hp7⟩; obtain ⟨cs7, hm7, hk7, hs7⟩ := HM6.out.next (N' := fun x => (Q x).length + 3 * k + (j + 1)) hp7 (fun x => Nat.le_trans (length_upd_le HM6.out.le x) (by omega)) (fun x y _ _ h => (mem_upd h).imp id (fun e => by rw [e]; exact HOe6.out)); have HM7 := hide hm7; have HX7 := hide (HX6.out.lies hk7 HNj.out.1); have HF7 := hide (HF6.out.lies hk7 HNj.out.2); have HN7 : Hid (¬ Spine p cs7 N1 ∧ ¬ Spine p cs7 w2.heap.size) := ⟨fun h => by rcases hs7 _ h with h1 | h1; exact HNj.out.1 h1; (have := HX6.out.lt; omega), fun h => by rcases hs7 _ h with h1 | h1; exact HNj.out.2 h1; (have := HF6.out.2.2; omega)⟩; clear hp7 hm7 hk7 hs7))
              all_goals
                go_wp2
                go_roundw
                case rel =>
                  refine ⟨j + 1, cs7, _, by omega, by go_num, HM7.out, HX7.out, HF7.out, HN7.out, ?_⟩
                  rw [pq_upd, List.map_append, List.map_singleton, HPm6.out, ← pushN_succ, ← HEj.out]
                  rfl
                case measure => simp [intOf]; omega
            · have hjn : j = tn := by omega
              subst hjn
              go_wp2
              go_roundg (len - (k + 1))
              case measure => omega
              case rel =>
                refine ⟨k + 1, F'.tail, cs3, Q3, rfl, by omega, by go_num, HMj.out.more (fun x => by omega), ?_⟩
                rw [HTk.out, List.map_append, List.map_singleton, sendL_snoc, ← HE.out]
                unfold send1
                have h1 : C (min m.pure.fr m.pure.tt) (max m.pure.fr m.pure.tt) = false := HCb.out
                rw [HEj.out]
                simp only [h1, HTn.out, HDn.out, Int.toNat_natCast]
                rfl
    · have hkn : k = len := by omega
      subst hkn
      go_wp2
      go_end0
      have ht : ms.take k = ms := List.take_of_length_le (by rw [HL.out]; exact Nat.le_refl _)
      have hE := HE.out
      rw [ht] at hE
      refine ⟨rfl, cs', Q', ?_, ?_⟩
      · rw [← hE]; exact HM.out
      · rw [← hE]

end Go.Proofs.Ytodmieehdleohaa
