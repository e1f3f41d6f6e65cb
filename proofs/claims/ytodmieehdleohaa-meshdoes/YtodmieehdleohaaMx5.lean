/- The reference's mesh: Send, the other cases, and whole. -/
import Derived.Test.YtodmieehdleohaaMx4
namespace Go.Proofs.Ytodmieehdleohaa
open Go.RowKit NumMath Go.ChangeShapes Go.WideShapes Go.Deep
set_option linter.unusedVariables false
set_option maxRecDepth 100000

set_option maxHeartbeats 20000000 in
theorem xsend_a100 (base q : Nat) (fa : Option Addr) (fl fc s now : Nat) (kv wv : Value) (K : List (Int × Int)) (L : List (MMsg × Int)) (F : List (Int × Int)) (m : MMsg) (g0 : Nat) (t d : Int) (hFd : F.getD s (1, 0) = (t, d)) (hsf : s < fl) (hd : 100 < d) (w : World) (h : IsX w base q fa fl fc s now kv wv K L) (hbase : base ≤ w.heap.size) (hF : IsF w fa fl fc F) (hfo : ∀ g off, fa = some ⟨g, off, none⟩ → ¬ g = q) (hfl : fl ≤ 100000) (hg0 : CellG w g0 0 m) (hL : L.length ≤ 100000) (hs : s ≤ 100000) (hnow : now ≤ 100000) (n : Nat) (hn : n = timesX t (isCutK K m.fr m.tt)) :
    Calls Try.prog 10 #[.pointer (some ⟨q, 0, none⟩), .slice (some ⟨g0, 0, none⟩) 1 1] w fun e w' => e = .returned (.tuple #[]) ∧ ∃ kv' wv', MidX w base q fa fl fc kv wv (s + 1) now kv' wv' K (L ++ List.replicate n (m, (now : Int) + 100)) w' := by
  have H0 : Hid (MidX w base q fa fl fc kv wv s now kv wv K L w) := ⟨h, kpSelf _ _, fun k hk => .inl hk⟩
  have HG := hide hg0
  have hql := h.qb.2
  have q0 := h.c0
  have q1 := h.c1
  have q2 := h.c2
  have f1 := h.fz 1
  have HFi := hide hF
  have HGq := hide hfo
  have HNn := hide hn
  have hne : ¬ w.heap.size = q := by omega
  have hne2 : ¬ q = w.heap.size := by omega
  have hne3 : ¬ w.heap.size + 1 = q := by omega
  have hne4 : ¬ q = w.heap.size + 1 := by omega
  have hflI : (fl : Int) ≤ 9223372036854775807 := by omega
  clear h hg0 hF hfo hn
  go_enter Try.func10, Try.ntmps10
  go_wp2
  go_loopw [11] (fun i wr => (i = .int .i64 0 ∧ wr = w) ∨ (i = .int .i64 1 ∧ ∃ kv' wv', MidX w base q fa fl fc kv wv (s + 1) now kv' wv' K (L ++ List.replicate n (m, (now : Int) + 100)) wr)) (fun i _ => 1 - (intOf i).toNat)
  case atStart => exact .inl ⟨rfl, rfl⟩
  case round =>
    rcases hrel with ⟨rfl, rfl⟩ | ⟨rfl, hb⟩
    · go_wp2_with (first
        | (refine wp_loadG _ rfl (.tmp 13) rfl g0 0 m rfl HG.out ?_)
        | (refine wp_storeN wr rfl (.tmp 5) (.tmp 14) rfl wr.heap.size rfl m rfl rfl ?_))
      obtain ⟨gf, off, hfa, hgf, z0, z1⟩ := isF_at HFi.out s hsf
      rw [hFd] at z0 z1
      dsimp only at z0 z1
      subst hfa
      have hgq : ¬ gf = q := HGq.out gf off rfl
      have hgq2 : ¬ q = gf := fun e => hgq e.symm
      have hgf1 : ¬ gf = wr.heap.size := by omega
      have hgf2 : ¬ gf = wr.heap.size + 1 := by omega
      have hsI : (s : Int) < (fl : Int) := by omega
      go_region
      all_goals
        go_wp2_with fail
        go_region
      all_goals
        go_wp2
        have hset : IsX (wr.setCell ⟨q, 1, none⟩ (.int .i64 ((s : Int) + 1))) base q (some ⟨gf, off, none⟩) fl fc (s + 1) now kv wv K L := by have := H0.out.is.set1 (s + 1); simpa using this
        have hmid : MidX wr base q (some ⟨gf, off, none⟩) fl fc kv wv (s + 1) now kv wv K L (wr.setCell ⟨q, 1, none⟩ (.int .i64 ((s : Int) + 1))) := ⟨hset, kpSet (kpSelf _ _) (.inl (.inl rfl)) _, fun k hk => .inl hk⟩
        have hnx : ∀ k, wr.heap.size ≤ k → ¬ XB q kv wv k := fun k hk hx => by have := (H0.out.is.lt hx).2; omega
        obtain ⟨W2, hW2⟩ : ∃ W2, W2 = (((wr.setCell ⟨q, 1, none⟩ (.int .i64 ((s : Int) + 1))).alloc (.cells #[.int .i64 m.k, .int .u64 m.fr, .int .u64 m.tt, .int .u64 m.tm, .int .u64 m.ix, .int .u64 m.lt, .int .u64 m.cm, .int .u64 m.hn, .bool m.rj, .slice m.ea m.en m.ec, .int .u64 m.si, .int .u64 m.st, .slice m.ma m.mn m.mc, .slice m.sa m.sn m.sc] 39)).alloc (.cells #[.int .i64 t, .int .i64 d] 56)).drew.drew := ⟨_, rfl⟩
        have hbw : Below (wr.setCell ⟨q, 1, none⟩ (.int .i64 ((s : Int) + 1))).heap.size (wr.setCell ⟨q, 1, none⟩ (.int .i64 ((s : Int) + 1))) W2 := by rw [hW2]; exact (by repeat (first | exact Below.refl _ _ | refine belA ?_ _ | refine Below.drew ?_))
        have HM2 := hide (hmid.below hbw)
        have HX2 : Hid (BoxG W2 wr.heap.size m) := by show BoxG W2 _ _; rw [hW2]; exact ((boxG_new (wr.setCell ⟨q, 1, none⟩ (.int .i64 ((s : Int) + 1))) m wr.heap.size 39 (by simp [World.setCell])).keep (new_below _ (.cells #[.int .i64 t, .int .i64 d] 56))).keep (by repeat (first | exact Below.refl _ _ | refine belA ?_ _ | refine Below.drew ?_))
        have HF2 : Hid (BoxF W2 (wr.heap.size + 1) t d) := by show BoxF W2 _ _ _; rw [hW2]; exact (boxF_new ((wr.setCell ⟨q, 1, none⟩ (.int .i64 ((s : Int) + 1))).alloc (.cells #[.int .i64 m.k, .int .u64 m.fr, .int .u64 m.tt, .int .u64 m.tm, .int .u64 m.ix, .int .u64 m.lt, .int .u64 m.cm, .int .u64 m.hn, .bool m.rj, .slice m.ea m.en m.ec, .int .u64 m.si, .int .u64 m.st, .slice m.ma m.mn m.mc, .slice m.sa m.sn m.sc] 39)) t d (wr.heap.size + 1) (by rw [World.size_alloc]; simp [World.setCell])).keep (by repeat (first | exact Below.refl _ _ | refine belA ?_ _ | refine Below.drew ?_))
        have HN2 : Hid (¬ XB q kv wv wr.heap.size ∧ ¬ XB q kv wv (wr.heap.size + 1)) := ⟨hnx _ (Nat.le_refl _), hnx _ (Nat.le_succ _)⟩
        rw [← hW2]
        clear hset hmid hnx hbw hW2 q0 q1 q2 f1 hne hne2 hne3 hne4 HG H0 z0 z1 hgq hgq2 hgf1 hgf2
        have hbo := hbase
        obtain ⟨N1, hN1⟩ : ∃ N1, N1 = wr.heap.size := ⟨_, rfl⟩
        rw [← hN1] at HX2 HF2 HN2 hbo ⊢
        clear hN1
        obtain ⟨wo, hwo⟩ : ∃ wo, wo = wr := ⟨_, rfl⟩
        subst hwo
        go_loopw [8] (fun i wj => ∃ (j : Nat) (kv' wv' : Value), j ≤ n ∧ i = .int .i64 j ∧ MidX wo base q (some ⟨gf, off, none⟩) fl fc kv wv (s + 1) now kv' wv' K (L ++ List.replicate j (m, (now : Int) + 100)) wj ∧ BoxG wj N1 m ∧ BoxF wj (N1 + 1) t d ∧ ¬ XB q kv' wv' N1 ∧ ¬ XB q kv' wv' (N1 + 1)) (fun i _ => n - (intOf i).toNat)
        case atStart => exact ⟨0, kv, wv, Nat.zero_le _, rfl, by simpa using HM2.out, HX2.out, HF2.out, HN2.out⟩
        case round =>
          obtain ⟨j, kv3, wv3, hj, rfl, hMj, hXj, hFj, hN3⟩ := hrel
          have HMj := hide hMj
          have HXj := hide hXj
          have HFj := hide hFj
          have HN3 := hide hN3
          obtain ⟨g0', -, -⟩ := hFj
          obtain ⟨-, x1, x2, -⟩ := hXj.x
          clear hMj hXj hN3 HM2 HX2 HF2 HN2
          obtain ⟨cb, hcb⟩ : ∃ cb, isCutK K m.fr m.tt = cb := ⟨_, rfl⟩
          have hnn := HNn.out
          rw [hcb] at hnn
          by_cases h1 : (j : Int) < t
          · have h1d : decide ((j : Int) < t) = true := decide_eq_true h1
            by_cases h2 : (j : Int) < 3
            · have h2n : j < 3 := by omega
              have h2d : decide ((j : Int) < 3) = true := decide_eq_true h2
              have h2e : decide (j < 3) = true := decide_eq_true h2n
              have HCt := hide (isCut_any base q (some ⟨gf, off, none⟩) fl fc (s + 1) now kv3 wv3 K _ m.fr m.tt wr HMj.out.is)
              rw [hcb] at HCt
              cases cb
              · have hjn : Hid (j < n) := by show j < n; rw [hnn]; unfold timesX clampF; simp only [Bool.false_eq_true, if_false]; (repeat' split) <;> omega
                clear hnn hcb
                go_wp2_with (first
                  | (go_at_call 26; go_must (refine HCt.out.mono ?_); rintro e w3 ⟨rfl, hb3⟩; have HM3 := hide (HMj.out.below hb3); have HX3 := hide (HXj.out.keep hb3); have HF3 := hide (HFj.out.keep hb3); clear hb3))
                obtain ⟨r0, r1, r2, r3, r4, r5, r6, r7, r8, r9, r10, r11, r12, r13⟩ := HX3.out.x
                have k4 := HM3.out.is.c4
                have k2 := HM3.out.is.c2
                have kf := HM3.out.is.fz 4
                have hq3 := HM3.out.is.qb.2
                have hq3n : ¬ w3.heap.size = q := by omega
                have hq3m : ¬ q = w3.heap.size := by omega
                have HWs := hide HM3.out.is.ws
                have HWq : Hid (¬ wv3.ownBlock = some q) := fun e => (HM3.out.is.wb q e).2 rfl
                obtain ⟨a4, n4, d4, rfl⟩ := HWs.out.any
                have hws : IntKind.i64.wrap ((now : Int) + 100) = (now : Int) + 100 := kwI _ (by omega) (by omega)
                have hLj : Hid ((L ++ List.replicate j (m, (now : Int) + 100)).length ≤ 200000) := by show List.length _ ≤ 200000; simp; omega
                have hbs : base ≤ w3.heap.size := Nat.le_trans HM3.out.is.qb.1 (Nat.le_of_lt hq3)
                go_region_law (first
                  | (refine step_segW _ (by rfl) (.tmp 72) (.tmp 81) (by rfl) (.slice a4 n4 d4) _ _ (by rfl) (HWs.out.keep (by repeat (first | exact Below.refl _ _ | refine belA ?_ _ | refine Below.drew ?_))) rfl (some ⟨w3.heap.size, 0, none⟩) 1 1 [(m, (now : Int) + 100)] (by rfl) rfl (.inr ⟨_, rfl, cellsW_made _ m ((now : Int) + 100) _ _ (by simp)⟩) (by have := hLj.out; simp at this ⊢; omega) ?_; intro v5 w5 hs5 hk5 hat5; obtain ⟨a5, n5, d5, rfl⟩ := hs5.any; have HP := hide (pushX (w := w3) (by repeat (first | exact Below.refl _ _ | refine belA ?_ _ | refine Below.drew ?_)) ((HM3.out.is.keep (by repeat (first | exact Below.refl _ _ | refine belA ?_ _ | refine Below.drew ?_))).putW (by simp; omega) hk5 _ _ hs5 hat5)); have e5 := (show w5.heap[q]? = w3.heap[q]? from (hk5.block q (by simp; omega) HWq.out).trans (Below.block (B := w3.heap.size) (by repeat (first | exact Below.refl _ _ | refine belA ?_ _ | refine Below.drew ?_)) q hq3)); have c45 := (World.cell?_of_block (a := ⟨q, 4, none⟩) e5).trans k4; have f45 := (World.frozen?_of_block (a := ⟨q, 4, none⟩) e5).trans kf; clear hs5 hk5 hat5 e5))
                all_goals
                  obtain ⟨kv6, wv6, hm6, hk6, hs6⟩ := HM3.out.next HP.out
                  have HM6 := hide hm6
                  have HX6 := hide (HX3.out.lies hk6 HN3.out.1)
                  have HF6 := hide (HF3.out.lies hk6 HN3.out.2)
                  have HN6 : Hid (¬ XB q kv6 wv6 N1 ∧ ¬ XB q kv6 wv6 (N1 + 1)) := ⟨fun h => by rcases hs6 _ h with h1 | h1; exact HN3.out.1 h1; (have := HX3.out.lt; omega), fun h => by rcases hs6 _ h with h1 | h1; exact HN3.out.2 h1; (have := HF3.out.2.2; omega)⟩
                  clear hm6 hk6 hs6
                  go_wp2
                  go_roundw
                  case rel => exact ⟨j + 1, kv6, wv6, hjn.out, by go_num, by rw [List.replicate_succ', ← List.append_assoc]; exact HM6.out.below (by repeat (first | exact Below.refl _ _ | refine belA ?_ _ | refine Below.drew ?_)), HX6.out.keep (by repeat (first | exact Below.refl _ _ | refine belA ?_ _ | refine Below.drew ?_)), HF6.out.keep (by repeat (first | exact Below.refl _ _ | refine belA ?_ _ | refine Below.drew ?_)), HN6.out⟩
                  case measure => have := hjn.out; simp [intOf]; omega
              · have hjn : Hid (j = n) := by show j = n; rw [hnn] at hj ⊢; unfold timesX at *; simp at *; omega
                clear hnn hcb
                go_wp2_with (first
                  | (go_at_call 26; go_must (refine HCt.out.mono ?_); rintro e w3 ⟨rfl, hb3⟩; have HM3 := hide (HMj.out.below hb3); clear hb3))
                go_roundw
                case rel => exact .inr ⟨rfl, kv3, wv3, by rw [← hjn.out]; exact HM3.out⟩
                case measure => simp [intOf]
            · have h2n : ¬ j < 3 := by omega
              have h2d : decide ((j : Int) < 3) = false := decide_eq_false h2
              have h2e : decide (j < 3) = false := decide_eq_false h2n
              have hjn : Hid (j = n) := by
                have : n ≤ 3 := by rw [hnn]; unfold timesX clampF; (repeat' split) <;> omega
                show j = n
                omega
              clear hnn hcb
              go_wp2
              go_roundw
              case rel => exact .inr ⟨rfl, kv3, wv3, by rw [← hjn.out]; exact HMj.out⟩
              case measure => simp [intOf]
          · have h1d : decide ((j : Int) < t) = false := decide_eq_false h1
            have hjn : Hid (j = n) := by
              have : (n : Int) ≤ max (t) 0 := by rw [hnn]; unfold timesX clampF; (repeat' split) <;> omega
              show j = n
              omega
            clear hnn hcb
            go_wp2
            go_roundw
            case rel => exact .inr ⟨rfl, kv3, wv3, by rw [← hjn.out]; exact HMj.out⟩
            case measure => simp [intOf]
    · go_wp2
      go_end0
      exact ⟨rfl, hb⟩

set_option maxHeartbeats 20000000 in
theorem xsend_b (base q : Nat) (fa : Option Addr) (fl fc s now : Nat) (kv wv : Value) (K : List (Int × Int)) (L : List (MMsg × Int)) (F : List (Int × Int)) (m : MMsg) (g0 : Nat) (hsf : ¬ s < fl) (w : World) (h : IsX w base q fa fl fc s now kv wv K L) (hbase : base ≤ w.heap.size) (hF : IsF w fa fl fc F) (hfl : fl ≤ 100000) (hg0 : CellG w g0 0 m) (hL : L.length ≤ 100000) (hs : s ≤ 100000) (hnow : now ≤ 100000) (n : Nat) (hn : n = timesX 1 (isCutK K m.fr m.tt)) :
    Calls Try.prog 10 #[.pointer (some ⟨q, 0, none⟩), .slice (some ⟨g0, 0, none⟩) 1 1] w fun e w' => e = .returned (.tuple #[]) ∧ ∃ kv' wv', MidX w base q fa fl fc kv wv (s + 1) now kv' wv' K (L ++ List.replicate n (m, (now : Int))) w' := by
  have H0 : Hid (MidX w base q fa fl fc kv wv s now kv wv K L w) := ⟨h, kpSelf _ _, fun k hk => .inl hk⟩
  have HG := hide hg0
  have hql := h.qb.2
  have q0 := h.c0
  have q1 := h.c1
  have q2 := h.c2
  have f1 := h.fz 1
  have HFi := hide hF
  have HNn := hide hn
  have hne : ¬ w.heap.size = q := by omega
  have hne2 : ¬ q = w.heap.size := by omega
  have hne3 : ¬ w.heap.size + 1 = q := by omega
  have hne4 : ¬ q = w.heap.size + 1 := by omega
  have hflI : (fl : Int) ≤ 9223372036854775807 := by omega
  clear h hg0 hF hn
  go_enter Try.func10, Try.ntmps10
  go_wp2
  go_loopw [11] (fun i wr => (i = .int .i64 0 ∧ wr = w) ∨ (i = .int .i64 1 ∧ ∃ kv' wv', MidX w base q fa fl fc kv wv (s + 1) now kv' wv' K (L ++ List.replicate n (m, (now : Int))) wr)) (fun i _ => 1 - (intOf i).toNat)
  case atStart => exact .inl ⟨rfl, rfl⟩
  case round =>
    rcases hrel with ⟨rfl, rfl⟩ | ⟨rfl, hb⟩
    · go_wp2_with (first
        | (refine wp_loadG _ rfl (.tmp 13) rfl g0 0 m rfl HG.out ?_)
        | (refine wp_storeN wr rfl (.tmp 5) (.tmp 14) rfl wr.heap.size rfl m rfl rfl ?_))
      have hsI : ¬ (s : Int) < (fl : Int) := by omega
      go_region
      all_goals
        go_wp2
        have hset : IsX (wr.setCell ⟨q, 1, none⟩ (.int .i64 ((s : Int) + 1))) base q fa fl fc (s + 1) now kv wv K L := by have := H0.out.is.set1 (s + 1); simpa using this
        have hmid : MidX wr base q fa fl fc kv wv (s + 1) now kv wv K L (wr.setCell ⟨q, 1, none⟩ (.int .i64 ((s : Int) + 1))) := ⟨hset, kpSet (kpSelf _ _) (.inl (.inl rfl)) _, fun k hk => .inl hk⟩
        have hnx : ∀ k, wr.heap.size ≤ k → ¬ XB q kv wv k := fun k hk hx => by have := (H0.out.is.lt hx).2; omega
        obtain ⟨W2, hW2⟩ : ∃ W2, W2 = (((wr.setCell ⟨q, 1, none⟩ (.int .i64 ((s : Int) + 1))).alloc (.cells #[.int .i64 m.k, .int .u64 m.fr, .int .u64 m.tt, .int .u64 m.tm, .int .u64 m.ix, .int .u64 m.lt, .int .u64 m.cm, .int .u64 m.hn, .bool m.rj, .slice m.ea m.en m.ec, .int .u64 m.si, .int .u64 m.st, .slice m.ma m.mn m.mc, .slice m.sa m.sn m.sc] 39)).alloc (.cells #[.int .i64 1, .int .i64 0] 56)).drew := ⟨_, rfl⟩
        have hbw : Below (wr.setCell ⟨q, 1, none⟩ (.int .i64 ((s : Int) + 1))).heap.size (wr.setCell ⟨q, 1, none⟩ (.int .i64 ((s : Int) + 1))) W2 := by rw [hW2]; exact (by repeat (first | exact Below.refl _ _ | refine belA ?_ _ | refine Below.drew ?_))
        have HM2 := hide (hmid.below hbw)
        have HX2 : Hid (BoxG W2 wr.heap.size m) := by show BoxG W2 _ _; rw [hW2]; exact ((boxG_new (wr.setCell ⟨q, 1, none⟩ (.int .i64 ((s : Int) + 1))) m wr.heap.size 39 (by simp [World.setCell])).keep (new_below _ (.cells #[.int .i64 1, .int .i64 0] 56))).keep (by repeat (first | exact Below.refl _ _ | refine belA ?_ _ | refine Below.drew ?_))
        have HF2 : Hid (BoxF W2 (wr.heap.size + 1) 1 0) := by show BoxF W2 _ _ _; rw [hW2]; exact (boxF_new ((wr.setCell ⟨q, 1, none⟩ (.int .i64 ((s : Int) + 1))).alloc (.cells #[.int .i64 m.k, .int .u64 m.fr, .int .u64 m.tt, .int .u64 m.tm, .int .u64 m.ix, .int .u64 m.lt, .int .u64 m.cm, .int .u64 m.hn, .bool m.rj, .slice m.ea m.en m.ec, .int .u64 m.si, .int .u64 m.st, .slice m.ma m.mn m.mc, .slice m.sa m.sn m.sc] 39)) 1 0 (wr.heap.size + 1) (by rw [World.size_alloc]; simp [World.setCell])).keep (by repeat (first | exact Below.refl _ _ | refine belA ?_ _ | refine Below.drew ?_))
        have HN2 : Hid (¬ XB q kv wv wr.heap.size ∧ ¬ XB q kv wv (wr.heap.size + 1)) := ⟨hnx _ (Nat.le_refl _), hnx _ (Nat.le_succ _)⟩
        rw [← hW2]
        clear hset hmid hnx hbw hW2 q0 q1 q2 f1 hne hne2 hne3 hne4 HG H0 
        have hbo := hbase
        obtain ⟨N1, hN1⟩ : ∃ N1, N1 = wr.heap.size := ⟨_, rfl⟩
        rw [← hN1] at HX2 HF2 HN2 hbo ⊢
        clear hN1
        obtain ⟨wo, hwo⟩ : ∃ wo, wo = wr := ⟨_, rfl⟩
        subst hwo
        go_loopw [8] (fun i wj => ∃ (j : Nat) (kv' wv' : Value), j ≤ n ∧ i = .int .i64 j ∧ MidX wo base q fa fl fc kv wv (s + 1) now kv' wv' K (L ++ List.replicate j (m, (now : Int))) wj ∧ BoxG wj N1 m ∧ BoxF wj (N1 + 1) 1 0 ∧ ¬ XB q kv' wv' N1 ∧ ¬ XB q kv' wv' (N1 + 1)) (fun i _ => n - (intOf i).toNat)
        case atStart => exact ⟨0, kv, wv, Nat.zero_le _, rfl, by simpa using HM2.out, HX2.out, HF2.out, HN2.out⟩
        case round =>
          obtain ⟨j, kv3, wv3, hj, rfl, hMj, hXj, hFj, hN3⟩ := hrel
          have HMj := hide hMj
          have HXj := hide hXj
          have HFj := hide hFj
          have HN3 := hide hN3
          obtain ⟨g0', -, -⟩ := hFj
          obtain ⟨-, x1, x2, -⟩ := hXj.x
          clear hMj hXj hN3 HM2 HX2 HF2 HN2
          obtain ⟨cb, hcb⟩ : ∃ cb, isCutK K m.fr m.tt = cb := ⟨_, rfl⟩
          have hnn := HNn.out
          rw [hcb] at hnn
          by_cases h1 : (j : Int) < 1
          · have h1d : decide ((j : Int) < 1) = true := decide_eq_true h1
            by_cases h2 : (j : Int) < 3
            · have h2n : j < 3 := by omega
              have h2d : decide ((j : Int) < 3) = true := decide_eq_true h2
              have h2e : decide (j < 3) = true := decide_eq_true h2n
              have HCt := hide (isCut_any base q fa fl fc (s + 1) now kv3 wv3 K _ m.fr m.tt wr HMj.out.is)
              rw [hcb] at HCt
              cases cb
              · have hjn : Hid (j < n) := by show j < n; rw [hnn]; unfold timesX clampF; simp only [Bool.false_eq_true, if_false]; (repeat' split) <;> omega
                clear hnn hcb
                go_wp2_with (first
                  | (go_at_call 26; go_must (refine HCt.out.mono ?_); rintro e w3 ⟨rfl, hb3⟩; have HM3 := hide (HMj.out.below hb3); have HX3 := hide (HXj.out.keep hb3); have HF3 := hide (HFj.out.keep hb3); clear hb3))
                obtain ⟨r0, r1, r2, r3, r4, r5, r6, r7, r8, r9, r10, r11, r12, r13⟩ := HX3.out.x
                have k4 := HM3.out.is.c4
                have k2 := HM3.out.is.c2
                have kf := HM3.out.is.fz 4
                have hq3 := HM3.out.is.qb.2
                have hq3n : ¬ w3.heap.size = q := by omega
                have hq3m : ¬ q = w3.heap.size := by omega
                have HWs := hide HM3.out.is.ws
                have HWq : Hid (¬ wv3.ownBlock = some q) := fun e => (HM3.out.is.wb q e).2 rfl
                obtain ⟨a4, n4, d4, rfl⟩ := HWs.out.any
                have hws : IntKind.i64.wrap ((now : Int)) = (now : Int) := kwI _ (by omega) (by omega)
                have hLj : Hid ((L ++ List.replicate j (m, (now : Int))).length ≤ 200000) := by show List.length _ ≤ 200000; simp; omega
                have hbs : base ≤ w3.heap.size := Nat.le_trans HM3.out.is.qb.1 (Nat.le_of_lt hq3)
                go_region_law (first
                  | (refine step_segW _ (by rfl) (.tmp 72) (.tmp 81) (by rfl) (.slice a4 n4 d4) _ _ (by rfl) (HWs.out.keep (by repeat (first | exact Below.refl _ _ | refine belA ?_ _ | refine Below.drew ?_))) rfl (some ⟨w3.heap.size, 0, none⟩) 1 1 [(m, (now : Int))] (by rfl) rfl (.inr ⟨_, rfl, cellsW_made _ m ((now : Int)) _ _ (by simp)⟩) (by have := hLj.out; simp at this ⊢; omega) ?_; intro v5 w5 hs5 hk5 hat5; obtain ⟨a5, n5, d5, rfl⟩ := hs5.any; have HP := hide (pushX (w := w3) (by repeat (first | exact Below.refl _ _ | refine belA ?_ _ | refine Below.drew ?_)) ((HM3.out.is.keep (by repeat (first | exact Below.refl _ _ | refine belA ?_ _ | refine Below.drew ?_))).putW (by simp; omega) hk5 _ _ hs5 hat5)); have e5 := (show w5.heap[q]? = w3.heap[q]? from (hk5.block q (by simp; omega) HWq.out).trans (Below.block (B := w3.heap.size) (by repeat (first | exact Below.refl _ _ | refine belA ?_ _ | refine Below.drew ?_)) q hq3)); have c45 := (World.cell?_of_block (a := ⟨q, 4, none⟩) e5).trans k4; have f45 := (World.frozen?_of_block (a := ⟨q, 4, none⟩) e5).trans kf; clear hs5 hk5 hat5 e5))
                all_goals
                  obtain ⟨kv6, wv6, hm6, hk6, hs6⟩ := HM3.out.next HP.out
                  have HM6 := hide hm6
                  have HX6 := hide (HX3.out.lies hk6 HN3.out.1)
                  have HF6 := hide (HF3.out.lies hk6 HN3.out.2)
                  have HN6 : Hid (¬ XB q kv6 wv6 N1 ∧ ¬ XB q kv6 wv6 (N1 + 1)) := ⟨fun h => by rcases hs6 _ h with h1 | h1; exact HN3.out.1 h1; (have := HX3.out.lt; omega), fun h => by rcases hs6 _ h with h1 | h1; exact HN3.out.2 h1; (have := HF3.out.2.2; omega)⟩
                  clear hm6 hk6 hs6
                  go_wp2
                  go_roundw
                  case rel => exact ⟨j + 1, kv6, wv6, hjn.out, by go_num, by rw [List.replicate_succ', ← List.append_assoc]; exact HM6.out.below (by repeat (first | exact Below.refl _ _ | refine belA ?_ _ | refine Below.drew ?_)), HX6.out.keep (by repeat (first | exact Below.refl _ _ | refine belA ?_ _ | refine Below.drew ?_)), HF6.out.keep (by repeat (first | exact Below.refl _ _ | refine belA ?_ _ | refine Below.drew ?_)), HN6.out⟩
                  case measure => have := hjn.out; simp [intOf]; omega
              · have hjn : Hid (j = n) := by show j = n; rw [hnn] at hj ⊢; unfold timesX at *; simp at *; omega
                clear hnn hcb
                go_wp2_with (first
                  | (go_at_call 26; go_must (refine HCt.out.mono ?_); rintro e w3 ⟨rfl, hb3⟩; have HM3 := hide (HMj.out.below hb3); clear hb3))
                go_roundw
                case rel => exact .inr ⟨rfl, kv3, wv3, by rw [← hjn.out]; exact HM3.out⟩
                case measure => simp [intOf]
            · exfalso; omega
          · have h1d : decide ((j : Int) < 1) = false := decide_eq_false h1
            have h1n : ¬ j < 1 := by omega
            have h1e : decide (j < 1) = false := decide_eq_false h1n
            have h1m : ¬ j = 0 := by omega
            have h1g : decide (j = 0) = false := decide_eq_false h1m
            have h1k : (j == 0) = false := by simpa using h1m
            have hjn : Hid (j = n) := by
              have : (n : Int) ≤ max (1) 0 := by rw [hnn]; unfold timesX clampF; (repeat' split) <;> omega
              show j = n
              omega
            clear hnn hcb
            go_wp2
            go_roundw
            case rel => exact .inr ⟨rfl, kv3, wv3, by rw [← hjn.out]; exact HMj.out⟩
            case measure => simp [intOf]
    · go_wp2
      go_end0
      exact ⟨rfl, hb⟩

theorem xsend_any (base q : Nat) (fa : Option Addr) (fl fc s now : Nat) (kv wv : Value) (K : List (Int × Int)) (L : List (MMsg × Int)) (F : List (Int × Int)) (m : MMsg) (g0 : Nat) (w : World) (h : IsX w base q fa fl fc s now kv wv K L) (hbase : base ≤ w.heap.size) (hF : IsF w fa fl fc F) (hfo : 0 < fl → ∀ g off, fa = some ⟨g, off, none⟩ → ¬ g = q) (hfl : fl ≤ 100000) (hg0 : CellG w g0 0 m) (hL : L.length ≤ 100000) (hs : s ≤ 100000) (hnow : now ≤ 100000) :
    Calls Try.prog 10 #[.pointer (some ⟨q, 0, none⟩), .slice (some ⟨g0, 0, none⟩) 1 1] w fun e w' => e = .returned (.tuple #[]) ∧ ∃ kv' wv', MidX w base q fa fl fc kv wv (s + 1) now kv' wv' K (L ++ List.replicate (timesX (F.getD s (1, 0)).1 (isCutK K m.fr m.tt)) (m, (now : Int) + clampF (F.getD s (1, 0)).2 100)) w' := by
  by_cases hsf : s < fl
  · obtain ⟨t, d, htd⟩ : ∃ t d, F.getD s (1, 0) = (t, d) := ⟨_, _, rfl⟩
    rw [htd]
    dsimp only
    by_cases hd : d < 0
    · have e : clampF d 100 = 0 := by unfold clampF; rw [if_pos hd]
      rw [e, Int.add_zero]
      exact xsend_a0 base q fa fl fc s now kv wv K L F m g0 t d htd hsf hd w h hbase hF (hfo (by omega)) hfl hg0 hL hs hnow _ rfl
    · by_cases hd2 : 100 < d
      · have e : clampF d 100 = 100 := by unfold clampF; rw [if_neg hd, if_pos hd2]
        rw [e]
        exact xsend_a100 base q fa fl fc s now kv wv K L F m g0 t d htd hsf hd2 w h hbase hF (hfo (by omega)) hfl hg0 hL hs hnow _ rfl
      · have e : clampF d 100 = d := by unfold clampF; rw [if_neg hd, if_neg hd2]
        rw [e]
        exact xsend_ad base q fa fl fc s now kv wv K L F m g0 t d htd hsf hd hd2 w h hbase hF (hfo (by omega)) hfl hg0 hL hs hnow _ rfl
  · have htd : F.getD s (1, 0) = (1, 0) := by
      have := hF.1
      simp [List.getD, List.getElem?_eq_none (by omega : F.length ≤ s)]
    rw [htd]
    dsimp only
    have e : clampF 0 100 = 0 := by decide
    rw [e, Int.add_zero]
    exact xsend_b base q fa fl fc s now kv wv K L F m g0 hsf w h hbase hF hfl hg0 hL hs hnow _ rfl

end Go.Proofs.Ytodmieehdleohaa
