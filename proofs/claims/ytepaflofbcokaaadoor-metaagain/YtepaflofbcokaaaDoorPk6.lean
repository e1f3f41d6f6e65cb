/- The program's table: without, leave, Free, hold: what they do. -/
import Derived.Test.YtepaflofbcokaaaDoorPk5
namespace Go.Proofs.YtepaflofbcokaaaDoor
open Go.RowKit NumMath Go.ChangeShapes Go.WideShapes Go.Deep
set_option linter.unusedVariables false
set_option maxRecDepth 100000

set_option maxHeartbeats 1000000 in
theorem without_any (base : Nat) (a : Option Addr) (n c : Nat) (xs : List ML) (tx : Int) (w : World) (h : OwnY layK w base (.slice a n c) xs) :
    Calls Tryd.prog 48 #[.slice a n c, .int .u64 tx] w fun e w' => DelP base w a n c xs tx e w' := by
  have hb := new_below w (.cells #[.int .u64 tx] 28)
  have HD := hide (delK_any base a n c xs tx w.heap.size _ (h.keep hb) (show (w.alloc (.cells #[.int .u64 tx] 28)).cell? ⟨w.heap.size, 0, none⟩ = some (.int .u64 tx) by simp) (by simp) (fun e => by have := (h.lt _ e).2; omega))
  have HB := hide hb
  clear h hb
  go_enter Tryd.func48, Tryd.ntmps48
  go_wp2_with (first
    | (go_at_call 64; go_must (refine HD.out.mono ?_); rintro e w2 ⟨n', rfl, ho, hk⟩; have HO := hide ho; have HK := hide hk; clear ho hk))
  go_ret
  exact ⟨n', rfl, HO.out, kpThen (Below.keeps HB.out _) (fun k hk => .inl hk) HK.out⟩

/-- what waits laid anew -/
theorem IsT.relW {G : Nat → Prop} {base : Nat} {w w2 : World} {p : Nat} {hv wv v' : Value} {hs ws l' : List ML} (h : IsT G base w p hv wv hs ws) (hk : Keeps (fun k => wv.ownBlock = some k) w w2) (ho : OwnY layK w2 base v' l') (ha : AtB w wv v') (hf : ∀ m ∈ l', Foot (fun k => Xt p hv v' k ∨ G k) w2 (fun V => m.ok V)) : TPost G base w p hv wv hs l' (w2.setCell ⟨p, 2, none⟩ v') := by
  have hk2 := keepsY_cell (w := w2) (g := p) (i := 2) v'
  have hkT : Keeps (Xt p hv wv) w (w2.setCell ⟨p, 2, none⟩ v') := kpThen (Keeps.wider hk (fun k hk => .inr (.inr hk))) (fun k hk => .inl (.inl hk)) hk2
  have hpb : w2.heap[p]? = w.heap[p]? := hk.block p h.lt h.wp
  have c0 := (World.cell?_of_block (a := ⟨p, 0, none⟩) hpb).trans h.c0
  have c1 := (World.cell?_of_block (a := ⟨p, 1, none⟩) hpb).trans h.c1
  have c2 := (World.cell?_of_block (a := ⟨p, 2, none⟩) hpb).trans h.c2
  have hv'p : v'.ownBlock ≠ some p := by
    intro e
    rcases ha with ha | ⟨g, ha, hg⟩
    · rw [ha] at e; exact h.wp e
    · rw [ha] at e; cases e; have := h.lt; omega
  have hst : ∀ k, Xt p hv v' k → Xt p hv wv k ∨ w.heap.size ≤ k := xt_step (.inl rfl) ha
  refine ⟨hv, v', ⟨?_, ?_, ?_, fun j => ?_, Nat.lt_of_lt_of_le h.lt hkT.size, h.pb, ?_, ?_, h.hp, hv'p, ?_, fun m hm => ?_, h.ft.lies hkT h.zero, h.b0, fun k hk2 => Nat.lt_of_lt_of_le (h.gl k hk2) hkT.size, fun k hk2 hg => ?_⟩, hkT, (.inl rfl), ha⟩
  · rw [cell_offY (by decide)]; exact c0
  · rw [cell_offY (by decide)]; exact c1
  · exact World.cell?_setCell_same' _ _ _ (by rw [c2]; rfl)
  · rw [World.frozen?_setCell]
    exact (World.frozen?_of_block (a := ⟨p, j, none⟩) hpb).trans (h.fz j)
  · exact h.ho.lies (fun g hg => (hk2.block g (Nat.lt_of_lt_of_le (h.ho.lt g hg).2 hk.size) (fun e => h.hp (by rw [← e]; exact hg))).trans (hk.block g (h.ho.lt g hg).2 (fun e => h.hw g hg e)))
  · exact ho.lies (fun g hg => hk2.block g (ho.lt g hg).2 (fun e => hv'p (by rw [← e]; exact hg)))
  · intro g h1 h2
    rcases ha with ha | ⟨g2, ha, hg2⟩
    · rw [ha] at h2; exact h.hw g h1 h2
    · rw [ha] at h2; cases h2; have := (h.ho.lt _ h1).2; omega
  · rcases List.mem_append.1 hm with hm | hm
    · exact (h.kf m (List.mem_append_left _ hm)).step (Keeps.wider hkT (fun k hk => .inl hk)) (fun k hk3 => by
        rcases hk3 with hk3 | hk3
        · rcases hst k hk3 with h1 | h1
          · exact .inl (.inl h1)
          · exact .inr h1
        · exact .inl (.inr hk3))
    · exact (hf m hm).step (Keeps.wider hk2 (fun k (hk : k = p) => .inl (.inl hk))) (fun k hk3 => .inl hk3)
  · rcases hst k hk2 with h1 | h1
    · exact h.gx k h1 hg
    · have := h.gl k hg; omega

/-- what is held laid anew -/
theorem IsT.relH {G : Nat → Prop} {base : Nat} {w w2 : World} {p : Nat} {hv wv v' : Value} {hs ws l' : List ML} (h : IsT G base w p hv wv hs ws) (hk : Keeps (fun k => hv.ownBlock = some k) w w2) (ho : OwnY layK w2 base v' l') (ha : AtB w hv v') (hf : ∀ m ∈ l', Foot (fun k => Xt p v' wv k ∨ G k) w2 (fun V => m.ok V)) : TPost G base w p hv wv l' ws (w2.setCell ⟨p, 1, none⟩ v') := by
  have hk2 := keepsY_cell (w := w2) (g := p) (i := 1) v'
  have hkT : Keeps (Xt p hv wv) w (w2.setCell ⟨p, 1, none⟩ v') := kpThen (Keeps.wider hk (fun k hk => .inr (.inl hk))) (fun k hk => .inl (.inl hk)) hk2
  have hpb : w2.heap[p]? = w.heap[p]? := hk.block p h.lt h.hp
  have c0 := (World.cell?_of_block (a := ⟨p, 0, none⟩) hpb).trans h.c0
  have c1 := (World.cell?_of_block (a := ⟨p, 1, none⟩) hpb).trans h.c1
  have c2 := (World.cell?_of_block (a := ⟨p, 2, none⟩) hpb).trans h.c2
  have hv'p : v'.ownBlock ≠ some p := by
    intro e
    rcases ha with ha | ⟨g, ha, hg⟩
    · rw [ha] at e; exact h.hp e
    · rw [ha] at e; cases e; have := h.lt; omega
  have hst : ∀ k, Xt p v' wv k → Xt p hv wv k ∨ w.heap.size ≤ k := xt_step ha (.inl rfl)
  refine ⟨v', wv, ⟨?_, ?_, ?_, fun j => ?_, Nat.lt_of_lt_of_le h.lt hkT.size, h.pb, ?_, ?_, hv'p, h.wp, ?_, fun m hm => ?_, h.ft.lies hkT h.zero, h.b0, fun k hk2 => Nat.lt_of_lt_of_le (h.gl k hk2) hkT.size, fun k hk2 hg => ?_⟩, hkT, ha, (.inl rfl)⟩
  · rw [cell_offY (by decide)]; exact c0
  · exact World.cell?_setCell_same' _ _ _ (by rw [c1]; rfl)
  · rw [cell_offY (by decide)]; exact c2
  · rw [World.frozen?_setCell]
    exact (World.frozen?_of_block (a := ⟨p, j, none⟩) hpb).trans (h.fz j)
  · exact ho.lies (fun g hg => hk2.block g (ho.lt g hg).2 (fun e => hv'p (by rw [← e]; exact hg)))
  · exact h.wo.lies (fun g hg => (hk2.block g (Nat.lt_of_lt_of_le (h.wo.lt g hg).2 hk.size) (fun e => h.wp (by rw [← e]; exact hg))).trans (hk.block g (h.wo.lt g hg).2 (fun e => h.hw g e hg)))
  · intro g h1 h2
    rcases ha with ha | ⟨g2, ha, hg2⟩
    · rw [ha] at h1; exact h.hw g h1 h2
    · rw [ha] at h1; cases h1; have := (h.wo.lt _ h2).2; omega
  · rcases List.mem_append.1 hm with hm | hm
    · exact (hf m hm).step (Keeps.wider hk2 (fun k (hk : k = p) => .inl (.inl hk))) (fun k hk3 => .inl hk3)
    · exact (h.kf m (List.mem_append_right _ hm)).step (Keeps.wider hkT (fun k hk => .inl hk)) (fun k hk3 => by
        rcases hk3 with hk3 | hk3
        · rcases hst k hk3 with h1 | h1
          · exact .inl (.inl h1)
          · exact .inr h1
        · exact .inl (.inr hk3))
  · rcases hst k hk2 with h1 | h1
    · exact h.gx k h1 hg
    · have := h.gl k hg; omega

theorem atB_cut {w : World} {a : Option Addr} {n n' c : Nat} : AtB w (.slice a n c) (.slice a n' c) := .inl (by cases a <;> rfl)

set_option maxHeartbeats 1000000 in
theorem pleave_any {G : Nat → Prop} {base : Nat} {w : World} {p : Nat} {hv wv : Value} {hs ws : List ML} (h : IsT G base w p hv wv hs ws) (tx : Int) :
    Calls Tryd.prog 49 #[.pointer (some ⟨p, 0, none⟩), .int .u64 tx] w fun e w' => e = .returned (.tuple #[]) ∧ TPost G base w p hv wv hs (ws.filter (fun m => m.l.tx != tx)) w' := by
  obtain ⟨ha, hn, hc, wa, wn, wc, rfl, rfl, hT⟩ := h.read
  have HW := hide (without_any base wa wn wc ws tx w h.wo)
  have H := hide h
  have c2 := hT.c2
  clear h hT
  go_enter Tryd.func49, Tryd.ntmps49
  go_wp2_with (first
    | (go_at_call 48; go_must (refine HW.out.mono ?_); rintro e w2 ⟨n', rfl, ho, hk⟩; have d2 := (World.cell?_of_block (a := ⟨p, 2, none⟩) (hk.block p H.out.lt H.out.wp)).trans H.out.c2; have f2 := (World.frozen?_of_block (a := ⟨p, 2, none⟩) (hk.block p H.out.lt H.out.wp)).trans (H.out.fz 2); have HO := hide ho; have HK := hide hk; clear ho hk))
  go_end0
  refine ⟨rfl, H.out.relW HK.out HO.out atB_cut (fun m hm => ?_)⟩
  exact (H.out.kf m (List.mem_append_right _ (List.mem_filter.1 hm).1)).step (Keeps.wider HK.out (fun k hk => .inl (.inr (.inr hk)))) (fun k hk => .inl (by rcases hk with (hk | hk | hk) | hk; exact .inl (.inl hk); exact .inl (.inr (.inl hk)); exact .inl (.inr (.inr (by rw [← hk]; cases wa <;> rfl))); exact .inr hk))

set_option maxHeartbeats 1000000 in
theorem pfree_any {G : Nat → Prop} {base : Nat} {w : World} {p : Nat} {hv wv : Value} {hs ws : List ML} (h : IsT G base w p hv wv hs ws) (tx : Int) :
    Calls Tryd.prog 31 #[.pointer (some ⟨p, 0, none⟩), .int .u64 tx] w fun e w' => e = .returned (.int .i64 ((hs.length - (hs.filter (fun m => m.l.tx != tx)).length : Nat) : Int)) ∧ TPost G base w p hv wv (hs.filter (fun m => m.l.tx != tx)) (ws.filter (fun m => m.l.tx != tx)) w' := by
  obtain ⟨ha, hn, hc, wa, wn, wc, rfl, rfl, hT⟩ := h.read
  have HW := hide (without_any base ha hn hc hs tx w h.ho)
  have H := hide h
  have c0 := hT.c0
  have c1 := hT.c1
  have HL := hide hT.h.1
  have hm : (hn : Int) ≤ 9223372036854775807 := by have := hT.h.2.1; have := hT.h.2.2.1; unfold maxLen at this; omega
  clear h hT
  go_enter Tryd.func31, Tryd.ntmps31
  go_upto_region 5 with (first
    | (go_at_call 25; go_must (refine (made_any _ p H.out.c0).mono ?_); rintro e w2 ⟨rfl, hw⟩; have hw := hw.symm; subst hw)
    | (go_at_call 48; go_must (refine HW.out.mono ?_); rintro e w2 ⟨n', rfl, ho, hk⟩; have d1 := (World.cell?_of_block (a := ⟨p, 1, none⟩) (hk.block p H.out.lt H.out.hp)).trans H.out.c1; have f1 := (World.frozen?_of_block (a := ⟨p, 1, none⟩) (hk.block p H.out.lt H.out.hp)).trans (H.out.fz 1); have HO := hide ho; have HK := hide hk; clear ho hk))
  have HP3 := hide (H.out.relH HK.out HO.out atB_cut (fun m hm => (H.out.kf m (List.mem_append_left _ (List.mem_filter.1 hm).1)).step (Keeps.wider HK.out (fun k hk => .inl (.inr (.inl hk)))) (fun k hk => .inl (by rcases hk with (hk | hk | hk) | hk; exact .inl (.inl hk); exact .inl (.inr (.inl (by rw [← hk]; cases ha <;> rfl))); exact .inl (.inr (.inr hk)); exact .inr hk))))
  obtain ⟨W3, hW3⟩ : ∃ W, W = w2.setCell ⟨p, 1, none⟩ (.slice ha n' hc) := ⟨_, rfl⟩
  rw [← hW3] at HP3
  rw [← hW3]
  clear hW3 c0 c1 d1 f1
  obtain ⟨hv3, wv3, hI3, hk3, ha3, hb3⟩ := HP3.out
  have HLv := hide (pleave_any hI3 tx)
  have HK3 := hide hk3
  have HA3 := hide ha3
  have HB3 := hide hb3
  have HLn : Hid ((hs.filter (fun m => m.l.tx != tx)).length ≤ hn) := by show _ ≤ _; have := List.length_filter_le (fun m : ML => m.l.tx != tx) hs; have := HL.out; omega
  clear hI3 hk3 ha3 hb3
  go_wp2_with (first
    | (go_at_call 49; go_must (refine HLv.out.mono ?_); rintro e w4 ⟨rfl, hp4⟩; obtain ⟨hv4, wv4, hI4, hk4, ha4, hb4⟩ := hp4; obtain ⟨xa, xn, xc, ya, yn, yc, e1, e2, hT4⟩ := hI4.read; have e1c := hT4.c1; have HX4 := hide hT4.h.1; (have hxn : (xn : Int) ≤ (hn : Int) := (by have := HLn.out; have := hT4.h.1; omega)); have HI4 := hide hI4; have HK4 := hide hk4; have HA4 := hide ha4; have HB4 := hide hb4; clear hI4 hk4 ha4 hb4 hT4 e1 e2))
  go_ret
  refine ⟨?_, TPost.then HK3.out HA3.out HB3.out ⟨hv4, wv4, HI4.out, HK4.out, HA4.out, HB4.out⟩⟩
  have e1 := HL.out
  have e2 := HX4.out
  have e3 := HLn.out
  rw [e1, e2]
  rw [e2] at e3
  congr 2
  go_num

/-- what hold leaves -/
def HoldP (G : Nat → Prop) (base : Nat) (w : World) (p : Nat) (hv wv : Value) (hs ws : List ML) (x : ML) (e : Ending) (w' : World) : Prop :=
  (400 ≤ hs.length ∧ e = .returned (.tuple #[.bool false, .int .i64 132]) ∧ TPost G base w p hv wv hs (ws.filter (fun m => m.l.tx != x.l.tx)) w') ∨
  (hs.length < 400 ∧ e = .returned (.tuple #[.bool true, .int .i64 0]) ∧ ∃ y : ML, y.l = x.l ∧ TPost G base w p hv wv (hs ++ [y]) (ws.filter (fun m => m.l.tx != x.l.tx)) w')

theorem grown_kp {w w' : World} {v : Value} (h : w.grownBy w' v.ownBlock) : Keeps (fun k => v.ownBlock = some k) w w' := ⟨h.os, h.tape, h.output, h.size, fun k hk hn => h.block k hk (fun e => hn e.symm)⟩

theorem at5_of_foot {w : World} {g : Nat} {m : ML} (h : At5 w g 0 m) : w.cell? ⟨g, 0, none⟩ = some (.int .u64 m.l.tx) := h.zero.1

set_option maxHeartbeats 4000000 in
theorem phold_any {G : Nat → Prop} {base : Nat} {w : World} {p : Nat} {hv wv : Value} {hs ws : List ML} (h : IsT G base w p hv wv hs ws) (x : ML) (hx : Foot (Xt p hv wv) w (fun V => x.ok V)) (hln : x.ln ≤ 1000000) (hhn : x.hn ≤ 1000000) :
    Calls Tryd.prog 61 #[.pointer (some ⟨p, 0, none⟩), .agg #[.int .u64 x.l.tx, .int .i64 x.l.lv, .int .i64 x.l.md, .slice x.la x.ln x.lc, .slice x.ha x.hn x.hc]] w fun e w' => HoldP G base w p hv wv hs ws x e w' := by
  obtain ⟨w1, hw1⟩ : ∃ w1, w1 = w.alloc (.cells #[.int .u64 x.l.tx, .int .i64 x.l.lv, .int .i64 x.l.md, .slice x.la x.ln x.lc, .slice x.ha x.hn x.hc] 32) := ⟨_, rfl⟩
  have hb : Below w.heap.size w w1 := by rw [hw1]; exact new_below _ _
  have hs1 : w1.heap.size = w.heap.size + 1 := by rw [hw1]; simp
  have hA1 : At5 w1 w.heap.size 0 x := by rw [hw1]; exact at5_new w x
  have HLv := hide (pleave_any (h.keep hb) x.l.tx)
  have HA1 := hide hA1
  have HX1 := hide (hx.keep hb)
  have HB := hide hb
  have HNx : Hid (∀ k, Xt p hv wv k → k < w.heap.size) := fun k hk => (h.xl k hk).2
  obtain ⟨x0, -, -, -, -⟩ := hA1.zero
  rw [hw1] at x0
  have hs1' := hide hs1
  clear h hx hA1 hb x0
  go_enter Tryd.func61, Tryd.ntmps61
  go_upto_region 2 with (first
    | (go_at_call 49; rw [← hw1]; go_must (refine HLv.out.mono ?_); rintro e w2 ⟨rfl, hp2⟩; have HP2 := hide hp2; clear hp2))
  clear hw1
  obtain ⟨hv2, wv2, hI2, hk2, ha2, hb2⟩ := HP2.out
  obtain ⟨a2, n2, c2, ya, yn, yc, rfl, e2, hT2⟩ := hI2.read
  have d1 := hT2.c1
  have HL := hide hT2.h.1
  have hnb : w.heap.size < w1.heap.size := by omega
  have HXok := hide (HX1.out.step (Y := Xt p hv wv) hk2 (fun k hk => .inl hk))
  have hA2 : At5 w2 w.heap.size 0 x := HA1.out.same (hk2.block _ hnb (fun e => by have := HNx.out _ e; omega))
  have HA2 := hide hA2
  have HNh : Hid ((Value.slice a2 n2 c2).ownBlock ≠ some w.heap.size) := by
    intro e
    rcases ha2 with h1 | ⟨g, h1, hg⟩
    · rw [h1] at e; have := HNx.out _ (.inr (.inl e)); omega
    · rw [h1] at e; cases e; omega
  have HK2 := hide (kpThen (Below.keeps HB.out (Xt p hv wv)) (fun k hk => .inl hk) hk2)
  have HAt2 := hide (atB_then (w := w) (.inl rfl) ha2 HB.out.size)
  have HBt2 := hide (atB_then (w := w) (.inl rfl) hb2 HB.out.size)
  have HI2 := hide hI2
  have hs2 := hk2.size
  clear hI2 hk2 ha2 hb2 hT2 e2 hA2
  by_cases h4 : 400 ≤ n2
  · have h4' : (400 : Int) ≤ (n2 : Int) := by omega
    go_wp2
    go_ret2
    exact .inl ⟨by have := HL.out; omega, rfl, TPost.then HK2.out HAt2.out HBt2.out (TPost.refl HI2.out)⟩
  · have h4' : ¬ (400 : Int) ≤ (n2 : Int) := by omega
    go_upto_region 4 with fail
    have HV : Hid (∀ V, Keeps (fun k => (Value.slice a2 n2 c2).ownBlock = some k) w2.drew V → V.cell? ⟨p, 1, none⟩ = some (.slice a2 n2 c2) ∧ V.cell? ⟨w.heap.size, 0, none⟩ = some (.int .u64 x.l.tx) ∧ V.cell? ⟨w.heap.size, 1, none⟩ = some (.int .i64 x.l.lv) ∧ V.cell? ⟨w.heap.size, 2, none⟩ = some (.int .i64 x.l.md) ∧ V.cell? ⟨w.heap.size, 3, none⟩ = some (.slice x.la x.ln x.lc) ∧ V.cell? ⟨w.heap.size, 4, none⟩ = some (.slice x.ha x.hn x.hc)) := fun V hV =>
      ⟨(World.cell?_of_block (a := ⟨p, 1, none⟩) (hV.block p HI2.out.lt HI2.out.hp)).trans HI2.out.c1, (HA2.out.same (hV.block w.heap.size (by show w.heap.size < w2.heap.size; omega) (fun e => HNh.out e))).zero⟩
    refine startG (fun V => Keeps (fun k => (Value.slice a2 n2 c2).ownBlock = some k) w2.drew V) (fun i => i == 11) (by kernel_rfl) ?_
    refine' takeG (i := 0) (v := _) rfl (by kernel_rfl) (by kernel_rfl) (by kernel_rfl) (by kernel_rfl) (fun _ _ _ h => h) (by rfl) (kpSelf _ _) ?_ ?_; rotate_left
    · (intro V hSV; obtain ⟨t1, x0, x1, x2, x3, x4⟩ := HV.out V hSV; go_simp; all_goals (with_reducible rfl))
    (try simp only [Act.put, List.setIfInBounds_toArray, List.set_cons_zero, List.set_cons_succ])
    refine' takeG (i := 1) (v := _) rfl (by kernel_rfl) (by kernel_rfl) (by kernel_rfl) (by kernel_rfl) (fun _ _ _ h => h) (by rfl) (kpSelf _ _) ?_ ?_; rotate_left
    · (intro V hSV; obtain ⟨t1, x0, x1, x2, x3, x4⟩ := HV.out V hSV; go_simp; all_goals (with_reducible rfl))
    (try simp only [Act.put, List.setIfInBounds_toArray, List.set_cons_zero, List.set_cons_succ])
    refine' takeG (i := 2) (v := _) rfl (by kernel_rfl) (by kernel_rfl) (by kernel_rfl) (by kernel_rfl) (fun _ _ _ h => h) (by rfl) (kpSelf _ _) ?_ ?_; rotate_left
    · (intro V hSV; obtain ⟨t1, x0, x1, x2, x3, x4⟩ := HV.out V hSV; go_simp; all_goals (with_reducible rfl))
    (try simp only [Act.put, List.setIfInBounds_toArray, List.set_cons_zero, List.set_cons_succ])
    refine' takeG (i := 3) (v := _) rfl (by kernel_rfl) (by kernel_rfl) (by kernel_rfl) (by kernel_rfl) (fun _ _ _ h => h) (by rfl) (kpSelf _ _) ?_ ?_; rotate_left
    · (intro V hSV; obtain ⟨t1, x0, x1, x2, x3, x4⟩ := HV.out V hSV; go_simp; all_goals (with_reducible rfl))
    (try simp only [Act.put, List.setIfInBounds_toArray, List.set_cons_zero, List.set_cons_succ])
    refine' takeG (i := 4) (v := _) rfl (by kernel_rfl) (by kernel_rfl) (by kernel_rfl) (by kernel_rfl) (fun _ _ _ h => h) (by rfl) (kpSelf _ _) ?_ ?_; rotate_left
    · (intro V hSV; obtain ⟨t1, x0, x1, x2, x3, x4⟩ := HV.out V hSV; go_simp; all_goals (with_reducible rfl))
    (try simp only [Act.put, List.setIfInBounds_toArray, List.set_cons_zero, List.set_cons_succ])
    refine' takeG (i := 5) (v := _) rfl (by kernel_rfl) (by kernel_rfl) (by kernel_rfl) (by kernel_rfl) (fun _ _ _ h => h) (by rfl) (kpSelf _ _) ?_ ?_; rotate_left
    · (intro V hSV; obtain ⟨t1, x0, x1, x2, x3, x4⟩ := HV.out V hSV; go_simp; all_goals (with_reducible rfl))
    (try simp only [Act.put, List.setIfInBounds_toArray, List.set_cons_zero, List.set_cons_succ])
    refine callE (i := 6) rfl (by kernel_rfl) (fun K hK => ?_)
    go_simp
    refine (pcopyOf_any x w2.drew (HXok.out.keep (Below.refl _ w2).drew).now hln hhn).mono ?_
    rintro e w3 ⟨y, rfl, hyl, hyf, hb3⟩
    have HYl := hide hyl
    have HYf := hide hyf
    have HB3 := hide (below_undrew hb3)
    refine hK.out _ _ (fun _ => Below.keeps hb3 _) ?_
    clear hyl hyf hb3
    clear hK K
    (try simp only [Act.put, List.setIfInBounds_toArray, List.set_cons_zero, List.set_cons_succ])
    have hb4 := HB3.out.trans ((new_below w3 (.cells #[.int .u64 y.l.tx, .int .i64 y.l.lv, .int .i64 y.l.md, .slice y.la y.ln y.lc, .slice y.ha y.hn y.hc] 32)).mono HB3.out.size)
    have hb4d : Keeps (fun k => (Value.slice a2 n2 c2).ownBlock = some k) w2.drew (w3.alloc (.cells #[.int .u64 y.l.tx, .int .i64 y.l.lv, .int .i64 y.l.md, .slice y.la y.ln y.lc, .slice y.ha y.hn y.hc] 32)) := Below.keeps (⟨hb4.os, hb4.tape, hb4.output, hb4.size, hb4.block⟩ : Below w2.drew.heap.size w2.drew (w3.alloc (.cells #[.int .u64 y.l.tx, .int .i64 y.l.lv, .int .i64 y.l.md, .slice y.la y.ln y.lc, .slice y.ha y.hn y.hc] 32))) _
    refine callE (i := 7) rfl (by kernel_rfl) (fun K hK => ?_)
    go_simp
    refine hK.out _ _ (fun _ => hb4d) ?_
    clear hK K
    (try simp only [Act.put, List.setIfInBounds_toArray, List.set_cons_zero, List.set_cons_succ])
    have HOne : Hid (OwnY layK (w3.alloc (.cells #[.int .u64 y.l.tx, .int .i64 y.l.lv, .int .i64 y.l.md, .slice y.la y.ln y.lc, .slice y.ha y.hn y.hc] 32)) w3.heap.size (.slice (some ⟨w3.heap.size, 0, none⟩) 1 1) [y]) := ownY_one (L := layK) w3 w3.heap.size #[.int .u64 y.l.tx, .int .i64 y.l.lv, .int .i64 y.l.md, .slice y.la y.ln y.lc, .slice y.ha y.hn y.hc] y (Nat.le_refl _) rfl
    have HH4 := hide ((HI2.out.ho.keep hb4))
    have HYf4 := hide (HYf.out.keep (new_below w3 (.cells #[.int .u64 y.l.tx, .int .i64 y.l.lv, .int .i64 y.l.md, .slice y.la y.ln y.lc, .slice y.ha y.hn y.hc] 32)))
    have hbl := HI2.out.bl
    have hs4 := hb4.size
    obtain ⟨w4, hw4⟩ : ∃ w4, w4 = w3.alloc (.cells #[.int .u64 y.l.tx, .int .i64 y.l.lv, .int .i64 y.l.md, .slice y.la y.ln y.lc, .slice y.ha y.hn y.hc] 32) := ⟨_, rfl⟩
    rw [← hw4] at HOne HH4 HYf4 hb4 hb4d hs4
    rw [← hw4]
    clear hw4
    refine callE (i := 8) rfl (by kernel_rfl) (fun K hK => ?_)
    refine step_joinY layK _ (by rfl) (.tmp 20) (.tmp 23) (by rfl) base (.slice a2 n2 c2) hs (by rfl) HH4.out (some ⟨w3.heap.size, 0, none⟩) 1 1 [y] (by rfl) HOne.out.is.src (by have := HL.out; simp only [List.length_singleton]; omega) (by omega) ?_
    intro v5 w5 hown5 hg5 hat5
    obtain ⟨a5, n5, c5, rfl⟩ := hown5.any3
    have HO5 := hide hown5
    have HK5 : Hid (Keeps (fun k => (Value.slice a2 n2 c2).ownBlock = some k) w2 w5) := kpThen (Below.keeps hb4 _) (fun k hk => .inl hk) (grown_kp hg5)
    have HAt5 : Hid (AtB w2 (.slice a2 n2 c2) (.slice a5 n5 c5)) := atB_then (.inl rfl) hat5 hs4
    have HY5 : Hid (Foot (fun k => Xt p (.slice a5 n5 c5) wv2 k ∨ G k) w5 (fun V => y.ok V)) := HYf4.out.step (Keeps.wider (grown_kp hg5) (fun k hk => (HI2.out.ho.lt k hk).2)) (fun k hk => by
      rcases hk with hk | hk
      · rcases xt_step (w := w4) (hv := .slice a2 n2 c2) (wv := wv2) hat5 (.inl rfl) k hk with h1 | h1
        · exact .inl (HI2.out.xl k h1).2
        · exact .inr h1
      · exact .inl (HI2.out.gl k hk))
    have hS5 : Keeps (fun k => (Value.slice a2 n2 c2).ownBlock = some k) w2.drew w5 := kpThen hb4d (fun k hk => .inl hk) (grown_kp hg5)
    refine hK.out _ _ (fun _ => hS5) ?_
    clear hown5 hg5 hat5
    clear hK K
    (try simp only [Act.put, List.setIfInBounds_toArray, List.set_cons_zero, List.set_cons_succ])
    refine callE (i := 9) rfl (by kernel_rfl) (fun K hK => ?_)
    go_simp
    refine hK.out _ _ (fun _ => hS5) ?_
    clear hK K
    (try simp only [Act.put, List.setIfInBounds_toArray, List.set_cons_zero, List.set_cons_succ])
    refine callE (i := 10) rfl (by kernel_rfl) (fun K hK => ?_)
    go_simp
    refine hK.out _ _ (fun _ => hS5) ?_
    clear hK K
    (try simp only [Act.put, List.setIfInBounds_toArray, List.set_cons_zero, List.set_cons_succ])
    have t5 := (HV.out _ hS5).1
    have f5 : w5.frozen? ⟨p, 1, none⟩ = false := (World.frozen?_of_block (a := ⟨p, 1, none⟩) (hS5.block p HI2.out.lt HI2.out.hp)).trans (HI2.out.fz 1)
    refine callE (i := 11) rfl (by kernel_rfl) (fun K hK => ?_)
    go_simp
    refine hK.out _ _ (fun h => by cases h) ?_
    clear hK K
    (try simp only [Act.put, List.setIfInBounds_toArray, List.set_cons_zero, List.set_cons_succ])
    refine doneE (by kernel_rfl) ?_ _
    go_wp2
    go_ret2
    refine .inr ⟨by have := HL.out; omega, rfl, y, HYl.out, TPost.then HK2.out HAt2.out HBt2.out ?_⟩
    refine HI2.out.relH HK5.out HO5.out HAt5.out (fun m hm => ?_)
    rcases List.mem_append.1 hm with hm | hm
    · exact (HI2.out.kf m (List.mem_append_left _ hm)).step (Keeps.wider HK5.out (fun k hk => .inl (.inr (.inl hk)))) (fun k hk => by
        rcases hk with hk | hk
        · rcases xt_step (w := w2) HAt5.out (.inl rfl) k hk with h1 | h1
          · exact .inl (.inl h1)
          · exact .inr h1
        · exact .inl (.inr hk))
    · rw [List.mem_singleton.1 hm]
      exact HY5.out

end Go.Proofs.YtepaflofbcokaaaDoor
