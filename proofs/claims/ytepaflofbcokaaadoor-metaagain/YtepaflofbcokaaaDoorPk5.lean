/- The program's table in memory; New, made, covered, place, ahead: what they answer. -/
import Derived.Test.YtepaflofbcokaaaDoorPk4
import Derived.Test.YtepaflofbcokaaaDoorLk7
import Derived.Test.YtepaflofbcokaaaDoorSgA
namespace Go.Proofs.YtepaflofbcokaaaDoor
open Go.RowKit NumMath Go.ChangeShapes Go.WideShapes Go.Deep
set_option linter.unusedVariables false
set_option maxRecDepth 100000

/-- the program's table at block p, as it is read -/
structure TpA (w : World) (p : Nat) (ha : Option Addr) (hn hc : Nat) (wa : Option Addr) (wn wc : Nat) (hs ws : List ML) : Prop where
  c0 : w.cell? ⟨p, 0, none⟩ = some (.bool true)
  c1 : w.cell? ⟨p, 1, none⟩ = some (.slice ha hn hc)
  c2 : w.cell? ⟨p, 2, none⟩ = some (.slice wa wn wc)
  lt : p < w.heap.size
  h : IsY layK w ha hn hc hs
  wt : IsY layK w wa wn wc ws
  ho : ∀ m ∈ hs, m.ok w
  wo : ∀ m ∈ ws, m.ok w
  ft : FitW w

theorem TpA.keep {w w' : World} {p : Nat} {ha : Option Addr} {hn hc : Nat} {wa : Option Addr} {wn wc : Nat} {hs ws : List ML} (h : TpA w p ha hn hc wa wn wc hs ws) (hb : Below w.heap.size w w') : TpA w' p ha hn hc wa wn wc hs ws :=
  ⟨(hb.cell (p := ⟨p, 0, none⟩) h.lt).trans h.c0, (hb.cell (p := ⟨p, 1, none⟩) h.lt).trans h.c1, (hb.cell (p := ⟨p, 2, none⟩) h.lt).trans h.c2, Nat.lt_of_lt_of_le h.lt hb.size, h.h.keep hb, h.wt.keep hb, fun m hm => (h.ho m hm).keep hb, fun m hm => (h.wo m hm).keep hb, h.ft.keep hb⟩

/-- the blocks of the table itself -/
def Xt (p : Nat) (hv wv : Value) (k : Nat) : Prop := k = p ∨ hv.ownBlock = some k ∨ wv.ownBlock = some k

/-- the program's table at block p: its own blocks, from base on, and none of somebody else's (G) -/
structure IsT (G : Nat → Prop) (base : Nat) (w : World) (p : Nat) (hv wv : Value) (hs ws : List ML) : Prop where
  c0 : w.cell? ⟨p, 0, none⟩ = some (.bool true)
  c1 : w.cell? ⟨p, 1, none⟩ = some hv
  c2 : w.cell? ⟨p, 2, none⟩ = some wv
  fz : ∀ j, w.frozen? ⟨p, j, none⟩ = false
  lt : p < w.heap.size
  pb : base ≤ p
  ho : OwnY layK w base hv hs
  wo : OwnY layK w base wv ws
  hp : hv.ownBlock ≠ some p
  wp : wv.ownBlock ≠ some p
  hw : OffY hv wv
  kf : ∀ m ∈ hs ++ ws, Foot (fun k => Xt p hv wv k ∨ G k) w (fun V => m.ok V)
  ft : FitW w
  b0 : 0 < base
  gl : ∀ k, G k → k < w.heap.size
  gx : ∀ k, Xt p hv wv k → ¬ G k

theorem IsT.xl {G : Nat → Prop} {base : Nat} {w : World} {p : Nat} {hv wv : Value} {hs ws : List ML} (h : IsT G base w p hv wv hs ws) : ∀ k, Xt p hv wv k → base ≤ k ∧ k < w.heap.size := by
  intro k hk
  rcases hk with rfl | hk | hk
  · exact ⟨h.pb, h.lt⟩
  · exact h.ho.lt k hk
  · exact h.wo.lt k hk

theorem IsT.bl {G : Nat → Prop} {base : Nat} {w : World} {p : Nat} {hv wv : Value} {hs ws : List ML} (h : IsT G base w p hv wv hs ws) : base ≤ w.heap.size := by
  have := h.xl p (.inl rfl); omega

theorem IsT.zero {G : Nat → Prop} {base : Nat} {w : World} {p : Nat} {hv wv : Value} {hs ws : List ML} (h : IsT G base w p hv wv hs ws) : ¬ Xt p hv wv 0 := by
  intro hk
  have := (h.xl 0 hk).1
  have := h.b0
  omega

/-- behind somebody else's call, which writes G and new blocks -/
theorem IsT.other {G G' : Nat → Prop} {base : Nat} {w w' : World} {p : Nat} {hv wv : Value} {hs ws : List ML} (h : IsT G base w p hv wv hs ws) (hk : Keeps G w w') (hG : ∀ k, G' k → (G k ∨ w.heap.size ≤ k) ∧ k < w'.heap.size) (h0 : ¬ G 0) : IsT G' base w' p hv wv hs ws := by
  have hx := h.xl
  have hblk : ∀ k, Xt p hv wv k → w'.heap[k]? = w.heap[k]? := fun k hk2 => hk.block k (hx k hk2).2 (h.gx k hk2)
  have hpb := hblk p (.inl rfl)
  refine ⟨(World.cell?_of_block (a := ⟨p, 0, none⟩) hpb).trans h.c0, (World.cell?_of_block (a := ⟨p, 1, none⟩) hpb).trans h.c1, (World.cell?_of_block (a := ⟨p, 2, none⟩) hpb).trans h.c2, fun j => (World.frozen?_of_block (a := ⟨p, j, none⟩) hpb).trans (h.fz j), Nat.lt_of_lt_of_le h.lt hk.size, h.pb, h.ho.lies (fun g hg => hblk g (.inr (.inl hg))), h.wo.lies (fun g hg => hblk g (.inr (.inr hg))), h.hp, h.wp, h.hw, fun m hm => ?_, h.ft.lies hk h0, h.b0, fun k hk2 => (hG k hk2).2, fun k hk2 hg => ?_⟩
  · refine (h.kf m hm).step (Keeps.wider hk (fun k hk => .inr hk)) (fun k hk2 => ?_)
    rcases hk2 with hk2 | hk2
    · exact .inl (.inl hk2)
    · rcases (hG k hk2).1 with h1 | h1
      · exact .inl (.inr h1)
      · exact .inr h1
  · rcases (hG k hg).1 with h1 | h1
    · exact h.gx k hk2 h1
    · have := (hx k hk2).2; omega

theorem IsT.keep {G : Nat → Prop} {base : Nat} {w w' : World} {p : Nat} {hv wv : Value} {hs ws : List ML} (h : IsT G base w p hv wv hs ws) (hb : Below w.heap.size w w') : IsT G base w' p hv wv hs ws := by
  have hx := h.xl
  have hblk : ∀ k, Xt p hv wv k → w'.heap[k]? = w.heap[k]? := fun k hk2 => hb.block k (hx k hk2).2
  have hpb := hblk p (.inl rfl)
  exact ⟨(World.cell?_of_block (a := ⟨p, 0, none⟩) hpb).trans h.c0, (World.cell?_of_block (a := ⟨p, 1, none⟩) hpb).trans h.c1, (World.cell?_of_block (a := ⟨p, 2, none⟩) hpb).trans h.c2, fun j => (World.frozen?_of_block (a := ⟨p, j, none⟩) hpb).trans (h.fz j), Nat.lt_of_lt_of_le h.lt hb.size, h.pb, h.ho.keep hb, h.wo.keep hb, h.hp, h.wp, h.hw, fun m hm => (h.kf m hm).keep hb, h.ft.keep hb, h.b0, fun k hk2 => Nat.lt_of_lt_of_le (h.gl k hk2) hb.size, h.gx⟩

theorem IsT.read {G : Nat → Prop} {base : Nat} {w : World} {p : Nat} {hv wv : Value} {hs ws : List ML} (h : IsT G base w p hv wv hs ws) : ∃ ha hn hc wa wn wc, hv = .slice ha hn hc ∧ wv = .slice wa wn wc ∧ TpA w p ha hn hc wa wn wc hs ws := by
  obtain ⟨ha, hn, hc, e1⟩ := h.ho.any3
  obtain ⟨wa, wn, wc, e2⟩ := h.wo.any3
  refine ⟨ha, hn, hc, wa, wn, wc, e1, e2, ?_⟩
  have h1 := h.ho
  have h2 := h.wo
  rw [e1] at h1
  rw [e2] at h2
  exact ⟨h.c0, e1 ▸ h.c1, e2 ▸ h.c2, h.lt, h1.is, h2.is, fun m hm => (h.kf m (List.mem_append_left _ hm)).now, fun m hm => (h.kf m (List.mem_append_right _ hm)).now, h.ft⟩

/-- what a call that writes the table leaves -/
def TPost (G : Nat → Prop) (base : Nat) (w : World) (p : Nat) (hv wv : Value) (hs' ws' : List ML) (w' : World) : Prop :=
  ∃ hv' wv', IsT G base w' p hv' wv' hs' ws' ∧ Keeps (Xt p hv wv) w w' ∧ AtB w hv hv' ∧ AtB w wv wv'

theorem TPost.refl {G : Nat → Prop} {base : Nat} {w : World} {p : Nat} {hv wv : Value} {hs ws : List ML} (h : IsT G base w p hv wv hs ws) : TPost G base w p hv wv hs ws w := ⟨hv, wv, h, kpSelf _ _, .inl rfl, .inl rfl⟩

theorem tpost_keep {G : Nat → Prop} {base : Nat} {w w' : World} {p : Nat} {hv wv : Value} {hs ws : List ML} (h : IsT G base w p hv wv hs ws) (hb : Below w.heap.size w w') : TPost G base w p hv wv hs ws w' := ⟨hv, wv, h.keep hb, Below.keeps hb _, .inl rfl, .inl rfl⟩

theorem atB_then {w w1 : World} {v v1 v2 : Value} (h : AtB w v v1) (k : AtB w1 v1 v2) (hs : w.heap.size ≤ w1.heap.size) : AtB w v v2 := by
  rcases k with k | ⟨g, k, hg⟩
  · rcases h with h | ⟨g, h, hg⟩
    · exact .inl (k.trans h)
    · exact .inr ⟨g, k.trans h, hg⟩
  · exact .inr ⟨g, k, Nat.le_trans hs hg⟩

theorem xt_step {w : World} {p : Nat} {hv wv hv' wv' : Value} (h1 : AtB w hv hv') (h2 : AtB w wv wv') : ∀ k, Xt p hv' wv' k → Xt p hv wv k ∨ w.heap.size ≤ k := by
  intro k hk
  rcases hk with hk | hk | hk
  · exact .inl (.inl hk)
  · rcases h1 with h | ⟨g, h, hg⟩
    · exact .inl (.inr (.inl (by rw [← h]; exact hk)))
    · rw [h] at hk; cases hk; exact .inr hg
  · rcases h2 with h | ⟨g, h, hg⟩
    · exact .inl (.inr (.inr (by rw [← h]; exact hk)))
    · rw [h] at hk; cases hk; exact .inr hg

theorem TPost.then {G : Nat → Prop} {base : Nat} {w w1 w2 : World} {p : Nat} {hv wv hv1 wv1 : Value} {hs ws : List ML} (hk : Keeps (Xt p hv wv) w w1) (h1 : AtB w hv hv1) (h2 : AtB w wv wv1) (k : TPost G base w1 p hv1 wv1 hs ws w2) : TPost G base w p hv wv hs ws w2 := by
  obtain ⟨hv2, wv2, g1, g2, g3, g4⟩ := k
  exact ⟨hv2, wv2, g1, kpThen hk (xt_step h1 h2) g2, atB_then h1 g3 hk.size, atB_then h2 g4 hk.size⟩

theorem TPost.ahead {G : Nat → Prop} {base : Nat} {w w1 w2 : World} {p : Nat} {hv wv : Value} {hs ws : List ML} (hb : Below w.heap.size w w1) (k : TPost G base w1 p hv wv hs ws w2) : TPost G base w p hv wv hs ws w2 := TPost.then (Below.keeps hb _) (.inl rfl) (.inl rfl) k

theorem pnew_any (w : World) (hF : FitW w) (G : Nat → Prop) (hG : ∀ k, G k → k < w.heap.size) : Calls Tryd.prog 14 #[] w fun e w' => ∃ hv wv, e = .returned (.pointer (some ⟨w.heap.size, 0, none⟩)) ∧ IsT G w.heap.size w' w.heap.size hv wv [] [] ∧ Below w.heap.size w w' := by
  have HF := hide hF
  clear hF
  go_enter Tryd.func14, Tryd.ntmps14
  go_wp2
  go_ret
  have hn := new_below w (.cells #[.bool true, .slice none 0 0, .slice none 0 0] 81)
  have hr := rangeY_new w w.heap.size #[.bool true, .slice none 0 0, .slice none 0 0] 81 rfl
  refine ⟨.slice none 0 0, .slice none 0 0, rfl, ⟨hr 0 _ rfl, hr 1 _ rfl, hr 2 _ rfl, fun j => fzY_new _ _ _ _, by simp, Nat.le_refl _, ownY_nil _ _, ownY_nil _ _, (by intro e; cases e), (by intro e; cases e), (by intro g e; cases e), (by simp), HF.out.keep hn, HF.out.2, (fun k hk => by have := hG k hk; simp; omega), fun k hk hg => ?_⟩, hn⟩
  rcases hk with rfl | hk | hk
  · have := hG _ hg; omega
  · cases hk
  · cases hk

theorem made_any (w : World) (p : Nat) (h : w.cell? ⟨p, 0, none⟩ = some (.bool true)) : Calls Tryd.prog 25 #[.pointer (some ⟨p, 0, none⟩)] w fun e w' => e = .returned (.bool true) ∧ w' = w := by
  go_enter Tryd.func25, Tryd.ntmps25
  go_wp2
  go_ret
  exact ⟨rfl, rfl⟩

set_option maxHeartbeats 1000000 in
theorem pcovered_any (w : World) (p : Nat) (ha : Option Addr) (hn hc : Nat) (wa : Option Addr) (wn wc : Nat) (hs ws : List ML) (h : TpA w p ha hn hc wa wn wc hs ws) (x : ML) (hx : x.ok w) :
    Calls Tryd.prog 58 #[.pointer (some ⟨p, 0, none⟩), .agg #[.int .u64 x.l.tx, .int .i64 x.l.lv, .int .i64 x.l.md, .slice x.la x.ln x.lc, .slice x.ha x.hn x.hc]] w fun e w' => e = .returned (.bool (hs.any (fun m => coversL m.l x.l))) ∧ Below w.heap.size w w' := by
  have hb := new_below w (.cells #[.int .u64 x.l.tx, .int .i64 x.l.lv, .int .i64 x.l.md, .slice x.la x.ln x.lc, .slice x.ha x.hn x.hc] 32)
  have h1 := h.keep hb
  have HC := hide (containsC_any ha hn hc hs (fun m => coversL m.l x.l) w.heap.size _ h1.h (fun W hW m hm => coverC_any m x w.heap.size W ((h1.ho m hm).keep hW) ((hx.keep hb).keep hW) ((at5_new w x).same (hW.block _ (by simp))) (Nat.lt_of_lt_of_le (by simp) hW.size)))
  have c1 := h1.c1
  have HB := hide hb
  have hne : ¬ w.heap.size = p := by have := h.lt; omega
  clear h hx hb h1
  go_enter Tryd.func58, Tryd.ntmps58
  go_wp2_with (first
    | (go_at_call 75; go_must (refine HC.out.mono ?_); rintro e w2 ⟨rfl, hb2⟩; have HB2 := hide hb2; clear hb2))
  go_ret
  exact ⟨rfl, HB.out.trans (HB2.out.mono HB.out.size)⟩

/-- where x waits -/
def PlaceP (x : ML) (ws : List ML) (e : Ending) : Prop :=
  ∃ k : Nat, e = .returned (.int .i64 k) ∧ k ≤ ws.length ∧ (ws.take k).all (fun m => !decide (m.l = x.l)) = true ∧ (k = ws.length ∨ ∃ m, ws[k]? = some m ∧ m.l = x.l)

set_option maxHeartbeats 2000000 in
theorem pplace_any (w : World) (p : Nat) (ha : Option Addr) (hn hc : Nat) (wa : Option Addr) (wn wc : Nat) (hs ws : List ML) (h : TpA w p ha hn hc wa wn wc hs ws) (x : ML) (hx : x.ok w) :
    Calls Tryd.prog 59 #[.pointer (some ⟨p, 0, none⟩), .agg #[.int .u64 x.l.tx, .int .i64 x.l.lv, .int .i64 x.l.md, .slice x.la x.ln x.lc, .slice x.ha x.hn x.hc]] w fun e w' => PlaceP x ws e ∧ Below w.heap.size w w' := by
  obtain ⟨w1, hw1⟩ : ∃ w1, w1 = w.alloc (.cells #[.int .u64 x.l.tx, .int .i64 x.l.lv, .int .i64 x.l.md, .slice x.la x.ln x.lc, .slice x.ha x.hn x.hc] 32) := ⟨_, rfl⟩
  have hb : Below w.heap.size w w1 := by rw [hw1]; exact new_below _ _
  have hs1 : w1.heap.size = w.heap.size + 1 := by rw [hw1]; simp
  have HX1 : Hid (At5 w1 w.heap.size 0 x) := by rw [hw1]; exact at5_new w x
  have H1 := hide (h.keep hb)
  have HXo := hide (hx.keep hb)
  have HB := hide hb
  have hlt0 := h.lt
  have hm : (wn : Int) ≤ 9223372036854775807 := by have := h.wt.2.1; have := h.wt.2.2.1; unfold maxLen at this; omega
  have HL := hide h.wt.1
  have c2 := H1.out.c2
  rw [hw1] at c2
  clear h hx hb
  go_enter Tryd.func59, Tryd.ntmps59
  go_wp2
  rw [← hw1]
  clear hw1 c2
  go_loopg [12] wn (fun gk i wr => ∃ k : Nat, gk = wn - k ∧ i = .int .i64 k ∧ k ≤ wn ∧ (ws.take k).all (fun m => !decide (m.l = x.l)) = true ∧ Below w1.heap.size w1 wr)
  case atStart => exact ⟨0, rfl, rfl, Nat.zero_le _, rfl, Below.refl _ _⟩
  case round =>
    obtain ⟨k, rfl, rfl, hk, hA, hB⟩ := hrel
    have HA := hide hA
    have HBr := hide hB
    have hsw := hB.size
    clear hA
    by_cases hlt : k < wn
    · have hlt' : (k : Int) < (wn : Int) := by omega
      obtain ⟨m, hmk⟩ := ml_at (hs := ws) (k := k) (by have := HL.out; omega)
      obtain ⟨g, off, rfl, hg, hC⟩ := H1.out.wt.at hlt
      obtain ⟨d0, d1, d2, d3, d4⟩ := at5_list (hC.same (hB.block g hg)) hmk
      have hbN := new_below wr (.cells #[.int .u64 m.l.tx, .int .i64 m.l.lv, .int .i64 m.l.md, .slice m.la m.ln m.lc, .slice m.ha m.hn m.hc] 32)
      have hb1N := hB.trans (hbN.mono hsw)
      obtain ⟨x0, x1, x2, x3, x4⟩ := (HX1.out.same (hb1N.block _ (by omega))).zero
      have HS := hide (psame_any m x _ ((H1.out.wo m (List.mem_of_getElem? hmk)).keep hb1N) (HXo.out.keep hb1N))
      have HMk := hide hmk
      have HMo := hide (all_moreK (p := fun m => !decide (m.l = x.l)) hmk)
      obtain ⟨z, hz⟩ : ∃ z, decide (m.l = x.l) = z := ⟨_, rfl⟩
      rw [hz] at HS HMo
      rw [HA.out] at HMo
      have HZ := hide hz
      have HBN := hide hbN
      clear hC hmk hB hz hbN hb1N
      cases z with
      | true =>
        go_wp2_with (first
          | (go_at_call 78; go_must (refine HS.out.mono ?_); rintro e w2 ⟨rfl, hb2⟩; have HB2 := hide hb2; clear hb2))
        go_ret
        exact ⟨⟨k, rfl, by have := HL.out; omega, HA.out, .inr ⟨m, HMk.out, by simpa using HZ.out⟩⟩, HB.out.trans ((HBr.out.trans ((HBN.out.trans (HB2.out.mono (by simp))).mono hsw)).mono (by omega))⟩
      | false =>
        go_wp2_with (first
          | (go_at_call 78; go_must (refine HS.out.mono ?_); rintro e w2 ⟨rfl, hb2⟩; have HB2 := hide hb2; clear hb2))
        go_roundg (wn - (k + 1))
        case measure => omega
        case rel => exact ⟨k + 1, rfl, by go_num, by omega, by rw [HMo.out]; rfl, HBr.out.trans ((HBN.out.trans (HB2.out.mono (by simp))).mono hsw)⟩
    · obtain rfl : k = wn := by omega
      have ek : ws.take k = ws := List.take_of_length_le (by have := HL.out; omega)
      have c2 := (H1.out.keep hB).c2
      clear hB
      go_wp2
      go_ret
      exact ⟨⟨k, rfl, by have := HL.out; omega, HA.out, .inl HL.out.symm⟩, HB.out.trans (HBr.out.mono (by omega))⟩

set_option maxHeartbeats 4000000 in
theorem pahead_any (w : World) (p : Nat) (ha : Option Addr) (hn hc : Nat) (wa : Option Addr) (wn wc : Nat) (hs ws : List ML) (h : TpA w p ha hn hc wa wn wc hs ws) (x : ML) (hx : x.ok w) (j : Nat) (hj : j ≤ wn) :
    Calls Tryd.prog 79 #[.pointer (some ⟨p, 0, none⟩), .agg #[.int .u64 x.l.tx, .int .i64 x.l.lv, .int .i64 x.l.md, .slice x.la x.ln x.lc, .slice x.ha x.hn x.hc], .int .i64 j] w fun e w' => ∃ a n c, e = .returned (.slice a n c) ∧ IsY layK w' a n c (if holdsL (hs.map ML.l) x.l = true then [] else ws.take j) ∧ Below w.heap.size w w' := by
  obtain ⟨rs, hrs⟩ : ∃ rs, (if holdsL (hs.map ML.l) x.l = true then [] else ws.take j) = rs := ⟨_, rfl⟩
  rw [hrs]
  have HRs := hide hrs
  clear hrs
  obtain ⟨w1, hw1⟩ : ∃ w1, w1 = w.alloc (.cells #[.int .u64 x.l.tx, .int .i64 x.l.lv, .int .i64 x.l.md, .slice x.la x.ln x.lc, .slice x.ha x.hn x.hc] 32) := ⟨_, rfl⟩
  have hb : Below w.heap.size w w1 := by rw [hw1]; exact new_below _ _
  have hs1 : w1.heap.size = w.heap.size + 1 := by rw [hw1]; simp
  have HX1 : Hid (At5 w1 w.heap.size 0 x) := by rw [hw1]; exact at5_new w x
  have H1 := hide (h.keep hb)
  have HXo := hide (hx.keep hb)
  have HB := hide hb
  have hlt0 := h.lt
  have hm : (hn : Int) ≤ 9223372036854775807 := by have := h.h.2.1; have := h.h.2.2.1; unfold maxLen at this; omega
  have hm2 : (wn : Int) ≤ 9223372036854775807 := by have := h.wt.2.1; have := h.wt.2.2.1; unfold maxLen at this; omega
  have HL := hide h.h.1
  have c1 := H1.out.c1
  rw [hw1] at c1
  clear h hx hb
  go_enter Tryd.func79, Tryd.ntmps79
  go_wp2
  rw [← hw1]
  clear hw1 c1
  go_loopg [14] hn (fun gk i wr => ∃ k : Nat, gk = hn - k ∧ i = .int .i64 k ∧ k ≤ hn ∧ holdsL ((hs.take k).map ML.l) x.l = false ∧ Below w1.heap.size w1 wr)
  case atStart => exact ⟨0, rfl, rfl, Nat.zero_le _, rfl, Below.refl _ _⟩
  case round =>
    obtain ⟨k, rfl, rfl, hk, hA, hB⟩ := hrel
    have HA := hide hA
    have HBr := hide hB
    have hsw := hB.size
    clear hA
    by_cases hlt : k < hn
    · have hlt' : (k : Int) < (hn : Int) := by omega
      obtain ⟨m, hmk⟩ := ml_at (hs := hs) (k := k) (by have := HL.out; omega)
      obtain ⟨g, off, rfl, hg, hC⟩ := H1.out.h.at hlt
      obtain ⟨d0, d1, d2, d3, d4⟩ := at5_list (hC.same (hB.block g hg)) hmk
      have hbN := new_below wr (.cells #[.int .u64 m.l.tx, .int .i64 m.l.lv, .int .i64 m.l.md, .slice m.la m.ln m.lc, .slice m.ha m.hn m.hc] 32)
      have hb1N := hB.trans (hbN.mono hsw)
      obtain ⟨x0, x1, x2, x3, x4⟩ := (HX1.out.same (hb1N.block _ (by omega))).zero
      have HS := hide (meet_any m x _ ((H1.out.ho m (List.mem_of_getElem? hmk)).keep hb1N) (HXo.out.keep hb1N))
      have HMo := hide (holds_more (x := x) hmk)
      rw [meetsL_meet, HA.out] at HMo
      obtain ⟨z, hz⟩ : ∃ z, meetK m.l x.l = z := ⟨_, rfl⟩
      rw [hz] at HS HMo
      have HBN := hide hbN
      clear hC hmk hB hz hbN hb1N
      by_cases ht : m.l.tx = x.l.tx
      · have ht' : (m.l.tx == x.l.tx) = true := by simp [ht]
        rw [ht'] at HMo
        clear ht
        by_cases hv : m.l.lv = x.l.lv
        · have hv' : (m.l.lv == x.l.lv) = true := by simp [hv]
          rw [hv'] at HMo
          clear hv
          cases z with
          | true =>
            go_wp2_with (first
              | (go_at_call 93; go_must (refine HS.out.mono ?_); rintro e w2 ⟨rfl, hb2⟩; have HB2 := hide hb2; clear hb2))
            go_ret
            refine ⟨none, 0, 0, rfl, ?_, HB.out.trans ((HBr.out.trans ((HBN.out.trans (HB2.out.mono (by simp))).mono hsw)).mono (by omega))⟩
            rw [← HRs.out, if_pos (holds_pre (k := k + 1) (by rw [HMo.out]; rfl))]
            exact isY_nil _
          | false =>
            go_wp2_with (first
              | (go_at_call 93; go_must (refine HS.out.mono ?_); rintro e w2 ⟨rfl, hb2⟩; have HB2 := hide hb2; clear hb2))
            go_roundg (hn - (k + 1))
            case measure => omega
            case rel => exact ⟨k + 1, rfl, by go_num, by omega, by rw [HMo.out]; rfl, HBr.out.trans ((HBN.out.trans (HB2.out.mono (by simp))).mono hsw)⟩
        · have hv' : (m.l.lv == x.l.lv) = false := by simp [hv]
          rw [hv'] at HMo
          clear hv
          go_wp2
          go_roundg (hn - (k + 1))
          case measure => omega
          case rel => exact ⟨k + 1, rfl, by go_num, by omega, by rw [HMo.out]; rfl, HBr.out.trans (HBN.out.mono hsw)⟩
      · have ht' : (m.l.tx == x.l.tx) = false := by simp [ht]
        rw [ht'] at HMo
        clear ht
        go_wp2
        go_roundg (hn - (k + 1))
        case measure => omega
        case rel => exact ⟨k + 1, rfl, by go_num, by omega, by rw [HMo.out]; rfl, HBr.out.trans (HBN.out.mono hsw)⟩
    · obtain rfl : k = hn := by omega
      have ek : hs.take k = hs := List.take_of_length_le (by have := HL.out; omega)
      rw [ek] at HA
      have c2 := (H1.out.keep hB).c2
      obtain ⟨b, hcut, hY⟩ := isY_cut layK (H1.out.keep hB).wt j hj
      have hcut' : ∀ W, (Instr.sliceAt 53 (.slice wa wn wc) none (some (.int .i64 (j : Int))) none).run Tryd.prog W = .ok (.slice b j wc) W := hcut
      have HY := hide hY
      clear hB hcut hY
      go_wp2
      go_ret
      refine ⟨b, j, wc, rfl, ?_, HB.out.trans (HBr.out.mono (by omega))⟩
      rw [← HRs.out, if_neg (by rw [HA.out]; simp)]
      exact HY.out

end Go.Proofs.YtepaflofbcokaaaDoor
