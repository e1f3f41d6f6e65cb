/- The program's table in memory; New, made, covered, place, ahead: what they answer. The program's table: without, leave, Free, hold: what they do. The program's table: inTheWay: whose locks stand in the way. -/
import Derived.Test.YtcgiicmmfleinaaGreatDoorPkL
import Derived.Test.YtcgiicmmfleinaaGreatDoorLk7
import Derived.Test.YtcgiicmmfleinaaGreatDoorSgA
import Derived.Test.YtcgiicmmfleinaaGreatDoorWtL
namespace Go.Proofs.YtcgiicmmfleinaaGreatDoor
open Go.RowKit NumMath Go.ChangeShapes Go.WideShapes Go.Deep
set_option linter.unusedVariables false
set_option maxRecDepth 100000

/-- the program's table at block p, as it is read -/
structure TpA (w : World) (p : Nat) (ha : Option Addr) (hn hc : Nat) (wa : Option Addr) (wn wc : Nat) (hs ws : List ML) : Prop where
  c0 : w.cell? ⟨p, 0, none⟩ = some (.bool true)
  c1 : w.cell? ⟨p, 1, none⟩ = some (.slice ha hn hc)
  c2 : w.cell? ⟨p, 2, none⟩ = some (.slice wa wn wc)
  lt : p < w.heap.size
  h : IsY layK w ha hn hc hs
  wt : IsY layK w wa wn wc ws
  ho : ∀ m ∈ hs, m.ok w
  wo : ∀ m ∈ ws, m.ok w
  ft : FitW w

theorem TpA.keep {w w' : World} {p : Nat} {ha : Option Addr} {hn hc : Nat} {wa : Option Addr} {wn wc : Nat} {hs ws : List ML} (h : TpA w p ha hn hc wa wn wc hs ws) (hb : Below w.heap.size w w') : TpA w' p ha hn hc wa wn wc hs ws :=
  ⟨(hb.cell (p := ⟨p, 0, none⟩) h.lt).trans h.c0, (hb.cell (p := ⟨p, 1, none⟩) h.lt).trans h.c1, (hb.cell (p := ⟨p, 2, none⟩) h.lt).trans h.c2, Nat.lt_of_lt_of_le h.lt hb.size, h.h.keep hb, h.wt.keep hb, fun m hm => (h.ho m hm).keep hb, fun m hm => (h.wo m hm).keep hb, h.ft.keep hb⟩

/-- the blocks of the table itself -/
def Xt (p : Nat) (hv wv : Value) (k : Nat) : Prop := k = p ∨ hv.ownBlock = some k ∨ wv.ownBlock = some k

/-- the program's table at block p: its own blocks, from base on, and none of somebody else's (G) -/
structure IsT (G : Nat → Prop) (base : Nat) (w : World) (p : Nat) (hv wv : Value) (hs ws : List ML) : Prop where
  c0 : w.cell? ⟨p, 0, none⟩ = some (.bool true)
  c1 : w.cell? ⟨p, 1, none⟩ = some hv
  c2 : w.cell? ⟨p, 2, none⟩ = some wv
  fz : ∀ j, w.frozen? ⟨p, j, none⟩ = false
  lt : p < w.heap.size
  pb : base ≤ p
  ho : OwnY layK w base hv hs
  wo : OwnY layK w base wv ws
  hp : hv.ownBlock ≠ some p
  wp : wv.ownBlock ≠ some p
  hw : OffY hv wv
  kf : ∀ m ∈ hs ++ ws, Foot (fun k => Xt p hv wv k ∨ G k) w (fun V => m.ok V)
  ft : FitW w
  b0 : 0 < base
  gl : ∀ k, G k → k < w.heap.size
  gx : ∀ k, Xt p hv wv k → ¬ G k

theorem IsT.xl {G : Nat → Prop} {base : Nat} {w : World} {p : Nat} {hv wv : Value} {hs ws : List ML} (h : IsT G base w p hv wv hs ws) : ∀ k, Xt p hv wv k → base ≤ k ∧ k < w.heap.size := by
  intro k hk
  rcases hk with rfl | hk | hk
  · exact ⟨h.pb, h.lt⟩
  · exact h.ho.lt k hk
  · exact h.wo.lt k hk

theorem IsT.bl {G : Nat → Prop} {base : Nat} {w : World} {p : Nat} {hv wv : Value} {hs ws : List ML} (h : IsT G base w p hv wv hs ws) : base ≤ w.heap.size := by
  have := h.xl p (.inl rfl); omega

theorem IsT.zero {G : Nat → Prop} {base : Nat} {w : World} {p : Nat} {hv wv : Value} {hs ws : List ML} (h : IsT G base w p hv wv hs ws) : ¬ Xt p hv wv 0 := by
  intro hk
  have := (h.xl 0 hk).1
  have := h.b0
  omega

/-- behind somebody else's call, which writes G and new blocks -/
theorem IsT.other {G G' : Nat → Prop} {base : Nat} {w w' : World} {p : Nat} {hv wv : Value} {hs ws : List ML} (h : IsT G base w p hv wv hs ws) (hk : Keeps G w w') (hG : ∀ k, G' k → (G k ∨ w.heap.size ≤ k) ∧ k < w'.heap.size) (h0 : ¬ G 0) : IsT G' base w' p hv wv hs ws := by
  have hx := h.xl
  have hblk : ∀ k, Xt p hv wv k → w'.heap[k]? = w.heap[k]? := fun k hk2 => hk.block k (hx k hk2).2 (h.gx k hk2)
  have hpb := hblk p (.inl rfl)
  refine ⟨(World.cell?_of_block (a := ⟨p, 0, none⟩) hpb).trans h.c0, (World.cell?_of_block (a := ⟨p, 1, none⟩) hpb).trans h.c1, (World.cell?_of_block (a := ⟨p, 2, none⟩) hpb).trans h.c2, fun j => (World.frozen?_of_block (a := ⟨p, j, none⟩) hpb).trans (h.fz j), Nat.lt_of_lt_of_le h.lt hk.size, h.pb, h.ho.lies (fun g hg => hblk g (.inr (.inl hg))), h.wo.lies (fun g hg => hblk g (.inr (.inr hg))), h.hp, h.wp, h.hw, fun m hm => ?_, h.ft.lies hk h0, h.b0, fun k hk2 => (hG k hk2).2, fun k hk2 hg => ?_⟩
  · refine (h.kf m hm).step (Keeps.wider hk (fun k hk => .inr hk)) (fun k hk2 => ?_)
    rcases hk2 with hk2 | hk2
    · exact .inl (.inl hk2)
    · rcases (hG k hk2).1 with h1 | h1
      · exact .inl (.inr h1)
      · exact .inr h1
  · rcases (hG k hg).1 with h1 | h1
    · exact h.gx k hk2 h1
    · have := (hx k hk2).2; omega

theorem IsT.keep {G : Nat → Prop} {base : Nat} {w w' : World} {p : Nat} {hv wv : Value} {hs ws : List ML} (h : IsT G base w p hv wv hs ws) (hb : Below w.heap.size w w') : IsT G base w' p hv wv hs ws := by
  have hx := h.xl
  have hblk : ∀ k, Xt p hv wv k → w'.heap[k]? = w.heap[k]? := fun k hk2 => hb.block k (hx k hk2).2
  have hpb := hblk p (.inl rfl)
  exact ⟨(World.cell?_of_block (a := ⟨p, 0, none⟩) hpb).trans h.c0, (World.cell?_of_block (a := ⟨p, 1, none⟩) hpb).trans h.c1, (World.cell?_of_block (a := ⟨p, 2, none⟩) hpb).trans h.c2, fun j => (World.frozen?_of_block (a := ⟨p, j, none⟩) hpb).trans (h.fz j), Nat.lt_of_lt_of_le h.lt hb.size, h.pb, h.ho.keep hb, h.wo.keep hb, h.hp, h.wp, h.hw, fun m hm => (h.kf m hm).keep hb, h.ft.keep hb, h.b0, fun k hk2 => Nat.lt_of_lt_of_le (h.gl k hk2) hb.size, h.gx⟩

theorem IsT.read {G : Nat → Prop} {base : Nat} {w : World} {p : Nat} {hv wv : Value} {hs ws : List ML} (h : IsT G base w p hv wv hs ws) : ∃ ha hn hc wa wn wc, hv = .slice ha hn hc ∧ wv = .slice wa wn wc ∧ TpA w p ha hn hc wa wn wc hs ws := by
  obtain ⟨ha, hn, hc, e1⟩ := h.ho.any3
  obtain ⟨wa, wn, wc, e2⟩ := h.wo.any3
  refine ⟨ha, hn, hc, wa, wn, wc, e1, e2, ?_⟩
  have h1 := h.ho
  have h2 := h.wo
  rw [e1] at h1
  rw [e2] at h2
  exact ⟨h.c0, e1 ▸ h.c1, e2 ▸ h.c2, h.lt, h1.is, h2.is, fun m hm => (h.kf m (List.mem_append_left _ hm)).now, fun m hm => (h.kf m (List.mem_append_right _ hm)).now, h.ft⟩

/-- what a call that writes the table leaves -/
def TPost (G : Nat → Prop) (base : Nat) (w : World) (p : Nat) (hv wv : Value) (hs' ws' : List ML) (w' : World) : Prop :=
  ∃ hv' wv', IsT G base w' p hv' wv' hs' ws' ∧ Keeps (Xt p hv wv) w w' ∧ AtB w hv hv' ∧ AtB w wv wv'

theorem TPost.refl {G : Nat → Prop} {base : Nat} {w : World} {p : Nat} {hv wv : Value} {hs ws : List ML} (h : IsT G base w p hv wv hs ws) : TPost G base w p hv wv hs ws w := ⟨hv, wv, h, kpSelf _ _, .inl rfl, .inl rfl⟩

theorem tpost_keep {G : Nat → Prop} {base : Nat} {w w' : World} {p : Nat} {hv wv : Value} {hs ws : List ML} (h : IsT G base w p hv wv hs ws) (hb : Below w.heap.size w w') : TPost G base w p hv wv hs ws w' := ⟨hv, wv, h.keep hb, Below.keeps hb _, .inl rfl, .inl rfl⟩

theorem atB_then {w w1 : World} {v v1 v2 : Value} (h : AtB w v v1) (k : AtB w1 v1 v2) (hs : w.heap.size ≤ w1.heap.size) : AtB w v v2 := by
  rcases k with k | ⟨g, k, hg⟩
  · rcases h with h | ⟨g, h, hg⟩
    · exact .inl (k.trans h)
    · exact .inr ⟨g, k.trans h, hg⟩
  · exact .inr ⟨g, k, Nat.le_trans hs hg⟩

theorem xt_step {w : World} {p : Nat} {hv wv hv' wv' : Value} (h1 : AtB w hv hv') (h2 : AtB w wv wv') : ∀ k, Xt p hv' wv' k → Xt p hv wv k ∨ w.heap.size ≤ k := by
  intro k hk
  rcases hk with hk | hk | hk
  · exact .inl (.inl hk)
  · rcases h1 with h | ⟨g, h, hg⟩
    · exact .inl (.inr (.inl (by rw [← h]; exact hk)))
    · rw [h] at hk; cases hk; exact .inr hg
  · rcases h2 with h | ⟨g, h, hg⟩
    · exact .inl (.inr (.inr (by rw [← h]; exact hk)))
    · rw [h] at hk; cases hk; exact .inr hg

theorem TPost.then {G : Nat → Prop} {base : Nat} {w w1 w2 : World} {p : Nat} {hv wv hv1 wv1 : Value} {hs ws : List ML} (hk : Keeps (Xt p hv wv) w w1) (h1 : AtB w hv hv1) (h2 : AtB w wv wv1) (k : TPost G base w1 p hv1 wv1 hs ws w2) : TPost G base w p hv wv hs ws w2 := by
  obtain ⟨hv2, wv2, g1, g2, g3, g4⟩ := k
  exact ⟨hv2, wv2, g1, kpThen hk (xt_step h1 h2) g2, atB_then h1 g3 hk.size, atB_then h2 g4 hk.size⟩

theorem TPost.ahead {G : Nat → Prop} {base : Nat} {w w1 w2 : World} {p : Nat} {hv wv : Value} {hs ws : List ML} (hb : Below w.heap.size w w1) (k : TPost G base w1 p hv wv hs ws w2) : TPost G base w p hv wv hs ws w2 := TPost.then (Below.keeps hb _) (.inl rfl) (.inl rfl) k

theorem pnew_any (w : World) (hF : FitW w) (G : Nat → Prop) (hG : ∀ k, G k → k < w.heap.size) : Calls Tryz.prog 23 #[] w fun e w' => ∃ hv wv, e = .returned (.pointer (some ⟨w.heap.size, 0, none⟩)) ∧ IsT G w.heap.size w' w.heap.size hv wv [] [] ∧ Below w.heap.size w w' := by
  have HF := hide hF
  clear hF
  go_enter Tryz.func23, Tryz.ntmps23
  go_wp2
  go_ret
  have hn := new_below w (.cells #[.bool true, .slice none 0 0, .slice none 0 0] 90)
  have hr := rangeY_new w w.heap.size #[.bool true, .slice none 0 0, .slice none 0 0] 90 rfl
  refine ⟨.slice none 0 0, .slice none 0 0, rfl, ⟨hr 0 _ rfl, hr 1 _ rfl, hr 2 _ rfl, fun j => fzY_new _ _ _ _, by simp, Nat.le_refl _, ownY_nil _ _, ownY_nil _ _, (by intro e; cases e), (by intro e; cases e), (by intro g e; cases e), (by simp), HF.out.keep hn, HF.out.2, (fun k hk => by have := hG k hk; simp; omega), fun k hk hg => ?_⟩, hn⟩
  rcases hk with rfl | hk | hk
  · have := hG _ hg; omega
  · cases hk
  · cases hk

theorem made_any (w : World) (p : Nat) (h : w.cell? ⟨p, 0, none⟩ = some (.bool true)) : Calls Tryz.prog 33 #[.pointer (some ⟨p, 0, none⟩)] w fun e w' => e = .returned (.bool true) ∧ w' = w := by
  go_enter Tryz.func33, Tryz.ntmps33
  go_wp2
  go_ret
  exact ⟨rfl, rfl⟩

set_option maxHeartbeats 1000000 in
theorem pcovered_any (w : World) (p : Nat) (ha : Option Addr) (hn hc : Nat) (wa : Option Addr) (wn wc : Nat) (hs ws : List ML) (h : TpA w p ha hn hc wa wn wc hs ws) (x : ML) (hx : x.ok w) :
    Calls Tryz.prog 141 #[.pointer (some ⟨p, 0, none⟩), .agg #[.int .u64 x.l.tx, .int .i64 x.l.lv, .int .i64 x.l.md, .slice x.la x.ln x.lc, .slice x.ha x.hn x.hc]] w fun e w' => e = .returned (.bool (hs.any (fun m => coversL m.l x.l))) ∧ Below w.heap.size w w' := by
  have hb := new_below w (.cells #[.int .u64 x.l.tx, .int .i64 x.l.lv, .int .i64 x.l.md, .slice x.la x.ln x.lc, .slice x.ha x.hn x.hc] 41)
  have h1 := h.keep hb
  have HC := hide (containsC_any ha hn hc hs (fun m => coversL m.l x.l) w.heap.size _ h1.h (fun W hW m hm => coverC_any m x w.heap.size W ((h1.ho m hm).keep hW) ((hx.keep hb).keep hW) ((at5_new w x).same (hW.block _ (by simp))) (Nat.lt_of_lt_of_le (by simp) hW.size)))
  have c1 := h1.c1
  have HB := hide hb
  have hne : ¬ w.heap.size = p := by have := h.lt; omega
  clear h hx hb h1
  go_enter Tryz.func141, Tryz.ntmps141
  go_wp2_with (first
    | (go_at_call 164; go_must (refine HC.out.mono ?_); rintro e w2 ⟨rfl, hb2⟩; have HB2 := hide hb2; clear hb2))
  go_ret
  exact ⟨rfl, HB.out.trans (HB2.out.mono HB.out.size)⟩

/-- where x waits -/
def PlaceP (x : ML) (ws : List ML) (e : Ending) : Prop :=
  ∃ k : Nat, e = .returned (.int .i64 k) ∧ k ≤ ws.length ∧ (ws.take k).all (fun m => !decide (m.l = x.l)) = true ∧ (k = ws.length ∨ ∃ m, ws[k]? = some m ∧ m.l = x.l)

set_option maxHeartbeats 2000000 in
theorem pplace_any (w : World) (p : Nat) (ha : Option Addr) (hn hc : Nat) (wa : Option Addr) (wn wc : Nat) (hs ws : List ML) (h : TpA w p ha hn hc wa wn wc hs ws) (x : ML) (hx : x.ok w) :
    Calls Tryz.prog 142 #[.pointer (some ⟨p, 0, none⟩), .agg #[.int .u64 x.l.tx, .int .i64 x.l.lv, .int .i64 x.l.md, .slice x.la x.ln x.lc, .slice x.ha x.hn x.hc]] w fun e w' => PlaceP x ws e ∧ Below w.heap.size w w' := by
  obtain ⟨w1, hw1⟩ : ∃ w1, w1 = w.alloc (.cells #[.int .u64 x.l.tx, .int .i64 x.l.lv, .int .i64 x.l.md, .slice x.la x.ln x.lc, .slice x.ha x.hn x.hc] 41) := ⟨_, rfl⟩
  have hb : Below w.heap.size w w1 := by rw [hw1]; exact new_below _ _
  have hs1 : w1.heap.size = w.heap.size + 1 := by rw [hw1]; simp
  have HX1 : Hid (At5 w1 w.heap.size 0 x) := by rw [hw1]; exact at5_new w x
  have H1 := hide (h.keep hb)
  have HXo := hide (hx.keep hb)
  have HB := hide hb
  have hlt0 := h.lt
  have hm : (wn : Int) ≤ 9223372036854775807 := by have := h.wt.2.1; have := h.wt.2.2.1; unfold maxLen at this; omega
  have HL := hide h.wt.1
  have c2 := H1.out.c2
  rw [hw1] at c2
  clear h hx hb
  go_enter Tryz.func142, Tryz.ntmps142
  go_wp2
  rw [← hw1]
  clear hw1 c2
  go_loopg [12] wn (fun gk i wr => ∃ k : Nat, gk = wn - k ∧ i = .int .i64 k ∧ k ≤ wn ∧ (ws.take k).all (fun m => !decide (m.l = x.l)) = true ∧ Below w1.heap.size w1 wr)
  case atStart => exact ⟨0, rfl, rfl, Nat.zero_le _, rfl, Below.refl _ _⟩
  case round =>
    obtain ⟨k, rfl, rfl, hk, hA, hB⟩ := hrel
    have HA := hide hA
    have HBr := hide hB
    have hsw := hB.size
    clear hA
    by_cases hlt : k < wn
    · have hlt' : (k : Int) < (wn : Int) := by omega
      obtain ⟨m, hmk⟩ := ml_at (hs := ws) (k := k) (by have := HL.out; omega)
      obtain ⟨g, off, rfl, hg, hC⟩ := H1.out.wt.at hlt
      obtain ⟨d0, d1, d2, d3, d4⟩ := at5_list (hC.same (hB.block g hg)) hmk
      have hbN := new_below wr (.cells #[.int .u64 m.l.tx, .int .i64 m.l.lv, .int .i64 m.l.md, .slice m.la m.ln m.lc, .slice m.ha m.hn m.hc] 41)
      have hb1N := hB.trans (hbN.mono hsw)
      obtain ⟨x0, x1, x2, x3, x4⟩ := (HX1.out.same (hb1N.block _ (by omega))).zero
      have HS := hide (psame_any m x _ ((H1.out.wo m (List.mem_of_getElem? hmk)).keep hb1N) (HXo.out.keep hb1N))
      have HMk := hide hmk
      have HMo := hide (all_moreK (p := fun m => !decide (m.l = x.l)) hmk)
      obtain ⟨z, hz⟩ : ∃ z, decide (m.l = x.l) = z := ⟨_, rfl⟩
      rw [hz] at HS HMo
      rw [HA.out] at HMo
      have HZ := hide hz
      have HBN := hide hbN
      clear hC hmk hB hz hbN hb1N
      cases z with
      | true =>
        go_wp2_with (first
          | (go_at_call 167; go_must (refine HS.out.mono ?_); rintro e w2 ⟨rfl, hb2⟩; have HB2 := hide hb2; clear hb2))
        go_ret
        exact ⟨⟨k, rfl, by have := HL.out; omega, HA.out, .inr ⟨m, HMk.out, by simpa using HZ.out⟩⟩, HB.out.trans ((HBr.out.trans ((HBN.out.trans (HB2.out.mono (by simp))).mono hsw)).mono (by omega))⟩
      | false =>
        go_wp2_with (first
          | (go_at_call 167; go_must (refine HS.out.mono ?_); rintro e w2 ⟨rfl, hb2⟩; have HB2 := hide hb2; clear hb2))
        go_roundg (wn - (k + 1))
        case measure => omega
        case rel => exact ⟨k + 1, rfl, by go_num, by omega, by rw [HMo.out]; rfl, HBr.out.trans ((HBN.out.trans (HB2.out.mono (by simp))).mono hsw)⟩
    · obtain rfl : k = wn := by omega
      have ek : ws.take k = ws := List.take_of_length_le (by have := HL.out; omega)
      have c2 := (H1.out.keep hB).c2
      clear hB
      go_wp2
      go_ret
      exact ⟨⟨k, rfl, by have := HL.out; omega, HA.out, .inl HL.out.symm⟩, HB.out.trans (HBr.out.mono (by omega))⟩

set_option maxHeartbeats 4000000 in
theorem pahead_any (w : World) (p : Nat) (ha : Option Addr) (hn hc : Nat) (wa : Option Addr) (wn wc : Nat) (hs ws : List ML) (h : TpA w p ha hn hc wa wn wc hs ws) (x : ML) (hx : x.ok w) (j : Nat) (hj : j ≤ wn) :
    Calls Tryz.prog 168 #[.pointer (some ⟨p, 0, none⟩), .agg #[.int .u64 x.l.tx, .int .i64 x.l.lv, .int .i64 x.l.md, .slice x.la x.ln x.lc, .slice x.ha x.hn x.hc], .int .i64 j] w fun e w' => ∃ a n c, e = .returned (.slice a n c) ∧ IsY layK w' a n c (if holdsL (hs.map ML.l) x.l = true then [] else ws.take j) ∧ Below w.heap.size w w' := by
  obtain ⟨rs, hrs⟩ : ∃ rs, (if holdsL (hs.map ML.l) x.l = true then [] else ws.take j) = rs := ⟨_, rfl⟩
  rw [hrs]
  have HRs := hide hrs
  clear hrs
  obtain ⟨w1, hw1⟩ : ∃ w1, w1 = w.alloc (.cells #[.int .u64 x.l.tx, .int .i64 x.l.lv, .int .i64 x.l.md, .slice x.la x.ln x.lc, .slice x.ha x.hn x.hc] 41) := ⟨_, rfl⟩
  have hb : Below w.heap.size w w1 := by rw [hw1]; exact new_below _ _
  have hs1 : w1.heap.size = w.heap.size + 1 := by rw [hw1]; simp
  have HX1 : Hid (At5 w1 w.heap.size 0 x) := by rw [hw1]; exact at5_new w x
  have H1 := hide (h.keep hb)
  have HXo := hide (hx.keep hb)
  have HB := hide hb
  have hlt0 := h.lt
  have hm : (hn : Int) ≤ 9223372036854775807 := by have := h.h.2.1; have := h.h.2.2.1; unfold maxLen at this; omega
  have hm2 : (wn : Int) ≤ 9223372036854775807 := by have := h.wt.2.1; have := h.wt.2.2.1; unfold maxLen at this; omega
  have HL := hide h.h.1
  have c1 := H1.out.c1
  rw [hw1] at c1
  clear h hx hb
  go_enter Tryz.func168, Tryz.ntmps168
  go_wp2
  rw [← hw1]
  clear hw1 c1
  go_loopg [14] hn (fun gk i wr => ∃ k : Nat, gk = hn - k ∧ i = .int .i64 k ∧ k ≤ hn ∧ holdsL ((hs.take k).map ML.l) x.l = false ∧ Below w1.heap.size w1 wr)
  case atStart => exact ⟨0, rfl, rfl, Nat.zero_le _, rfl, Below.refl _ _⟩
  case round =>
    obtain ⟨k, rfl, rfl, hk, hA, hB⟩ := hrel
    have HA := hide hA
    have HBr := hide hB
    have hsw := hB.size
    clear hA
    by_cases hlt : k < hn
    · have hlt' : (k : Int) < (hn : Int) := by omega
      obtain ⟨m, hmk⟩ := ml_at (hs := hs) (k := k) (by have := HL.out; omega)
      obtain ⟨g, off, rfl, hg, hC⟩ := H1.out.h.at hlt
      obtain ⟨d0, d1, d2, d3, d4⟩ := at5_list (hC.same (hB.block g hg)) hmk
      have hbN := new_below wr (.cells #[.int .u64 m.l.tx, .int .i64 m.l.lv, .int .i64 m.l.md, .slice m.la m.ln m.lc, .slice m.ha m.hn m.hc] 41)
      have hb1N := hB.trans (hbN.mono hsw)
      obtain ⟨x0, x1, x2, x3, x4⟩ := (HX1.out.same (hb1N.block _ (by omega))).zero
      have HS := hide (meet_any m x _ ((H1.out.ho m (List.mem_of_getElem? hmk)).keep hb1N) (HXo.out.keep hb1N))
      have HMo := hide (holds_more (x := x) hmk)
      rw [meetsL_meet, HA.out] at HMo
      obtain ⟨z, hz⟩ : ∃ z, meetK m.l x.l = z := ⟨_, rfl⟩
      rw [hz] at HS HMo
      have HBN := hide hbN
      clear hC hmk hB hz hbN hb1N
      by_cases ht : m.l.tx = x.l.tx
      · have ht' : (m.l.tx == x.l.tx) = true := by simp [ht]
        rw [ht'] at HMo
        clear ht
        by_cases hv : m.l.lv = x.l.lv
        · have hv' : (m.l.lv == x.l.lv) = true := by simp [hv]
          rw [hv'] at HMo
          clear hv
          cases z with
          | true =>
            go_wp2_with (first
              | (go_at_call 186; go_must (refine HS.out.mono ?_); rintro e w2 ⟨rfl, hb2⟩; have HB2 := hide hb2; clear hb2))
            go_ret
            refine ⟨none, 0, 0, rfl, ?_, HB.out.trans ((HBr.out.trans ((HBN.out.trans (HB2.out.mono (by simp))).mono hsw)).mono (by omega))⟩
            rw [← HRs.out, if_pos (holds_pre (k := k + 1) (by rw [HMo.out]; rfl))]
            exact isY_nil _
          | false =>
            go_wp2_with (first
              | (go_at_call 186; go_must (refine HS.out.mono ?_); rintro e w2 ⟨rfl, hb2⟩; have HB2 := hide hb2; clear hb2))
            go_roundg (hn - (k + 1))
            case measure => omega
            case rel => exact ⟨k + 1, rfl, by go_num, by omega, by rw [HMo.out]; rfl, HBr.out.trans ((HBN.out.trans (HB2.out.mono (by simp))).mono hsw)⟩
        · have hv' : (m.l.lv == x.l.lv) = false := by simp [hv]
          rw [hv'] at HMo
          clear hv
          go_wp2
          go_roundg (hn - (k + 1))
          case measure => omega
          case rel => exact ⟨k + 1, rfl, by go_num, by omega, by rw [HMo.out]; rfl, HBr.out.trans (HBN.out.mono hsw)⟩
      · have ht' : (m.l.tx == x.l.tx) = false := by simp [ht]
        rw [ht'] at HMo
        clear ht
        go_wp2
        go_roundg (hn - (k + 1))
        case measure => omega
        case rel => exact ⟨k + 1, rfl, by go_num, by omega, by rw [HMo.out]; rfl, HBr.out.trans (HBN.out.mono hsw)⟩
    · obtain rfl : k = hn := by omega
      have ek : hs.take k = hs := List.take_of_length_le (by have := HL.out; omega)
      rw [ek] at HA
      have c2 := (H1.out.keep hB).c2
      obtain ⟨b, hcut, hY⟩ := isY_cut layK (H1.out.keep hB).wt j hj
      have hcut' : ∀ W, (Instr.sliceAt 33 (.slice wa wn wc) none (some (.int .i64 (j : Int))) none).run Tryz.prog W = .ok (.slice b j wc) W := hcut
      have HY := hide hY
      clear hB hcut hY
      go_wp2
      go_ret
      refine ⟨b, j, wc, rfl, ?_, HB.out.trans (HBr.out.mono (by omega))⟩
      rw [← HRs.out, if_neg (by rw [HA.out]; simp)]
      exact HY.out

end Go.Proofs.YtcgiicmmfleinaaGreatDoor

namespace Go.Proofs.YtcgiicmmfleinaaGreatDoor
open Go.RowKit NumMath Go.ChangeShapes Go.WideShapes Go.Deep
set_option linter.unusedVariables false
set_option maxRecDepth 100000

set_option maxHeartbeats 1000000 in
theorem without_any (base : Nat) (a : Option Addr) (n c : Nat) (xs : List ML) (tx : Int) (w : World) (h : OwnY layK w base (.slice a n c) xs) :
    Calls Tryz.prog 118 #[.slice a n c, .int .u64 tx] w fun e w' => DelP base w a n c xs tx e w' := by
  have hb := new_below w (.cells #[.int .u64 tx] 31)
  have HD := hide (delK_any base a n c xs tx w.heap.size _ (h.keep hb) (show (w.alloc (.cells #[.int .u64 tx] 31)).cell? ⟨w.heap.size, 0, none⟩ = some (.int .u64 tx) by simp) (by simp) (fun e => by have := (h.lt _ e).2; omega))
  have HB := hide hb
  clear h hb
  go_enter Tryz.func118, Tryz.ntmps118
  go_wp2_with (first
    | (go_at_call 147; go_must (refine HD.out.mono ?_); rintro e w2 ⟨n', rfl, ho, hk⟩; have HO := hide ho; have HK := hide hk; clear ho hk))
  go_ret
  exact ⟨n', rfl, HO.out, kpThen (Below.keeps HB.out _) (fun k hk => .inl hk) HK.out⟩

/-- what waits laid anew -/
theorem IsT.relW {G : Nat → Prop} {base : Nat} {w w2 : World} {p : Nat} {hv wv v' : Value} {hs ws l' : List ML} (h : IsT G base w p hv wv hs ws) (hk : Keeps (fun k => wv.ownBlock = some k) w w2) (ho : OwnY layK w2 base v' l') (ha : AtB w wv v') (hf : ∀ m ∈ l', Foot (fun k => Xt p hv v' k ∨ G k) w2 (fun V => m.ok V)) : TPost G base w p hv wv hs l' (w2.setCell ⟨p, 2, none⟩ v') := by
  have hk2 := keepsY_cell (w := w2) (g := p) (i := 2) v'
  have hkT : Keeps (Xt p hv wv) w (w2.setCell ⟨p, 2, none⟩ v') := kpThen (Keeps.wider hk (fun k hk => .inr (.inr hk))) (fun k hk => .inl (.inl hk)) hk2
  have hpb : w2.heap[p]? = w.heap[p]? := hk.block p h.lt h.wp
  have c0 := (World.cell?_of_block (a := ⟨p, 0, none⟩) hpb).trans h.c0
  have c1 := (World.cell?_of_block (a := ⟨p, 1, none⟩) hpb).trans h.c1
  have c2 := (World.cell?_of_block (a := ⟨p, 2, none⟩) hpb).trans h.c2
  have hv'p : v'.ownBlock ≠ some p := by
    intro e
    rcases ha with ha | ⟨g, ha, hg⟩
    · rw [ha] at e; exact h.wp e
    · rw [ha] at e; cases e; have := h.lt; omega
  have hst : ∀ k, Xt p hv v' k → Xt p hv wv k ∨ w.heap.size ≤ k := xt_step (.inl rfl) ha
  refine ⟨hv, v', ⟨?_, ?_, ?_, fun j => ?_, Nat.lt_of_lt_of_le h.lt hkT.size, h.pb, ?_, ?_, h.hp, hv'p, ?_, fun m hm => ?_, h.ft.lies hkT h.zero, h.b0, fun k hk2 => Nat.lt_of_lt_of_le (h.gl k hk2) hkT.size, fun k hk2 hg => ?_⟩, hkT, (.inl rfl), ha⟩
  · rw [cell_offY (by decide)]; exact c0
  · rw [cell_offY (by decide)]; exact c1
  · exact World.cell?_setCell_same' _ _ _ (by rw [c2]; rfl)
  · rw [World.frozen?_setCell]
    exact (World.frozen?_of_block (a := ⟨p, j, none⟩) hpb).trans (h.fz j)
  · exact h.ho.lies (fun g hg => (hk2.block g (Nat.lt_of_lt_of_le (h.ho.lt g hg).2 hk.size) (fun e => h.hp (by rw [← e]; exact hg))).trans (hk.block g (h.ho.lt g hg).2 (fun e => h.hw g hg e)))
  · exact ho.lies (fun g hg => hk2.block g (ho.lt g hg).2 (fun e => hv'p (by rw [← e]; exact hg)))
  · intro g h1 h2
    rcases ha with ha | ⟨g2, ha, hg2⟩
    · rw [ha] at h2; exact h.hw g h1 h2
    · rw [ha] at h2; cases h2; have := (h.ho.lt _ h1).2; omega
  · rcases List.mem_append.1 hm with hm | hm
    · exact (h.kf m (List.mem_append_left _ hm)).step (Keeps.wider hkT (fun k hk => .inl hk)) (fun k hk3 => by
        rcases hk3 with hk3 | hk3
        · rcases hst k hk3 with h1 | h1
          · exact .inl (.inl h1)
          · exact .inr h1
        · exact .inl (.inr hk3))
    · exact (hf m hm).step (Keeps.wider hk2 (fun k (hk : k = p) => .inl (.inl hk))) (fun k hk3 => .inl hk3)
  · rcases hst k hk2 with h1 | h1
    · exact h.gx k h1 hg
    · have := h.gl k hg; omega

/-- what is held laid anew -/
theorem IsT.relH {G : Nat → Prop} {base : Nat} {w w2 : World} {p : Nat} {hv wv v' : Value} {hs ws l' : List ML} (h : IsT G base w p hv wv hs ws) (hk : Keeps (fun k => hv.ownBlock = some k) w w2) (ho : OwnY layK w2 base v' l') (ha : AtB w hv v') (hf : ∀ m ∈ l', Foot (fun k => Xt p v' wv k ∨ G k) w2 (fun V => m.ok V)) : TPost G base w p hv wv l' ws (w2.setCell ⟨p, 1, none⟩ v') := by
  have hk2 := keepsY_cell (w := w2) (g := p) (i := 1) v'
  have hkT : Keeps (Xt p hv wv) w (w2.setCell ⟨p, 1, none⟩ v') := kpThen (Keeps.wider hk (fun k hk => .inr (.inl hk))) (fun k hk => .inl (.inl hk)) hk2
  have hpb : w2.heap[p]? = w.heap[p]? := hk.block p h.lt h.hp
  have c0 := (World.cell?_of_block (a := ⟨p, 0, none⟩) hpb).trans h.c0
  have c1 := (World.cell?_of_block (a := ⟨p, 1, none⟩) hpb).trans h.c1
  have c2 := (World.cell?_of_block (a := ⟨p, 2, none⟩) hpb).trans h.c2
  have hv'p : v'.ownBlock ≠ some p := by
    intro e
    rcases ha with ha | ⟨g, ha, hg⟩
    · rw [ha] at e; exact h.hp e
    · rw [ha] at e; cases e; have := h.lt; omega
  have hst : ∀ k, Xt p v' wv k → Xt p hv wv k ∨ w.heap.size ≤ k := xt_step ha (.inl rfl)
  refine ⟨v', wv, ⟨?_, ?_, ?_, fun j => ?_, Nat.lt_of_lt_of_le h.lt hkT.size, h.pb, ?_, ?_, hv'p, h.wp, ?_, fun m hm => ?_, h.ft.lies hkT h.zero, h.b0, fun k hk2 => Nat.lt_of_lt_of_le (h.gl k hk2) hkT.size, fun k hk2 hg => ?_⟩, hkT, ha, (.inl rfl)⟩
  · rw [cell_offY (by decide)]; exact c0
  · exact World.cell?_setCell_same' _ _ _ (by rw [c1]; rfl)
  · rw [cell_offY (by decide)]; exact c2
  · rw [World.frozen?_setCell]
    exact (World.frozen?_of_block (a := ⟨p, j, none⟩) hpb).trans (h.fz j)
  · exact ho.lies (fun g hg => hk2.block g (ho.lt g hg).2 (fun e => hv'p (by rw [← e]; exact hg)))
  · exact h.wo.lies (fun g hg => (hk2.block g (Nat.lt_of_lt_of_le (h.wo.lt g hg).2 hk.size) (fun e => h.wp (by rw [← e]; exact hg))).trans (hk.block g (h.wo.lt g hg).2 (fun e => h.hw g e hg)))
  · intro g h1 h2
    rcases ha with ha | ⟨g2, ha, hg2⟩
    · rw [ha] at h1; exact h.hw g h1 h2
    · rw [ha] at h1; cases h1; have := (h.wo.lt _ h2).2; omega
  · rcases List.mem_append.1 hm with hm | hm
    · exact (hf m hm).step (Keeps.wider hk2 (fun k (hk : k = p) => .inl (.inl hk))) (fun k hk3 => .inl hk3)
    · exact (h.kf m (List.mem_append_right _ hm)).step (Keeps.wider hkT (fun k hk => .inl hk)) (fun k hk3 => by
        rcases hk3 with hk3 | hk3
        · rcases hst k hk3 with h1 | h1
          · exact .inl (.inl h1)
          · exact .inr h1
        · exact .inl (.inr hk3))
  · rcases hst k hk2 with h1 | h1
    · exact h.gx k h1 hg
    · have := h.gl k hg; omega

theorem atB_cut {w : World} {a : Option Addr} {n n' c : Nat} : AtB w (.slice a n c) (.slice a n' c) := .inl (by cases a <;> rfl)

set_option maxHeartbeats 1000000 in
theorem pleave_any {G : Nat → Prop} {base : Nat} {w : World} {p : Nat} {hv wv : Value} {hs ws : List ML} (h : IsT G base w p hv wv hs ws) (tx : Int) :
    Calls Tryz.prog 119 #[.pointer (some ⟨p, 0, none⟩), .int .u64 tx] w fun e w' => e = .returned (.tuple #[]) ∧ TPost G base w p hv wv hs (ws.filter (fun m => m.l.tx != tx)) w' := by
  obtain ⟨ha, hn, hc, wa, wn, wc, rfl, rfl, hT⟩ := h.read
  have HW := hide (without_any base wa wn wc ws tx w h.wo)
  have H := hide h
  have c2 := hT.c2
  clear h hT
  go_enter Tryz.func119, Tryz.ntmps119
  go_wp2_with (first
    | (go_at_call 118; go_must (refine HW.out.mono ?_); rintro e w2 ⟨n', rfl, ho, hk⟩; have d2 := (World.cell?_of_block (a := ⟨p, 2, none⟩) (hk.block p H.out.lt H.out.wp)).trans H.out.c2; have f2 := (World.frozen?_of_block (a := ⟨p, 2, none⟩) (hk.block p H.out.lt H.out.wp)).trans (H.out.fz 2); have HO := hide ho; have HK := hide hk; clear ho hk))
  go_end0
  refine ⟨rfl, H.out.relW HK.out HO.out atB_cut (fun m hm => ?_)⟩
  exact (H.out.kf m (List.mem_append_right _ (List.mem_filter.1 hm).1)).step (Keeps.wider HK.out (fun k hk => .inl (.inr (.inr hk)))) (fun k hk => .inl (by rcases hk with (hk | hk | hk) | hk; exact .inl (.inl hk); exact .inl (.inr (.inl hk)); exact .inl (.inr (.inr (by rw [← hk]; cases wa <;> rfl))); exact .inr hk))

set_option maxHeartbeats 1000000 in
theorem pfree_any {G : Nat → Prop} {base : Nat} {w : World} {p : Nat} {hv wv : Value} {hs ws : List ML} (h : IsT G base w p hv wv hs ws) (tx : Int) :
    Calls Tryz.prog 79 #[.pointer (some ⟨p, 0, none⟩), .int .u64 tx] w fun e w' => e = .returned (.int .i64 ((hs.length - (hs.filter (fun m => m.l.tx != tx)).length : Nat) : Int)) ∧ TPost G base w p hv wv (hs.filter (fun m => m.l.tx != tx)) (ws.filter (fun m => m.l.tx != tx)) w' := by
  obtain ⟨ha, hn, hc, wa, wn, wc, rfl, rfl, hT⟩ := h.read
  have HW := hide (without_any base ha hn hc hs tx w h.ho)
  have H := hide h
  have c0 := hT.c0
  have c1 := hT.c1
  have HL := hide hT.h.1
  have hm : (hn : Int) ≤ 9223372036854775807 := by have := hT.h.2.1; have := hT.h.2.2.1; unfold maxLen at this; omega
  clear h hT
  go_enter Tryz.func79, Tryz.ntmps79
  go_upto_region 5 with (first
    | (go_at_call 33; go_must (refine (made_any _ p H.out.c0).mono ?_); rintro e w2 ⟨rfl, hw⟩; have hw := hw.symm; subst hw)
    | (go_at_call 118; go_must (refine HW.out.mono ?_); rintro e w2 ⟨n', rfl, ho, hk⟩; have d1 := (World.cell?_of_block (a := ⟨p, 1, none⟩) (hk.block p H.out.lt H.out.hp)).trans H.out.c1; have f1 := (World.frozen?_of_block (a := ⟨p, 1, none⟩) (hk.block p H.out.lt H.out.hp)).trans (H.out.fz 1); have HO := hide ho; have HK := hide hk; clear ho hk))
  have HP3 := hide (H.out.relH HK.out HO.out atB_cut (fun m hm => (H.out.kf m (List.mem_append_left _ (List.mem_filter.1 hm).1)).step (Keeps.wider HK.out (fun k hk => .inl (.inr (.inl hk)))) (fun k hk => .inl (by rcases hk with (hk | hk | hk) | hk; exact .inl (.inl hk); exact .inl (.inr (.inl (by rw [← hk]; cases ha <;> rfl))); exact .inl (.inr (.inr hk)); exact .inr hk))))
  obtain ⟨W3, hW3⟩ : ∃ W, W = w2.setCell ⟨p, 1, none⟩ (.slice ha n' hc) := ⟨_, rfl⟩
  rw [← hW3] at HP3
  rw [← hW3]
  clear hW3 c0 c1 d1 f1
  obtain ⟨hv3, wv3, hI3, hk3, ha3, hb3⟩ := HP3.out
  have HLv := hide (pleave_any hI3 tx)
  have HK3 := hide hk3
  have HA3 := hide ha3
  have HB3 := hide hb3
  have HLn : Hid ((hs.filter (fun m => m.l.tx != tx)).length ≤ hn) := by show _ ≤ _; have := List.length_filter_le (fun m : ML => m.l.tx != tx) hs; have := HL.out; omega
  clear hI3 hk3 ha3 hb3
  go_wp2_with (first
    | (go_at_call 119; go_must (refine HLv.out.mono ?_); rintro e w4 ⟨rfl, hp4⟩; obtain ⟨hv4, wv4, hI4, hk4, ha4, hb4⟩ := hp4; obtain ⟨xa, xn, xc, ya, yn, yc, e1, e2, hT4⟩ := hI4.read; have e1c := hT4.c1; have HX4 := hide hT4.h.1; (have hxn : (xn : Int) ≤ (hn : Int) := (by have := HLn.out; have := hT4.h.1; omega)); have HI4 := hide hI4; have HK4 := hide hk4; have HA4 := hide ha4; have HB4 := hide hb4; clear hI4 hk4 ha4 hb4 hT4 e1 e2))
  go_ret
  refine ⟨?_, TPost.then HK3.out HA3.out HB3.out ⟨hv4, wv4, HI4.out, HK4.out, HA4.out, HB4.out⟩⟩
  have e1 := HL.out
  have e2 := HX4.out
  have e3 := HLn.out
  rw [e1, e2]
  rw [e2] at e3
  congr 2
  go_num

/-- what hold leaves -/
def HoldP (G : Nat → Prop) (base : Nat) (w : World) (p : Nat) (hv wv : Value) (hs ws : List ML) (x : ML) (e : Ending) (w' : World) : Prop :=
  (400 ≤ hs.length ∧ e = .returned (.tuple #[.bool false, .int .i64 132]) ∧ TPost G base w p hv wv hs (ws.filter (fun m => m.l.tx != x.l.tx)) w') ∨
  (hs.length < 400 ∧ e = .returned (.tuple #[.bool true, .int .i64 0]) ∧ ∃ y : ML, y.l = x.l ∧ TPost G base w p hv wv (hs ++ [y]) (ws.filter (fun m => m.l.tx != x.l.tx)) w')

theorem grown_kp {w w' : World} {v : Value} (h : w.grownBy w' v.ownBlock) : Keeps (fun k => v.ownBlock = some k) w w' := ⟨h.os, h.tape, h.output, h.size, fun k hk hn => h.block k hk (fun e => hn e.symm)⟩

set_option maxHeartbeats 4000000 in
theorem phold_any {G : Nat → Prop} {base : Nat} {w : World} {p : Nat} {hv wv : Value} {hs ws : List ML} (h : IsT G base w p hv wv hs ws) (x : ML) (hx : Foot (Xt p hv wv) w (fun V => x.ok V)) (hln : x.ln ≤ 1000000) (hhn : x.hn ≤ 1000000) :
    Calls Tryz.prog 144 #[.pointer (some ⟨p, 0, none⟩), .agg #[.int .u64 x.l.tx, .int .i64 x.l.lv, .int .i64 x.l.md, .slice x.la x.ln x.lc, .slice x.ha x.hn x.hc]] w fun e w' => HoldP G base w p hv wv hs ws x e w' := by
  obtain ⟨w1, hw1⟩ : ∃ w1, w1 = w.alloc (.cells #[.int .u64 x.l.tx, .int .i64 x.l.lv, .int .i64 x.l.md, .slice x.la x.ln x.lc, .slice x.ha x.hn x.hc] 41) := ⟨_, rfl⟩
  have hb : Below w.heap.size w w1 := by rw [hw1]; exact new_below _ _
  have hs1 : w1.heap.size = w.heap.size + 1 := by rw [hw1]; simp
  have hA1 : At5 w1 w.heap.size 0 x := by rw [hw1]; exact at5_new w x
  have HLv := hide (pleave_any (h.keep hb) x.l.tx)
  have HA1 := hide hA1
  have HX1 := hide (hx.keep hb)
  have HB := hide hb
  have HNx : Hid (∀ k, Xt p hv wv k → k < w.heap.size) := fun k hk => (h.xl k hk).2
  obtain ⟨x0, -, -, -, -⟩ := hA1.zero
  rw [hw1] at x0
  have hs1' := hide hs1
  clear h hx hA1 hb x0
  go_enter Tryz.func144, Tryz.ntmps144
  go_upto_region 2 with (first
    | (go_at_call 119; rw [← hw1]; go_must (refine HLv.out.mono ?_); rintro e w2 ⟨rfl, hp2⟩; have HP2 := hide hp2; clear hp2))
  clear hw1
  obtain ⟨hv2, wv2, hI2, hk2, ha2, hb2⟩ := HP2.out
  obtain ⟨a2, n2, c2, ya, yn, yc, rfl, e2, hT2⟩ := hI2.read
  have d1 := hT2.c1
  have HL := hide hT2.h.1
  have hnb : w.heap.size < w1.heap.size := by omega
  have HXok := hide (HX1.out.step (Y := Xt p hv wv) hk2 (fun k hk => .inl hk))
  have hA2 : At5 w2 w.heap.size 0 x := HA1.out.same (hk2.block _ hnb (fun e => by have := HNx.out _ e; omega))
  have HA2 := hide hA2
  have HNh : Hid ((Value.slice a2 n2 c2).ownBlock ≠ some w.heap.size) := by
    intro e
    rcases ha2 with h1 | ⟨g, h1, hg⟩
    · rw [h1] at e; have := HNx.out _ (.inr (.inl e)); omega
    · rw [h1] at e; cases e; omega
  have HK2 := hide (kpThen (Below.keeps HB.out (Xt p hv wv)) (fun k hk => .inl hk) hk2)
  have HAt2 := hide (atB_then (w := w) (.inl rfl) ha2 HB.out.size)
  have HBt2 := hide (atB_then (w := w) (.inl rfl) hb2 HB.out.size)
  have HI2 := hide hI2
  have hs2 := hk2.size
  clear hI2 hk2 ha2 hb2 hT2 e2 hA2
  by_cases h4 : 400 ≤ n2
  · have h4' : (400 : Int) ≤ (n2 : Int) := by omega
    go_wp2
    go_ret2
    exact .inl ⟨by have := HL.out; omega, rfl, TPost.then HK2.out HAt2.out HBt2.out (TPost.refl HI2.out)⟩
  · have h4' : ¬ (400 : Int) ≤ (n2 : Int) := by omega
    go_upto_region 4 with fail
    have HV : Hid (∀ V, Keeps (fun k => (Value.slice a2 n2 c2).ownBlock = some k) w2.drew V → V.cell? ⟨p, 1, none⟩ = some (.slice a2 n2 c2) ∧ V.cell? ⟨w.heap.size, 0, none⟩ = some (.int .u64 x.l.tx) ∧ V.cell? ⟨w.heap.size, 1, none⟩ = some (.int .i64 x.l.lv) ∧ V.cell? ⟨w.heap.size, 2, none⟩ = some (.int .i64 x.l.md) ∧ V.cell? ⟨w.heap.size, 3, none⟩ = some (.slice x.la x.ln x.lc) ∧ V.cell? ⟨w.heap.size, 4, none⟩ = some (.slice x.ha x.hn x.hc)) := fun V hV =>
      ⟨(World.cell?_of_block (a := ⟨p, 1, none⟩) (hV.block p HI2.out.lt HI2.out.hp)).trans HI2.out.c1, (HA2.out.same (hV.block w.heap.size (by show w.heap.size < w2.heap.size; omega) (fun e => HNh.out e))).zero⟩
    refine startG (fun V => Keeps (fun k => (Value.slice a2 n2 c2).ownBlock = some k) w2.drew V) (fun i => i == 11) (by kernel_rfl) ?_
    refine' takeG (i := 0) (v := _) rfl (by kernel_rfl) (by kernel_rfl) (by kernel_rfl) (by kernel_rfl) (fun _ _ _ h => h) (by rfl) (kpSelf _ _) ?_ ?_; rotate_left
    · (intro V hSV; obtain ⟨t1, x0, x1, x2, x3, x4⟩ := HV.out V hSV; go_simp; all_goals (with_reducible rfl))
    (try simp only [Act.put, List.setIfInBounds_toArray, List.set_cons_zero, List.set_cons_succ])
    refine' takeG (i := 1) (v := _) rfl (by kernel_rfl) (by kernel_rfl) (by kernel_rfl) (by kernel_rfl) (fun _ _ _ h => h) (by rfl) (kpSelf _ _) ?_ ?_; rotate_left
    · (intro V hSV; obtain ⟨t1, x0, x1, x2, x3, x4⟩ := HV.out V hSV; go_simp; all_goals (with_reducible rfl))
    (try simp only [Act.put, List.setIfInBounds_toArray, List.set_cons_zero, List.set_cons_succ])
    refine' takeG (i := 2) (v := _) rfl (by kernel_rfl) (by kernel_rfl) (by kernel_rfl) (by kernel_rfl) (fun _ _ _ h => h) (by rfl) (kpSelf _ _) ?_ ?_; rotate_left
    · (intro V hSV; obtain ⟨t1, x0, x1, x2, x3, x4⟩ := HV.out V hSV; go_simp; all_goals (with_reducible rfl))
    (try simp only [Act.put, List.setIfInBounds_toArray, List.set_cons_zero, List.set_cons_succ])
    refine' takeG (i := 3) (v := _) rfl (by kernel_rfl) (by kernel_rfl) (by kernel_rfl) (by kernel_rfl) (fun _ _ _ h => h) (by rfl) (kpSelf _ _) ?_ ?_; rotate_left
    · (intro V hSV; obtain ⟨t1, x0, x1, x2, x3, x4⟩ := HV.out V hSV; go_simp; all_goals (with_reducible rfl))
    (try simp only [Act.put, List.setIfInBounds_toArray, List.set_cons_zero, List.set_cons_succ])
    refine' takeG (i := 4) (v := _) rfl (by kernel_rfl) (by kernel_rfl) (by kernel_rfl) (by kernel_rfl) (fun _ _ _ h => h) (by rfl) (kpSelf _ _) ?_ ?_; rotate_left
    · (intro V hSV; obtain ⟨t1, x0, x1, x2, x3, x4⟩ := HV.out V hSV; go_simp; all_goals (with_reducible rfl))
    (try simp only [Act.put, List.setIfInBounds_toArray, List.set_cons_zero, List.set_cons_succ])
    refine' takeG (i := 5) (v := _) rfl (by kernel_rfl) (by kernel_rfl) (by kernel_rfl) (by kernel_rfl) (fun _ _ _ h => h) (by rfl) (kpSelf _ _) ?_ ?_; rotate_left
    · (intro V hSV; obtain ⟨t1, x0, x1, x2, x3, x4⟩ := HV.out V hSV; go_simp; all_goals (with_reducible rfl))
    (try simp only [Act.put, List.setIfInBounds_toArray, List.set_cons_zero, List.set_cons_succ])
    refine callE (i := 6) rfl (by kernel_rfl) (fun K hK => ?_)
    go_simp
    refine (pcopyOf_any x w2.drew (HXok.out.keep (Below.refl _ w2).drew).now hln hhn).mono ?_
    rintro e w3 ⟨y, rfl, hyl, hyf, hb3⟩
    have HYl := hide hyl
    have HYf := hide hyf
    have HB3 := hide (below_undrew hb3)
    refine hK.out _ _ (fun _ => Below.keeps hb3 _) ?_
    clear hyl hyf hb3
    clear hK K
    (try simp only [Act.put, List.setIfInBounds_toArray, List.set_cons_zero, List.set_cons_succ])
    have hb4 := HB3.out.trans ((new_below w3 (.cells #[.int .u64 y.l.tx, .int .i64 y.l.lv, .int .i64 y.l.md, .slice y.la y.ln y.lc, .slice y.ha y.hn y.hc] 41)).mono HB3.out.size)
    have hb4d : Keeps (fun k => (Value.slice a2 n2 c2).ownBlock = some k) w2.drew (w3.alloc (.cells #[.int .u64 y.l.tx, .int .i64 y.l.lv, .int .i64 y.l.md, .slice y.la y.ln y.lc, .slice y.ha y.hn y.hc] 41)) := Below.keeps (⟨hb4.os, hb4.tape, hb4.output, hb4.size, hb4.block⟩ : Below w2.drew.heap.size w2.drew (w3.alloc (.cells #[.int .u64 y.l.tx, .int .i64 y.l.lv, .int .i64 y.l.md, .slice y.la y.ln y.lc, .slice y.ha y.hn y.hc] 41))) _
    refine callE (i := 7) rfl (by kernel_rfl) (fun K hK => ?_)
    go_simp
    refine hK.out _ _ (fun _ => hb4d) ?_
    clear hK K
    (try simp only [Act.put, List.setIfInBounds_toArray, List.set_cons_zero, List.set_cons_succ])
    have HOne : Hid (OwnY layK (w3.alloc (.cells #[.int .u64 y.l.tx, .int .i64 y.l.lv, .int .i64 y.l.md, .slice y.la y.ln y.lc, .slice y.ha y.hn y.hc] 41)) w3.heap.size (.slice (some ⟨w3.heap.size, 0, none⟩) 1 1) [y]) := ownY_one (L := layK) w3 w3.heap.size #[.int .u64 y.l.tx, .int .i64 y.l.lv, .int .i64 y.l.md, .slice y.la y.ln y.lc, .slice y.ha y.hn y.hc] y (Nat.le_refl _) rfl
    have HH4 := hide ((HI2.out.ho.keep hb4))
    have HYf4 := hide (HYf.out.keep (new_below w3 (.cells #[.int .u64 y.l.tx, .int .i64 y.l.lv, .int .i64 y.l.md, .slice y.la y.ln y.lc, .slice y.ha y.hn y.hc] 41)))
    have hbl := HI2.out.bl
    have hs4 := hb4.size
    obtain ⟨w4, hw4⟩ : ∃ w4, w4 = w3.alloc (.cells #[.int .u64 y.l.tx, .int .i64 y.l.lv, .int .i64 y.l.md, .slice y.la y.ln y.lc, .slice y.ha y.hn y.hc] 41) := ⟨_, rfl⟩
    rw [← hw4] at HOne HH4 HYf4 hb4 hb4d hs4
    rw [← hw4]
    clear hw4
    refine callE (i := 8) rfl (by kernel_rfl) (fun K hK => ?_)
    refine step_joinY layK _ (by rfl) (.tmp 20) (.tmp 23) (by rfl) base (.slice a2 n2 c2) hs (by rfl) HH4.out (some ⟨w3.heap.size, 0, none⟩) 1 1 [y] (by rfl) HOne.out.is.src (by have := HL.out; simp only [List.length_singleton]; omega) (by omega) ?_
    intro v5 w5 hown5 hg5 hat5
    obtain ⟨a5, n5, c5, rfl⟩ := hown5.any3
    have HO5 := hide hown5
    have HK5 : Hid (Keeps (fun k => (Value.slice a2 n2 c2).ownBlock = some k) w2 w5) := kpThen (Below.keeps hb4 _) (fun k hk => .inl hk) (grown_kp hg5)
    have HAt5 : Hid (AtB w2 (.slice a2 n2 c2) (.slice a5 n5 c5)) := atB_then (.inl rfl) hat5 hs4
    have HY5 : Hid (Foot (fun k => Xt p (.slice a5 n5 c5) wv2 k ∨ G k) w5 (fun V => y.ok V)) := HYf4.out.step (Keeps.wider (grown_kp hg5) (fun k hk => (HI2.out.ho.lt k hk).2)) (fun k hk => by
      rcases hk with hk | hk
      · rcases xt_step (w := w4) (hv := .slice a2 n2 c2) (wv := wv2) hat5 (.inl rfl) k hk with h1 | h1
        · exact .inl (HI2.out.xl k h1).2
        · exact .inr h1
      · exact .inl (HI2.out.gl k hk))
    have hS5 : Keeps (fun k => (Value.slice a2 n2 c2).ownBlock = some k) w2.drew w5 := kpThen hb4d (fun k hk => .inl hk) (grown_kp hg5)
    refine hK.out _ _ (fun _ => hS5) ?_
    clear hown5 hg5 hat5
    clear hK K
    (try simp only [Act.put, List.setIfInBounds_toArray, List.set_cons_zero, List.set_cons_succ])
    refine callE (i := 9) rfl (by kernel_rfl) (fun K hK => ?_)
    go_simp
    refine hK.out _ _ (fun _ => hS5) ?_
    clear hK K
    (try simp only [Act.put, List.setIfInBounds_toArray, List.set_cons_zero, List.set_cons_succ])
    refine callE (i := 10) rfl (by kernel_rfl) (fun K hK => ?_)
    go_simp
    refine hK.out _ _ (fun _ => hS5) ?_
    clear hK K
    (try simp only [Act.put, List.setIfInBounds_toArray, List.set_cons_zero, List.set_cons_succ])
    have t5 := (HV.out _ hS5).1
    have f5 : w5.frozen? ⟨p, 1, none⟩ = false := (World.frozen?_of_block (a := ⟨p, 1, none⟩) (hS5.block p HI2.out.lt HI2.out.hp)).trans (HI2.out.fz 1)
    refine callE (i := 11) rfl (by kernel_rfl) (fun K hK => ?_)
    go_simp
    refine hK.out _ _ (fun h => by cases h) ?_
    clear hK K
    (try simp only [Act.put, List.setIfInBounds_toArray, List.set_cons_zero, List.set_cons_succ])
    refine doneE (by kernel_rfl) ?_ _
    go_wp2
    go_ret2
    refine .inr ⟨by have := HL.out; omega, rfl, y, HYl.out, TPost.then HK2.out HAt2.out HBt2.out ?_⟩
    refine HI2.out.relH HK5.out HO5.out HAt5.out (fun m hm => ?_)
    rcases List.mem_append.1 hm with hm | hm
    · exact (HI2.out.kf m (List.mem_append_left _ hm)).step (Keeps.wider HK5.out (fun k hk => .inl (.inr (.inl hk)))) (fun k hk => by
        rcases hk with hk | hk
        · rcases xt_step (w := w2) HAt5.out (.inl rfl) k hk with h1 | h1
          · exact .inl (.inl h1)
          · exact .inr h1
        · exact .inl (.inr hk))
    · rw [List.mem_singleton.1 hm]
      exact HY5.out

end Go.Proofs.YtcgiicmmfleinaaGreatDoor

namespace Go.Proofs.YtcgiicmmfleinaaGreatDoor
open Go.RowKit NumMath Go.ChangeShapes Go.WideShapes Go.Deep
set_option linter.unusedVariables false
set_option maxRecDepth 100000

/-- each number once -/
def whoW (acc : List Int) (x : Int) : List Int := if x ∈ acc then acc else acc ++ [x]

def whoL (l : List Int) : List Int := l.foldl whoW []

/-- whose locks of a list stand in the way of x, behind those that are known -/
def whoM (acc : List Int) (ls : List ML) (x : ML) : List Int := ((ls.filter (fun m => standsL x.l m.l)).map (fun m => m.l.tx)).foldl whoW acc

theorem whoM_more {acc : List Int} {ls : List ML} {x m : ML} {k : Nat} (h : ls[k]? = some m) : whoM acc (ls.take (k + 1)) x = if standsL x.l m.l = true then whoW (whoM acc (ls.take k) x) m.l.tx else whoM acc (ls.take k) x := by
  unfold whoM
  rw [filter_more _ h]
  by_cases e : standsL x.l m.l = true
  · rw [if_pos e, if_pos e, List.map_append, List.foldl_append]; rfl
  · rw [if_neg e, if_neg e, List.append_nil]

theorem whoW_len (acc : List Int) (x : Int) : (whoW acc x).length ≤ acc.length + 1 := by
  unfold whoW
  split
  · omega
  · simp

theorem who_len : ∀ (l acc : List Int), (l.foldl whoW acc).length ≤ acc.length + l.length := by
  intro l
  induction l with
  | nil => intro acc; simp
  | cons x r ih =>
    intro acc
    have h1 := ih (whoW acc x)
    have h2 := whoW_len acc x
    rw [List.foldl_cons, List.length_cons]; omega

theorem whoM_len (acc : List Int) (ls : List ML) (x : ML) : (whoM acc ls x).length ≤ acc.length + ls.length := by
  unfold whoM
  have h1 := who_len ((ls.filter (fun m => standsL x.l m.l)).map (fun m => m.l.tx)) acc
  rw [List.length_map] at h1
  have h2 := List.length_filter_le (fun m : ML => standsL x.l m.l) ls
  omega

theorem way_two (hs ws : List ML) (x : ML) : whoL ((wayM hs ws x).map (fun m => m.l.tx)) = whoM (whoM [] hs x) (if holdsL (hs.map ML.l) x.l = true then [] else ws) x := by
  unfold whoL wayM whoM
  rw [List.map_append, List.foldl_append]
  congr 2
  split <;> rfl

theorem mem_no {acc : List Int} {x : Int} (h : acc.all (fun t => !(t == x)) = true) : x ∉ acc := by
  intro hx
  have := List.all_eq_true.1 h x hx
  simp at this

theorem all_moreU {p : Int → Bool} {l : List Int} {k : Nat} {m : Int} (h : l[k]? = some m) : (l.take (k + 1)).all p = ((l.take k).all p && p m) := by
  rw [List.take_add_one, h, List.all_append]
  simp

set_option maxHeartbeats 8000000 in
theorem pway_any (w : World) (p : Nat) (ha : Option Addr) (hn hc : Nat) (wa : Option Addr) (wn wc : Nat) (hs ws : List ML) (h : TpA w p ha hn hc wa wn wc hs ws) (x : ML) (hx : x.ok w) (j : Nat) (hj : j ≤ wn) (hb1 : hn ≤ 100000) (hb2 : wn ≤ 100000) :
    Calls Tryz.prog 143 #[.pointer (some ⟨p, 0, none⟩), .agg #[.int .u64 x.l.tx, .int .i64 x.l.lv, .int .i64 x.l.md, .slice x.la x.ln x.lc, .slice x.ha x.hn x.hc], .int .i64 j] w fun e w' => ∃ v, e = .returned v ∧ OwnY layU w' w.heap.size v (whoL ((wayM hs (ws.take j) x).map (fun m => m.l.tx))) ∧ Below w.heap.size w w' := by
  obtain ⟨w1, hw1⟩ : ∃ w1, w1 = w.alloc (.cells #[.int .u64 x.l.tx, .int .i64 x.l.lv, .int .i64 x.l.md, .slice x.la x.ln x.lc, .slice x.ha x.hn x.hc] 41) := ⟨_, rfl⟩
  have hb : Below w.heap.size w w1 := by rw [hw1]; exact new_below _ _
  have hs1 : w1.heap.size = w.heap.size + 1 := by rw [hw1]; simp
  have HX1 : Hid (At5 w1 w.heap.size 0 x) := by rw [hw1]; exact at5_new w x
  have h1 := h.keep hb
  have HAh := hide (pahead_any w1.drew p ha hn hc wa wn wc hs ws (h1.keep (Below.refl _ w1).drew) x ((hx.keep hb).keep (Below.refl _ w1).drew) j hj)
  have H1 := hide h1
  have HXo := hide (hx.keep hb)
  have HB := hide hb
  have HTw := hide (way_two hs (ws.take j) x)
  obtain ⟨rs, hrs⟩ : ∃ rs, (if holdsL (hs.map ML.l) x.l = true then [] else ws.take j) = rs := ⟨_, rfl⟩
  rw [hrs] at HAh HTw
  have HRs : Hid (rs.length ≤ 100000 ∧ ∀ m ∈ rs, m ∈ ws) := by
    rw [← hrs]
    constructor
    · split
      · simp
      · rw [List.length_take]; have := h.wt.1; omega
    · intro m hm
      split at hm
      · cases hm
      · exact List.mem_of_mem_take hm
  clear h hx hb h1 hrs
  have HHl := hide H1.out.h.1
  have hml : (hn : Int) ≤ 9223372036854775807 := by omega
  have hpl : p < w.heap.size + 1 := by have := H1.out.lt; omega
  go_enter Tryz.func143, Tryz.ntmps143
  go_upto_region 2 with fail
  rw [← hw1]
  clear hw1
  have HV : Hid (∀ V, Below w1.drew.heap.size w1.drew V → V.cell? ⟨p, 1, none⟩ = some (.slice ha hn hc) ∧ V.cell? ⟨w.heap.size, 0, none⟩ = some (.int .u64 x.l.tx) ∧ V.cell? ⟨w.heap.size, 1, none⟩ = some (.int .i64 x.l.lv) ∧ V.cell? ⟨w.heap.size, 2, none⟩ = some (.int .i64 x.l.md) ∧ V.cell? ⟨w.heap.size, 3, none⟩ = some (.slice x.la x.ln x.lc) ∧ V.cell? ⟨w.heap.size, 4, none⟩ = some (.slice x.ha x.hn x.hc)) := fun V hV =>
    ⟨(H1.out.keep (below_undrew hV)).c1, (HX1.out.same ((below_undrew hV).block w.heap.size (by omega))).zero⟩
  refine startE (fun _ => false) (by kernel_rfl) ?_
  refine' takeE (i := 0) (v := _) rfl (by kernel_rfl) (by kernel_rfl) (by kernel_rfl) (by kernel_rfl) (fun _ _ _ h => h) (by rfl) (Below.refl _ _) ?_ ?_; rotate_left
  · (intro V hSV; obtain ⟨t1, x0, x1, x2, x3, x4⟩ := HV.out V hSV; go_simp; all_goals (with_reducible rfl))
  (try simp only [Act.put, List.setIfInBounds_toArray, List.set_cons_zero, List.set_cons_succ])
  refine' takeE (i := 1) (v := _) rfl (by kernel_rfl) (by kernel_rfl) (by kernel_rfl) (by kernel_rfl) (fun _ _ _ h => h) (by rfl) (Below.refl _ _) ?_ ?_; rotate_left
  · (intro V hSV; obtain ⟨t1, x0, x1, x2, x3, x4⟩ := HV.out V hSV; go_simp; all_goals (with_reducible rfl))
  (try simp only [Act.put, List.setIfInBounds_toArray, List.set_cons_zero, List.set_cons_succ])
  refine' takeE (i := 2) (v := _) rfl (by kernel_rfl) (by kernel_rfl) (by kernel_rfl) (by kernel_rfl) (fun _ _ _ h => h) (by rfl) (Below.refl _ _) ?_ ?_; rotate_left
  · (intro V hSV; obtain ⟨t1, x0, x1, x2, x3, x4⟩ := HV.out V hSV; go_simp; all_goals (with_reducible rfl))
  (try simp only [Act.put, List.setIfInBounds_toArray, List.set_cons_zero, List.set_cons_succ])
  refine' takeE (i := 3) (v := _) rfl (by kernel_rfl) (by kernel_rfl) (by kernel_rfl) (by kernel_rfl) (fun _ _ _ h => h) (by rfl) (Below.refl _ _) ?_ ?_; rotate_left
  · (intro V hSV; obtain ⟨t1, x0, x1, x2, x3, x4⟩ := HV.out V hSV; go_simp; all_goals (with_reducible rfl))
  (try simp only [Act.put, List.setIfInBounds_toArray, List.set_cons_zero, List.set_cons_succ])
  refine' takeE (i := 4) (v := _) rfl (by kernel_rfl) (by kernel_rfl) (by kernel_rfl) (by kernel_rfl) (fun _ _ _ h => h) (by rfl) (Below.refl _ _) ?_ ?_; rotate_left
  · (intro V hSV; obtain ⟨t1, x0, x1, x2, x3, x4⟩ := HV.out V hSV; go_simp; all_goals (with_reducible rfl))
  (try simp only [Act.put, List.setIfInBounds_toArray, List.set_cons_zero, List.set_cons_succ])
  refine' takeE (i := 5) (v := _) rfl (by kernel_rfl) (by kernel_rfl) (by kernel_rfl) (by kernel_rfl) (fun _ _ _ h => h) (by rfl) (Below.refl _ _) ?_ ?_; rotate_left
  · (intro V hSV; obtain ⟨t1, x0, x1, x2, x3, x4⟩ := HV.out V hSV; go_simp; all_goals (with_reducible rfl))
  (try simp only [Act.put, List.setIfInBounds_toArray, List.set_cons_zero, List.set_cons_succ])
  refine' takeE (i := 6) (v := _) rfl (by kernel_rfl) (by kernel_rfl) (by kernel_rfl) (by kernel_rfl) (fun _ _ _ h => h) (by rfl) (Below.refl _ _) ?_ ?_; rotate_left
  · (intro V hSV; obtain ⟨t1, x0, x1, x2, x3, x4⟩ := HV.out V hSV; go_simp; all_goals (with_reducible rfl))
  (try simp only [Act.put, List.setIfInBounds_toArray, List.set_cons_zero, List.set_cons_succ])
  refine' takeE (i := 9) (v := _) rfl (by kernel_rfl) (by kernel_rfl) (by kernel_rfl) (by kernel_rfl) (fun _ _ _ h => h) (by rfl) (Below.refl _ _) ?_ ?_; rotate_left
  · (intro V hSV; obtain ⟨t1, x0, x1, x2, x3, x4⟩ := HV.out V hSV; go_simp; all_goals (with_reducible rfl))
  (try simp only [Act.put, List.setIfInBounds_toArray, List.set_cons_zero, List.set_cons_succ])
  refine callE (i := 7) rfl (by kernel_rfl) (fun K hK => ?_)
  go_simp
  refine HAh.out.mono ?_
  rintro e w2 ⟨ra, rn, rc, rfl, hyr, hb2⟩
  have HYr := hide hyr
  have HB2 := hide (below_undrew hb2)
  refine hK.out _ _ (fun _ => hb2) ?_
  clear hyr
  clear hK K
  (try simp only [Act.put, List.setIfInBounds_toArray, List.set_cons_zero, List.set_cons_succ])
  refine callE (i := 8) rfl (by kernel_rfl) (fun K hK => ?_)
  go_simp
  refine hK.out _ _ (fun _ => hb2) ?_
  clear hK K
  (try simp only [Act.put, List.setIfInBounds_toArray, List.set_cons_zero, List.set_cons_succ])
  refine doneE (by kernel_rfl) ?_ _
  obtain ⟨ACC, hACC⟩ : ∃ A : Nat → List Int, A 0 = [] ∧ A 1 = whoM [] hs x ∧ A 2 = whoM (whoM [] hs x) rs x := ⟨fun q => if q = 0 then [] else if q = 1 then whoM [] hs x else whoM (whoM [] hs x) rs x, rfl, rfl, rfl⟩
  have HACC := hide hACC
  clear hACC hb2 HAh HV
  have HS2 := hide HB2.out.size
  have i0 : ∀ W : World, (Instr.index 229 (.agg #[.slice ha hn hc, .slice ra rn rc]) (.int .i64 0)).run Tryz.prog W = .ok (.slice ha hn hc) W := fun _ => by kernel_rfl
  have i1 : ∀ W : World, (Instr.index 229 (.agg #[.slice ha hn hc, .slice ra rn rc]) (.int .i64 1)).run Tryz.prog W = .ok (.slice ra rn rc) W := fun _ => by kernel_rfl
  go_wp2
  go_loopg [23, 7] 2 (fun gk i v wr => ∃ q : Nat, gk = 2 - q ∧ i = .int .i64 q ∧ q ≤ 2 ∧ OwnY layU wr w2.heap.size v (ACC q) ∧ Below w2.heap.size w2 wr)
  case atStart => exact ⟨0, rfl, rfl, by omega, by rw [HACC.out.1]; exact ownY_nil _ _, Below.refl _ _⟩
  case round =>
    obtain ⟨q, rfl, rfl, hq, hO, hB⟩ := hrel
    obtain ⟨wo, hwo⟩ : ∃ wo, wo = wr := ⟨_, rfl⟩
    subst hwo
    have HO := hide hO
    have HBo := hide hB
    have hq3 : q = 0 ∨ q = 1 ∨ q = 2 := by omega
    obtain ⟨ua, un, uc, rfl⟩ := hO.any3
    clear hO hB hq
    rcases hq3 with rfl | rfl | rfl
    · rw [HACC.out.1] at HO
      have HIS := hide (H1.out.h.keep HB2.out)
      have HOKs := hide (fun m hm => (H1.out.ho m hm).keep HB2.out)
      have HLs : Hid (hs.length ≤ 100000) := by show _ ≤ _; have := HHl.out; omega
      go_wp2
      go_step3
      go_wp2
      go_step3
      go_wp2
      go_loopg [28, 7] hn (fun gk i v wr2 => ∃ k : Nat, gk = hn - k ∧ i = .int .i64 k ∧ k ≤ hn ∧ OwnY layU wr2 w2.heap.size v (whoM [] (hs.take k) x) ∧ Below w2.heap.size w2 wr2)
      case atStart => exact ⟨0, rfl, rfl, Nat.zero_le _, HO.out, HBo.out⟩
      case round =>
        obtain ⟨k, rfl, rfl, hk, hO2, hB2r⟩ := hrel
        obtain ⟨va, vn, vc, rfl⟩ := hO2.any3
        have HO2 := hide hO2
        have HB2r := hide hB2r
        have hsw := hB2r.size
        clear hO2
        by_cases hlt : k < hn
        · have hlt' : (k : Int) < (hn : Int) := by omega
          obtain ⟨m, hmk⟩ := ml_at (hs := hs) (k := k) (by have := HIS.out.1; omega)
          obtain ⟨g, off, rfl, hg, hC⟩ := HIS.out.at hlt
          obtain ⟨d0, d1, d2, d3, d4⟩ := at5_list (hC.same (hB2r.block g hg)) hmk
          have hbN := new_below wr (.cells #[.int .u64 m.l.tx, .int .i64 m.l.lv, .int .i64 m.l.md, .slice m.la m.ln m.lc, .slice m.ha m.hn m.hc] 41)
          have hb2N := hB2r.trans (hbN.mono hsw)
          have hb1N := HB2.out.trans (hb2N.mono HS2.out)
          have HXN := hide (fun V (hV : Below (wr.heap.size + 1) (wr.alloc (.cells #[.int .u64 m.l.tx, .int .i64 m.l.lv, .int .i64 m.l.md, .slice m.la m.ln m.lc, .slice m.ha m.hn m.hc] 41)) V) => And.intro ((at5_new wr m).same (hV.block _ (by omega))).zero (HX1.out.same ((hV.block w.heap.size (by have := HS2.out; omega)).trans (hb1N.block w.heap.size (by omega)))).zero)
          obtain ⟨-, x0, x1, x2, x3, x4⟩ := HXN.out _ (Below.refl _ _)
          have HAp := hide (papart_any m x _ ((HOKs.out m (List.mem_of_getElem? hmk)).keep hb2N) (HXo.out.keep hb1N))
          have HFt := hide (fun V (hV : Below (wr.heap.size + 1) (wr.alloc (.cells #[.int .u64 m.l.tx, .int .i64 m.l.lv, .int .i64 m.l.md, .slice m.la m.ln m.lc, .slice m.ha m.hn m.hc] 41)) V) => pfits_any m.l.md x.l.md V ((H1.out.ft.keep hb1N).keep (by simpa using hV)))
          have HMo := hide (whoM_more (acc := []) (x := x) hmk)
          have HBN := hide hbN
          have HLa := hide (whoM_len [] (hs.take k) x)
          clear hC hmk hB2r hbN hb1N hb2N
          cases hap : apartL m.l x.l with
          | true =>
            rw [hap] at HAp
            rw [show standsL x.l m.l = false by unfold standsL; rw [hap]; rfl] at HMo
            clear hap
            go_wp2_with (first
              | (go_at_call 169; go_must (refine HAp.out.mono ?_); rintro e w3 ⟨rfl, hb3⟩; have HB3 := hide hb3; clear hb3))
            go_roundg (hn - (k + 1))
            case measure => omega
            case rel =>
              have hbb := HBN.out.trans (HB3.out.mono (by simp))
              exact ⟨k + 1, rfl, by go_num, by omega, by rw [HMo.out]; exact HO2.out.keep hbb, HB2r.out.trans (hbb.mono hsw)⟩
          | false =>
            rw [hap] at HAp
            obtain ⟨zf, hzf⟩ : ∃ z, fitsL m.l.md x.l.md = z := ⟨_, rfl⟩
            rw [hzf] at HFt
            rw [show standsL x.l m.l = !zf by unfold standsL; rw [hap, hzf]; rfl] at HMo
            clear hap hzf
            cases zf with
            | true =>
              go_wp2_with (first
                | (go_at_call 170; go_must (refine (HFt.out _ (by exact HB3.out)).mono ?_); rintro e w4 ⟨rfl, hw⟩; have hw := hw.symm; subst hw)
                | (go_at_call 169; go_must (refine HAp.out.mono ?_); rintro e w3 ⟨rfl, hb3⟩; have HB3 : Hid (Below (wr.heap.size + 1) (wr.alloc (.cells #[.int .u64 m.l.tx, .int .i64 m.l.lv, .int .i64 m.l.md, .slice m.la m.ln m.lc, .slice m.ha m.hn m.hc] 41)) w3) := hide (hb3.mono (by simp)); obtain ⟨⟨y0, y1, y2, y3, y4⟩, z0, z1, z2, z3, z4⟩ := HXN.out w3 HB3.out; clear hb3))
              go_roundg (hn - (k + 1))
              case measure => omega
              case rel =>
                have hbb := HBN.out.trans (HB3.out.mono (by simp))
                exact ⟨k + 1, rfl, by go_num, by omega, by rw [HMo.out]; exact HO2.out.keep hbb, HB2r.out.trans (hbb.mono hsw)⟩
            | false =>
              go_wp2_with (first
                | (go_at_call 170; go_must (refine (HFt.out _ (by exact HB3.out)).mono ?_); rintro e w4 ⟨rfl, hw⟩; have hw := hw.symm; subst hw)
                | (go_at_call 169; go_must (refine HAp.out.mono ?_); rintro e w3 ⟨rfl, hb3⟩; have HB3 : Hid (Below (wr.heap.size + 1) (wr.alloc (.cells #[.int .u64 m.l.tx, .int .i64 m.l.lv, .int .i64 m.l.md, .slice m.la m.ln m.lc, .slice m.ha m.hn m.hc] 41)) w3) := hide (hb3.mono (by simp)); obtain ⟨⟨y0, y1, y2, y3, y4⟩, z0, z1, z2, z3, z4⟩ := HXN.out w3 HB3.out; clear hb3))
              have HO3 := hide (HO2.out.keep (HBN.out.trans (HB3.out.mono (by simp))))
              have HB23 := hide (HB2r.out.trans ((HBN.out.trans (HB3.out.mono (by simp))).mono hsw))
              have HM0 := hide (fun V (hV : Below w3.heap.size w3 V) => (HXN.out V (HB3.out.trans (hV.mono (by have := HB3.out.size; simpa using this)))).1.1)
              have hvl := HO3.out.len
              have hvm : (vn : Int) ≤ 9223372036854775807 := by have := hvl.2.1; have := hvl.2.2; unfold maxLen at this; omega
              have HVl := hide hvl.1
              have hb13 : w2.heap.size ≤ w3.heap.size := HB23.out.size
              obtain ⟨acc, hacc⟩ : ∃ acc, whoM [] (hs.take k) x = acc := ⟨_, rfl⟩
              rw [hacc] at HO3 HVl HMo HLa
              have hkt : (hs.take k).length ≤ 100000 := by rw [List.length_take]; have := HLs.out; omega
              have HLb : Hid (acc.length ≤ 500000) := by show _ ≤ _; have := HLa.out; have h2 := whoM_len [] hs x; have := HHl.out; simp only [List.length_nil] at *; omega
              clear hacc hvl HO2 y0 y1 y2 y3 y4 z0 z1 z2 z3 z4 x0 x1 x2 x3 x4 d0 d1 d2 d3 d4 hkt
              obtain ⟨wi, hwi⟩ : ∃ wi, wi = wr := ⟨_, rfl⟩
              subst hwi
              go_loopg [44] vn (fun gk i wq => ∃ q : Nat, gk = vn - q ∧ i = .int .i64 q ∧ q ≤ vn ∧ (acc.take q).all (fun t => !(t == m.l.tx)) = true ∧ wq = w3)
              case atStart => exact ⟨0, rfl, rfl, Nat.zero_le _, rfl, rfl⟩
              case round =>
                obtain ⟨q, rfl, rfl, hq, hA, hw⟩ := hrel
                subst hw
                have HA := hide hA
                clear hA
                have m0 := HM0.out wr (Below.refl _ _)
                by_cases hql : q < vn
                · have hql' : (q : Int) < (vn : Int) := by omega
                  obtain ⟨t, hqt⟩ : ∃ t, acc[q]? = some t := ⟨_, List.getElem?_eq_getElem (by have := HVl.out; omega)⟩
                  obtain ⟨g2, off2, rfl, -, hC2⟩ := HO3.out.is.at hql
                  have t0 : wr.cell? ⟨g2, off2 + q, none⟩ = some (.int .u64 t) := by have := hC2 q t hqt 0 _ rfl; simpa [layU] using this
                  have HQt := hide hqt
                  have HAm := hide (all_moreU (p := fun t => !(t == m.l.tx)) hqt)
                  rw [HA.out] at HAm
                  clear hC2 hqt
                  by_cases hte : t = m.l.tx
                  · have hte' : (t == m.l.tx) = true := by simpa using hte
                    have HMe : Hid (whoM [] (hs.take (k + 1)) x = acc) := by
                      show _ = _
                      rw [HMo.out, if_pos (by decide)]
                      unfold whoW
                      rw [if_pos (by rw [← hte]; exact List.mem_of_getElem? HQt.out)]
                    clear hte
                    go_wp2
                    go_roundg (hn - (k + 1))
                    case measure => omega
                    case rel => exact ⟨k + 1, rfl, by go_num, by omega, by rw [HMe.out]; exact HO3.out, HB23.out⟩
                  · have hte' : (t == m.l.tx) = false := by simpa using hte
                    rw [hte'] at HAm
                    clear hte
                    go_wp2
                    go_roundg (vn - (q + 1))
                    case measure => omega
                    case rel => exact ⟨q + 1, rfl, by go_num, by omega, by rw [HAm.out]; rfl, rfl⟩
                · obtain rfl : q = vn := by omega
                  have HMe : Hid (whoM [] (hs.take (k + 1)) x = acc ++ [m.l.tx]) := by
                    show _ = _
                    rw [HMo.out, if_pos (by decide)]
                    unfold whoW
                    have hA := HA.out
                    rw [List.take_of_length_le (by have := HVl.out; omega)] at hA
                    rw [if_neg (mem_no hA)]
                  have HS1 : Hid (OwnY layU (wr.alloc (.cells #[.int .u64 m.l.tx] 31)) wr.heap.size (.slice (some ⟨wr.heap.size, 0, none⟩) 1 1) [m.l.tx]) := ownY_one (L := layU) wr wr.heap.size #[.int .u64 m.l.tx] m.l.tx (Nat.le_refl _) rfl
                  have HO4 := hide (HO3.out.keep (new_below wr (.cells #[.int .u64 m.l.tx] 31)))
                  have HBig : Hid (acc.length + [m.l.tx].length ≤ 1000000000) := by show _ ≤ _; have := HLb.out; simp only [List.length_singleton]; omega
                  go_wp2_with (first
                    | (at_builtin; go_must (refine wp_joinY layU _ rfl (.tmp 53) (.tmp 56) rfl w2.heap.size _ acc rfl HO4.out (some ⟨wr.heap.size, 0, none⟩) 1 1 [m.l.tx] rfl HS1.out.is.src HBig.out (by simp; omega) ?_); intro v5 w5 hown5 hg5 hat5; have HO5 := hide hown5; have HB5 := hide (HO4.out.grown hg5 (by simp; omega)); have HG5 := hide hg5; obtain ⟨xa, xn, xc, rfl⟩ := hown5.any3; clear hown5 hg5 hat5))
                  go_roundg (hn - (k + 1))
                  case measure => omega
                  case rel => exact ⟨k + 1, rfl, by go_num, by omega, by rw [HMe.out]; exact HO5.out, (HB23.out.trans ((new_below wr _).mono HB23.out.size)).trans HB5.out⟩
        · obtain rfl : k = hn := by omega
          have ek : hs.take k = hs := List.take_of_length_le (by have := HIS.out.1; omega)
          rw [ek] at HO2
          go_wp2
          rw [Exit.noGoto_normal]
          go_wp2
          go_roundg (2 - (0 + 1))
          case measure => omega
          case rel => exact ⟨0 + 1, rfl, by go_num, by omega, by rw [HACC.out.2.1]; exact HO2.out, HB2r.out⟩
    · rw [HACC.out.2.1] at HO
      have HIS := HYr
      have HOKs := hide (fun m hm => (H1.out.wo m (HRs.out.2 m hm)).keep HB2.out)
      have HLs : Hid (rs.length ≤ 100000) := HRs.out.1
      have hml2 : (rn : Int) ≤ 9223372036854775807 := by have := HYr.out.1; have := HRs.out.1; omega
      go_wp2
      go_step3
      go_wp2
      go_step3
      go_wp2
      go_loopg [28, 7] rn (fun gk i v wr2 => ∃ k : Nat, gk = rn - k ∧ i = .int .i64 k ∧ k ≤ rn ∧ OwnY layU wr2 w2.heap.size v (whoM (whoM [] hs x) (rs.take k) x) ∧ Below w2.heap.size w2 wr2)
      case atStart => exact ⟨0, rfl, rfl, Nat.zero_le _, HO.out, HBo.out⟩
      case round =>
        obtain ⟨k, rfl, rfl, hk, hO2, hB2r⟩ := hrel
        obtain ⟨va, vn, vc, rfl⟩ := hO2.any3
        have HO2 := hide hO2
        have HB2r := hide hB2r
        have hsw := hB2r.size
        clear hO2
        by_cases hlt : k < rn
        · have hlt' : (k : Int) < (rn : Int) := by omega
          obtain ⟨m, hmk⟩ := ml_at (hs := rs) (k := k) (by have := HIS.out.1; omega)
          obtain ⟨g, off, rfl, hg, hC⟩ := HIS.out.at hlt
          obtain ⟨d0, d1, d2, d3, d4⟩ := at5_list (hC.same (hB2r.block g hg)) hmk
          have hbN := new_below wr (.cells #[.int .u64 m.l.tx, .int .i64 m.l.lv, .int .i64 m.l.md, .slice m.la m.ln m.lc, .slice m.ha m.hn m.hc] 41)
          have hb2N := hB2r.trans (hbN.mono hsw)
          have hb1N := HB2.out.trans (hb2N.mono HS2.out)
          have HXN := hide (fun V (hV : Below (wr.heap.size + 1) (wr.alloc (.cells #[.int .u64 m.l.tx, .int .i64 m.l.lv, .int .i64 m.l.md, .slice m.la m.ln m.lc, .slice m.ha m.hn m.hc] 41)) V) => And.intro ((at5_new wr m).same (hV.block _ (by omega))).zero (HX1.out.same ((hV.block w.heap.size (by have := HS2.out; omega)).trans (hb1N.block w.heap.size (by omega)))).zero)
          obtain ⟨-, x0, x1, x2, x3, x4⟩ := HXN.out _ (Below.refl _ _)
          have HAp := hide (papart_any m x _ ((HOKs.out m (List.mem_of_getElem? hmk)).keep hb2N) (HXo.out.keep hb1N))
          have HFt := hide (fun V (hV : Below (wr.heap.size + 1) (wr.alloc (.cells #[.int .u64 m.l.tx, .int .i64 m.l.lv, .int .i64 m.l.md, .slice m.la m.ln m.lc, .slice m.ha m.hn m.hc] 41)) V) => pfits_any m.l.md x.l.md V ((H1.out.ft.keep hb1N).keep (by simpa using hV)))
          have HMo := hide (whoM_more (acc := (whoM [] hs x)) (x := x) hmk)
          have HBN := hide hbN
          have HLa := hide (whoM_len (whoM [] hs x) (rs.take k) x)
          clear hC hmk hB2r hbN hb1N hb2N
          cases hap : apartL m.l x.l with
          | true =>
            rw [hap] at HAp
            rw [show standsL x.l m.l = false by unfold standsL; rw [hap]; rfl] at HMo
            clear hap
            go_wp2_with (first
              | (go_at_call 169; go_must (refine HAp.out.mono ?_); rintro e w3 ⟨rfl, hb3⟩; have HB3 := hide hb3; clear hb3))
            go_roundg (rn - (k + 1))
            case measure => omega
            case rel =>
              have hbb := HBN.out.trans (HB3.out.mono (by simp))
              exact ⟨k + 1, rfl, by go_num, by omega, by rw [HMo.out]; exact HO2.out.keep hbb, HB2r.out.trans (hbb.mono hsw)⟩
          | false =>
            rw [hap] at HAp
            obtain ⟨zf, hzf⟩ : ∃ z, fitsL m.l.md x.l.md = z := ⟨_, rfl⟩
            rw [hzf] at HFt
            rw [show standsL x.l m.l = !zf by unfold standsL; rw [hap, hzf]; rfl] at HMo
            clear hap hzf
            cases zf with
            | true =>
              go_wp2_with (first
                | (go_at_call 170; go_must (refine (HFt.out _ (by exact HB3.out)).mono ?_); rintro e w4 ⟨rfl, hw⟩; have hw := hw.symm; subst hw)
                | (go_at_call 169; go_must (refine HAp.out.mono ?_); rintro e w3 ⟨rfl, hb3⟩; have HB3 : Hid (Below (wr.heap.size + 1) (wr.alloc (.cells #[.int .u64 m.l.tx, .int .i64 m.l.lv, .int .i64 m.l.md, .slice m.la m.ln m.lc, .slice m.ha m.hn m.hc] 41)) w3) := hide (hb3.mono (by simp)); obtain ⟨⟨y0, y1, y2, y3, y4⟩, z0, z1, z2, z3, z4⟩ := HXN.out w3 HB3.out; clear hb3))
              go_roundg (rn - (k + 1))
              case measure => omega
              case rel =>
                have hbb := HBN.out.trans (HB3.out.mono (by simp))
                exact ⟨k + 1, rfl, by go_num, by omega, by rw [HMo.out]; exact HO2.out.keep hbb, HB2r.out.trans (hbb.mono hsw)⟩
            | false =>
              go_wp2_with (first
                | (go_at_call 170; go_must (refine (HFt.out _ (by exact HB3.out)).mono ?_); rintro e w4 ⟨rfl, hw⟩; have hw := hw.symm; subst hw)
                | (go_at_call 169; go_must (refine HAp.out.mono ?_); rintro e w3 ⟨rfl, hb3⟩; have HB3 : Hid (Below (wr.heap.size + 1) (wr.alloc (.cells #[.int .u64 m.l.tx, .int .i64 m.l.lv, .int .i64 m.l.md, .slice m.la m.ln m.lc, .slice m.ha m.hn m.hc] 41)) w3) := hide (hb3.mono (by simp)); obtain ⟨⟨y0, y1, y2, y3, y4⟩, z0, z1, z2, z3, z4⟩ := HXN.out w3 HB3.out; clear hb3))
              have HO3 := hide (HO2.out.keep (HBN.out.trans (HB3.out.mono (by simp))))
              have HB23 := hide (HB2r.out.trans ((HBN.out.trans (HB3.out.mono (by simp))).mono hsw))
              have HM0 := hide (fun V (hV : Below w3.heap.size w3 V) => (HXN.out V (HB3.out.trans (hV.mono (by have := HB3.out.size; simpa using this)))).1.1)
              have hvl := HO3.out.len
              have hvm : (vn : Int) ≤ 9223372036854775807 := by have := hvl.2.1; have := hvl.2.2; unfold maxLen at this; omega
              have HVl := hide hvl.1
              have hb13 : w2.heap.size ≤ w3.heap.size := HB23.out.size
              obtain ⟨acc, hacc⟩ : ∃ acc, whoM (whoM [] hs x) (rs.take k) x = acc := ⟨_, rfl⟩
              rw [hacc] at HO3 HVl HMo HLa
              have hkt : (rs.take k).length ≤ 100000 := by rw [List.length_take]; have := HLs.out; omega
              have HLb : Hid (acc.length ≤ 500000) := by show _ ≤ _; have := HLa.out; have h2 := whoM_len [] hs x; have := HHl.out; simp only [List.length_nil] at *; omega
              clear hacc hvl HO2 y0 y1 y2 y3 y4 z0 z1 z2 z3 z4 x0 x1 x2 x3 x4 d0 d1 d2 d3 d4 hkt
              obtain ⟨wi, hwi⟩ : ∃ wi, wi = wr := ⟨_, rfl⟩
              subst hwi
              go_loopg [44] vn (fun gk i wq => ∃ q : Nat, gk = vn - q ∧ i = .int .i64 q ∧ q ≤ vn ∧ (acc.take q).all (fun t => !(t == m.l.tx)) = true ∧ wq = w3)
              case atStart => exact ⟨0, rfl, rfl, Nat.zero_le _, rfl, rfl⟩
              case round =>
                obtain ⟨q, rfl, rfl, hq, hA, hw⟩ := hrel
                subst hw
                have HA := hide hA
                clear hA
                have m0 := HM0.out wr (Below.refl _ _)
                by_cases hql : q < vn
                · have hql' : (q : Int) < (vn : Int) := by omega
                  obtain ⟨t, hqt⟩ : ∃ t, acc[q]? = some t := ⟨_, List.getElem?_eq_getElem (by have := HVl.out; omega)⟩
                  obtain ⟨g2, off2, rfl, -, hC2⟩ := HO3.out.is.at hql
                  have t0 : wr.cell? ⟨g2, off2 + q, none⟩ = some (.int .u64 t) := by have := hC2 q t hqt 0 _ rfl; simpa [layU] using this
                  have HQt := hide hqt
                  have HAm := hide (all_moreU (p := fun t => !(t == m.l.tx)) hqt)
                  rw [HA.out] at HAm
                  clear hC2 hqt
                  by_cases hte : t = m.l.tx
                  · have hte' : (t == m.l.tx) = true := by simpa using hte
                    have HMe : Hid (whoM (whoM [] hs x) (rs.take (k + 1)) x = acc) := by
                      show _ = _
                      rw [HMo.out, if_pos (by decide)]
                      unfold whoW
                      rw [if_pos (by rw [← hte]; exact List.mem_of_getElem? HQt.out)]
                    clear hte
                    go_wp2
                    go_roundg (rn - (k + 1))
                    case measure => omega
                    case rel => exact ⟨k + 1, rfl, by go_num, by omega, by rw [HMe.out]; exact HO3.out, HB23.out⟩
                  · have hte' : (t == m.l.tx) = false := by simpa using hte
                    rw [hte'] at HAm
                    clear hte
                    go_wp2
                    go_roundg (vn - (q + 1))
                    case measure => omega
                    case rel => exact ⟨q + 1, rfl, by go_num, by omega, by rw [HAm.out]; rfl, rfl⟩
                · obtain rfl : q = vn := by omega
                  have HMe : Hid (whoM (whoM [] hs x) (rs.take (k + 1)) x = acc ++ [m.l.tx]) := by
                    show _ = _
                    rw [HMo.out, if_pos (by decide)]
                    unfold whoW
                    have hA := HA.out
                    rw [List.take_of_length_le (by have := HVl.out; omega)] at hA
                    rw [if_neg (mem_no hA)]
                  have HS1 : Hid (OwnY layU (wr.alloc (.cells #[.int .u64 m.l.tx] 31)) wr.heap.size (.slice (some ⟨wr.heap.size, 0, none⟩) 1 1) [m.l.tx]) := ownY_one (L := layU) wr wr.heap.size #[.int .u64 m.l.tx] m.l.tx (Nat.le_refl _) rfl
                  have HO4 := hide (HO3.out.keep (new_below wr (.cells #[.int .u64 m.l.tx] 31)))
                  have HBig : Hid (acc.length + [m.l.tx].length ≤ 1000000000) := by show _ ≤ _; have := HLb.out; simp only [List.length_singleton]; omega
                  go_wp2_with (first
                    | (at_builtin; go_must (refine wp_joinY layU _ rfl (.tmp 53) (.tmp 56) rfl w2.heap.size _ acc rfl HO4.out (some ⟨wr.heap.size, 0, none⟩) 1 1 [m.l.tx] rfl HS1.out.is.src HBig.out (by simp; omega) ?_); intro v5 w5 hown5 hg5 hat5; have HO5 := hide hown5; have HB5 := hide (HO4.out.grown hg5 (by simp; omega)); have HG5 := hide hg5; obtain ⟨xa, xn, xc, rfl⟩ := hown5.any3; clear hown5 hg5 hat5))
                  go_roundg (rn - (k + 1))
                  case measure => omega
                  case rel => exact ⟨k + 1, rfl, by go_num, by omega, by rw [HMe.out]; exact HO5.out, (HB23.out.trans ((new_below wr _).mono HB23.out.size)).trans HB5.out⟩
        · obtain rfl : k = rn := by omega
          have ek : rs.take k = rs := List.take_of_length_le (by have := HIS.out.1; omega)
          rw [ek] at HO2
          go_wp2
          rw [Exit.noGoto_normal]
          go_wp2
          go_roundg (2 - (1 + 1))
          case measure => omega
          case rel => exact ⟨1 + 1, rfl, by go_num, by omega, by rw [HACC.out.2.2]; exact HO2.out, HB2r.out⟩
    · rw [HACC.out.2.2] at HO
      go_wp2
      go_ret
      refine ⟨_, rfl, ?_, HB.out.trans ((HB2.out.trans (HBo.out.mono HS2.out)).mono (by omega))⟩
      rw [HTw.out]
      exact HO.out.mono (by have := HS2.out; omega)

end Go.Proofs.YtcgiicmmfleinaaGreatDoor
