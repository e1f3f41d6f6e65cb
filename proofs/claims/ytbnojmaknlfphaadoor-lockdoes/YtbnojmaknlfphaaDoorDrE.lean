/- The program's table as a law has it: few; New, Ask, Free, Held, Waiting, Edges. -/
import Derived.Test.YtbnojmaknlfphaaDoorDrC
namespace Go.Proofs.YtbnojmaknlfphaaDoor
open Go.RowKit NumMath Go.ChangeShapes Go.WideShapes Go.Deep
set_option linter.unusedVariables false
set_option maxRecDepth 100000

/-- a deed's cells in a list -/
theorem at6_list {w : World} {g off k : Nat} {ds : List MQ} {d : MQ} (hC : CellsY layQ w g off ds) (hm : ds[k]? = some d) : w.cell? ⟨g, off + k * 6, none⟩ = some (.bool d.fr) ∧ w.cell? ⟨g, off + k * 6 + 1, none⟩ = some (.int .u64 d.m.l.tx) ∧ w.cell? ⟨g, off + k * 6 + 2, none⟩ = some (.int .i64 d.m.l.lv) ∧ w.cell? ⟨g, off + k * 6 + 3, none⟩ = some (.int .i64 d.m.l.md) ∧ w.cell? ⟨g, off + k * 6 + 4, none⟩ = some (.slice d.m.la d.m.ln d.m.lc) ∧ w.cell? ⟨g, off + k * 6 + 5, none⟩ = some (.slice d.m.ha d.m.hn d.m.hc) :=
  ⟨hC k d hm 0 _ rfl, hC k d hm 1 _ rfl, hC k d hm 2 _ rfl, hC k d hm 3 _ rfl, hC k d hm 4 _ rfl, hC k d hm 5 _ rfl⟩

theorem dq_at {ds : List MQ} {k : Nat} (h : k < ds.length) : ∃ d, ds[k]? = some d := ⟨_, List.getElem?_eq_getElem h⟩

/-- whether deeds are small -/
def smallQ (d : MQ) : Bool := decide (d.m.ln ≤ 20) && decide (d.m.hn ≤ 20)

theorem all_moreQ {p : MQ → Bool} {ds : List MQ} {k : Nat} {d : MQ} (h : ds[k]? = some d) : (ds.take (k + 1)).all p = ((ds.take k).all p && p d) := by
  rw [List.take_add_one, h, List.all_append]
  simp

theorem all_preQ {p : MQ → Bool} {ds : List MQ} {k : Nat} (h : (ds.take k).all p = false) : ds.all p = false := by
  cases e : ds.all p
  · rfl
  · exfalso
    have : (ds.take k).all p = true := List.all_eq_true.2 (fun x hx => List.all_eq_true.1 e x (List.mem_of_mem_take hx))
    rw [h] at this; cases this

set_option maxHeartbeats 4000000 in
theorem few14_any (a : Option Addr) (n c : Nat) (ds : List MQ) (w : World) (h : IsDeeds14 w a n c ds) :
    Calls Tryd.prog 16 #[.slice a n c] w fun e w' => e = .returned (.bool (ds.all smallQ && decide (n ≤ 40))) ∧ Below w.heap.size w w' := by
  have H := hide h.1
  have HL := hide h.1.1
  have HG := hide h.2
  have hm : (n : Int) ≤ 9223372036854775807 := by have := h.1.2.1; have := h.1.2.2.1; unfold maxLen at this; omega
  obtain ⟨zz, hzz⟩ : ∃ z, (ds.all smallQ && decide (n ≤ 40)) = z := ⟨_, rfl⟩
  rw [hzz]
  have HZ := hide hzz
  clear h hzz
  go_enter Tryd.func16, Tryd.ntmps16
  go_wp2
  go_loopg [7] n (fun gk i wr => ∃ k : Nat, gk = n - k ∧ i = .int .i64 k ∧ k ≤ n ∧ (ds.take k).all smallQ = true ∧ Below w.heap.size w wr)
  case atStart => exact ⟨0, rfl, rfl, Nat.zero_le _, rfl, Below.refl _ _⟩
  case round =>
    obtain ⟨k, rfl, rfl, hk, hA, hB⟩ := hrel
    have HB := hide hB
    have HA := hide hA
    have hsw := hB.size
    clear hA
    by_cases hlt : k < n
    · have hlt' : (k : Int) < (n : Int) := by omega
      obtain ⟨d, hdk⟩ := dq_at (ds := ds) (k := k) (by have := HL.out; omega)
      obtain ⟨g, off, rfl, hg, hC⟩ := H.out.at hlt
      obtain ⟨d0, d1, d2, d3, d4, d5⟩ := at6_list (hC.same (hB.block g hg)) hdk
      have HMo := hide (all_moreQ (p := smallQ) hdk)
      rw [HA.out] at HMo
      have HBN := hide (new_below wr (.cells #[.bool d.fr, .int .u64 d.m.l.tx, .int .i64 d.m.l.lv, .int .i64 d.m.l.md, .slice d.m.la d.m.ln d.m.lc, .slice d.m.ha d.m.hn d.m.hc] 39))
      have hok := (HG.out d (List.mem_of_getElem? hdk)).1
      have q1 : (d.m.ln : Int) ≤ 9223372036854775807 := by have := hok.lo.2.1; have := hok.lo.2.2.1; unfold maxLen at this; omega
      have q2 : (d.m.hn : Int) ≤ 9223372036854775807 := by have := hok.hi.2.1; have := hok.hi.2.2.1; unfold maxLen at this; omega
      clear hC hdk hB hok
      by_cases h1 : d.m.ln ≤ 20
      · have h1' : ¬ (20 : Int) < (d.m.ln : Int) := by omega
        have h1n : ¬ 20 < d.m.ln := by omega
        by_cases h2 : d.m.hn ≤ 20
        · have h2' : ¬ (20 : Int) < (d.m.hn : Int) := by omega
          have h2n : ¬ 20 < d.m.hn := by omega
          have HS : Hid ((ds.take (k + 1)).all smallQ = true) := by show _ = _; rw [HMo.out]; unfold smallQ; simp [h1, h2]
          clear h1 h2
          go_wp2
          go_roundg (n - (k + 1))
          case measure => omega
          case rel => exact ⟨k + 1, rfl, by go_num, by omega, HS.out, HB.out.trans (HBN.out.mono hsw)⟩
        · have h2' : (20 : Int) < (d.m.hn : Int) := by omega
          have h2n : 20 < d.m.hn := by omega
          have HS : Hid (zz = false) := by
            show _ = _
            rw [← HZ.out, all_preQ (p := smallQ) (k := k + 1) (by rw [HMo.out]; unfold smallQ; simp [h2])]; rfl
          clear h1 h2
          go_wp2
          go_ret
          exact ⟨by rw [HS.out]; rfl, HB.out.trans (HBN.out.mono hsw)⟩
      · have h1' : (20 : Int) < (d.m.ln : Int) := by omega
        have h1n : 20 < d.m.ln := by omega
        have HS : Hid (zz = false) := by
          show _ = _
          rw [← HZ.out, all_preQ (p := smallQ) (k := k + 1) (by rw [HMo.out]; unfold smallQ; simp [h1])]; rfl
        clear h1
        go_wp2
        go_ret
        exact ⟨by rw [HS.out]; rfl, HB.out.trans (HBN.out.mono hsw)⟩
    · obtain rfl : k = n := by omega
      have ek : ds.take k = ds := List.take_of_length_le (by have := HL.out; omega)
      rw [ek] at HA
      by_cases h4 : k ≤ 40
      · have h4' : (k : Int) ≤ 40 := by omega
        have HS : Hid (zz = true) := by show _ = _; rw [← HZ.out, HA.out]; simp [h4]
        clear hB
        go_wp2
        go_ret
        exact ⟨by rw [HS.out]; rfl, HB.out⟩
      · have h4' : ¬ (k : Int) ≤ 40 := by omega
        have HS : Hid (zz = false) := by show _ = _; rw [← HZ.out, HA.out]; simp [h4]
        clear hB
        go_wp2
        go_ret
        exact ⟨by rw [HS.out]; rfl, HB.out⟩

theorem ask_mem {t : Tab} {x y : Lck} (h : y ∈ (askL t x).1.held ++ (askL t x).1.wait) : y ∈ t.held ++ t.wait ∨ y = x := by
  unfold askL at h
  split at h
  · exact .inl h
  · split at h
    · exact .inl h
    · dsimp only at h
      have lv : ∀ {L : List Lck} {b : Lck}, y ∈ leaveL L x.tx b → y ∈ L := fun hy => (mem_leave.1 hy).1
      have qv : ∀ {L : List Lck}, y ∈ queuedL L x → y ∈ L ∨ y = x := fun {L} hy => by
        unfold queuedL at hy
        split at hy
        · exact .inl hy
        · rcases List.mem_append.1 hy with hy | hy
          · exact .inl hy
          · exact .inr (List.mem_singleton.1 hy)
      split at h
      · split at h
        · rcases List.mem_append.1 h with h | h
          · exact .inl (List.mem_append_left _ h)
          · exact .inl (List.mem_append_right _ (lv (lv h)))
        · rcases List.mem_append.1 h with h | h
          · rcases List.mem_append.1 h with h | h
            · exact .inl (List.mem_append_left _ h)
            · exact .inr (List.mem_singleton.1 h)
          · exact .inl (List.mem_append_right _ (lv (lv h)))
      · split at h
        · rcases List.mem_append.1 h with h | h
          · exact .inl (List.mem_append_left _ h)
          · rcases qv h with h | h
            · exact .inl (List.mem_append_right _ (lv h))
            · exact .inr h
        · rcases List.mem_append.1 h with h | h
          · exact .inl (List.mem_append_left _ h)
          · rcases qv (lv h) with h | h
            · exact .inl (List.mem_append_right _ (lv h))
            · exact .inr h

theorem leave_len (L : List Lck) (tx : Int) (b : Lck) : (leaveL L tx b).length ≤ L.length := List.length_filter_le _ _

theorem queued_len (L : List Lck) (x : Lck) : (queuedL L x).length ≤ L.length + 1 := by
  unfold queuedL
  split
  · omega
  · simp

theorem ask_len (t : Tab) (x : Lck) : (askL t x).1.held.length ≤ t.held.length + 1 ∧ (askL t x).1.wait.length ≤ t.wait.length + 1 := by
  have a1 := leave_len t.wait x.tx x
  have a2 := leave_len (leaveL t.wait x.tx x) x.tx lck0
  have a3 := queued_len (leaveL t.wait x.tx x) x
  have a4 := leave_len (queuedL (leaveL t.wait x.tx x) x) x.tx lck0
  unfold askL
  split
  · exact ⟨Nat.le_succ _, Nat.le_succ _⟩
  · split
    · exact ⟨Nat.le_succ _, Nat.le_succ _⟩
    · dsimp only
      split
      · split
        · exact ⟨by dsimp only; omega, by dsimp only; omega⟩
        · exact ⟨by dsimp only; simp, by dsimp only; omega⟩
      · split
        · exact ⟨by dsimp only; omega, by dsimp only; omega⟩
        · exact ⟨by dsimp only; omega, by dsimp only; omega⟩

/-- the program's table, as a law that began at w0 has it behind n asks -/
structure LawT (w0 w : World) (p n : Nat) (t : Tab) : Prop where
  ex : ∃ hv wv hs ws, IsT (fun _ => False) w0.heap.size w p hv wv hs ws ∧ hs.map ML.l = t.held ∧ ws.map ML.l = t.wait
  inv : TabI t
  u : ∀ x ∈ t.held ++ t.wait, U64 x.tx ∧ x.lo.length ≤ 20 ∧ x.hi.length ≤ 20
  nh : t.held.length ≤ n
  nw : t.wait.length ≤ n
  b : Below w0.heap.size w0 w

theorem LawT.keep {w0 w w' : World} {p n : Nat} {t : Tab} (h : LawT w0 w p n t) (hb : Below w.heap.size w w') : LawT w0 w' p n t := by
  obtain ⟨⟨hv, wv, hs, ws, h1, h2, h3⟩, i, u, nh, nw, b⟩ := h
  exact ⟨⟨hv, wv, hs, ws, h1.keep hb, h2, h3⟩, i, u, nh, nw, b.trans (hb.mono b.size)⟩

theorem kp_to {w0 w w' : World} (h : Below w0.heap.size w0 w) (k : Keeps (fun k => w0.heap.size ≤ k) w w') : Below w0.heap.size w0 w' :=
  kp_below (kpThen (Below.keeps h _) (fun k hk => .inl hk) k)

theorem lnew (w : World) (hF : FitW w) : Calls Tryd.prog 17 #[] w fun e w' => e = .returned (.pointer (some ⟨w.heap.size, 0, none⟩)) ∧ LawT w w' w.heap.size 0 ⟨[], []⟩ := by
  refine (pnew_any w hF (fun _ => False) (fun _ h => h.elim)).mono ?_
  rintro e w' ⟨hv, wv, rfl, h1, h2⟩
  exact ⟨rfl, ⟨⟨hv, wv, [], [], h1, rfl, rfl⟩, tabI_new, by simp, by simp, by simp, h2⟩⟩

theorem out_lawB {w0 : World} {X : Nat → Prop} {a : Option Addr} {n c : Nat} {xs : List Int} (h : IsBytes w0 a n c xs) (hX : ∀ k, X k → w0.heap.size ≤ k) : Out X a n := out_ltB h hX

theorem foot_law {w0 w : World} {X : Nat → Prop} {x : ML} (hx : x.ok w0) (hb : Below w0.heap.size w0 w) (hX : ∀ k, X k → w0.heap.size ≤ k) : Foot X w (fun V => x.ok V) :=
  foot_ok14 (hx.keep hb) (out_ltB hx.lo hX) (out_ltB hx.hi hX)

theorem mapU {hs ws : List ML} {t : Tab} (h2 : hs.map ML.l = t.held) (h3 : ws.map ML.l = t.wait) {P : Lck → Prop} (h : ∀ x ∈ t.held ++ t.wait, P x) : ∀ m ∈ hs ++ ws, P m.l := by
  intro m hm
  refine h m.l ?_
  rw [← h2, ← h3, ← List.map_append]
  exact List.mem_map.2 ⟨m, hm, rfl⟩

theorem lask {w0 w : World} {p n : Nat} {t : Tab} (h : LawT w0 w p n t) (x : ML) (hx : x.ok w0) (hu : U64 x.l.tx) (h1 : x.ln ≤ 20) (h2 : x.hn ≤ 20) (hn : n ≤ 60) :
    Calls Tryd.prog 20 #[.pointer (some ⟨p, 0, none⟩), .agg #[.int .u64 x.l.tx, .int .i64 x.l.lv, .int .i64 x.l.md, .slice x.la x.ln x.lc, .slice x.ha x.hn x.hc]] w fun e w' => e = .returned (.tuple #[.bool (askL t x.l).2.1, .int .i64 (askL t x.l).2.2]) ∧ LawT w0 w' p (n + 1) (askL t x.l).1 := by
  obtain ⟨⟨hv, wv, hs, ws, hI, e1, e2⟩, i, u, nh, nw, b⟩ := h
  have hxl := hI.xl
  have hno : (ws.map (fun m => m.l.tx)).Nodup := by
    have := i.one
    rw [← e2, List.map_map] at this
    exact this
  refine (pask_any hI x (foot_law hx b (fun k hk => (hxl k hk).1)) (by omega) (by omega) hu (fun m hm => (mapU e1 e2 u m hm).1) hno (by rw [← List.length_map (f := ML.l), e1]; omega) (by rw [← List.length_map (f := ML.l), e2]; omega)).mono ?_
  rintro e w' ⟨rfl, hs', ws', g1, g2, g3⟩
  rw [e1, e2] at g1 g2 ⊢
  obtain ⟨hv', wv', k1, k2, -, -⟩ := g3
  refine ⟨rfl, ⟨hv', wv', hs', ws', k1, g1, g2⟩, i.ask x.l, fun y hy => ?_, by have := (ask_len t x.l).1; omega, by have := (ask_len t x.l).2; omega, kp_to b (Keeps.wider k2 (fun k hk => (hxl k hk).1))⟩
  rcases ask_mem hy with hy | hy
  · exact u y hy
  · subst hy
    exact ⟨hu, by rw [hx.lo.1]; exact h1, by rw [hx.hi.1]; exact h2⟩

theorem leave_filter {L : List Lck} {tx : Int} (hok : ∀ w ∈ L, w.tx ≠ 0) : leaveL L tx lck0 = L.filter (fun w => w.tx != tx) := by
  unfold leaveL
  apply List.filter_congr
  intro w hw
  have : ¬ w = lck0 := fun e => hok w hw (by rw [e]; rfl)
  simp [this]

theorem lfree {w0 w : World} {p n : Nat} {t : Tab} (h : LawT w0 w p n t) (tx : Int) :
    Calls Tryd.prog 18 #[.pointer (some ⟨p, 0, none⟩), .int .u64 tx] w fun e w' => e = .returned (.int .i64 ((freeL t tx).2 : Int)) ∧ LawT w0 w' p n (freeL t tx).1 := by
  obtain ⟨⟨hv, wv, hs, ws, hI, e1, e2⟩, i, u, nh, nw, b⟩ := h
  have hxl := hI.xl
  have hf1 : (hs.filter (fun m => m.l.tx != tx)).map ML.l = t.held.filter (fun h => h.tx != tx) := by rw [filterM, e1]
  have hf2 : (ws.filter (fun m => m.l.tx != tx)).map ML.l = leaveL t.wait tx lck0 := by rw [filterM, e2, leave_filter (fun w hw => bad_tx (i.ok w hw))]
  refine (pfree_any hI tx).mono ?_
  rintro e w' ⟨rfl, hv', wv', k1, k2, -, -⟩
  refine ⟨?_, ⟨hv', wv', _, _, k1, hf1, hf2⟩, i.free tx, fun y hy => u y ?_, Nat.le_trans (List.length_filter_le _ _) nh, Nat.le_trans (leave_len _ _ _) nw, kp_to b (Keeps.wider k2 (fun k hk => (hxl k hk).1))⟩
  · unfold freeL
    dsimp only
    rw [← hf1, ← e1, List.length_map, List.length_map]
  · rcases List.mem_append.1 hy with hy | hy
    · exact List.mem_append_left _ (List.mem_filter.1 hy).1
    · exact List.mem_append_right _ (mem_leave.1 hy).1

/-- a list of locks that a law is told -/
def LockL (w : World) (l : List Lck) (e : Ending) (w' : World) : Prop :=
  ∃ (a : Option Addr) (n c : Nat) (ys : List ML), e = .returned (.slice a n c) ∧ IsY layK w' a n c ys ∧ ys.map ML.l = l ∧ (∀ y ∈ ys, y.ok w') ∧ Below w.heap.size w w'

theorem lheld {w0 w : World} {p n : Nat} {t : Tab} (h : LawT w0 w p n t) (hn : n ≤ 100) : Calls Tryd.prog 23 #[.pointer (some ⟨p, 0, none⟩)] w fun e w' => LockL w t.held e w' := by
  obtain ⟨⟨hv, wv, hs, ws, hI, e1, e2⟩, i, u, nh, nw, b⟩ := h
  obtain ⟨ha, n1, c1, wa, n2, c2, rfl, rfl, hT⟩ := hI.read
  refine (pheld_any w p ha n1 c1 wa n2 c2 hs ws hT (by have := hT.h.1; rw [← e1, List.length_map] at nh; omega) (fun m hm => ?_)).mono ?_
  · have := mapU e1 e2 u m (List.mem_append_left _ hm)
    have h1 := (hT.ho m hm).lo.1
    have h2 := (hT.ho m hm).hi.1
    omega
  · rintro e w' ⟨a, k, c, ys, rfl, g1, g2, g3, g4⟩
    exact ⟨a, k, c, ys, rfl, g1.is, g2.trans e1, g3, g4⟩

theorem lwaiting {w0 w : World} {p n : Nat} {t : Tab} (h : LawT w0 w p n t) (hn : n ≤ 100) : Calls Tryd.prog 24 #[.pointer (some ⟨p, 0, none⟩)] w fun e w' => LockL w t.wait e w' := by
  obtain ⟨⟨hv, wv, hs, ws, hI, e1, e2⟩, i, u, nh, nw, b⟩ := h
  obtain ⟨ha, n1, c1, wa, n2, c2, rfl, rfl, hT⟩ := hI.read
  refine (pwaiting_any w p ha n1 c1 wa n2 c2 hs ws hT (by have := hT.wt.1; rw [← e2, List.length_map] at nw; omega) (fun m hm => ?_)).mono ?_
  · have := mapU e1 e2 u m (List.mem_append_right _ hm)
    have h1 := (hT.wo m hm).lo.1
    have h2 := (hT.wo m hm).hi.1
    omega
  · rintro e w' ⟨a, k, c, ys, rfl, g1, g2, g3, g4⟩
    exact ⟨a, k, c, ys, rfl, g1.is, g2.trans e2, g3, g4⟩

theorem ledges {w0 w : World} {p n : Nat} {t : Tab} (h : LawT w0 w p n t) (hn : n ≤ 100) : Calls Tryd.prog 26 #[.pointer (some ⟨p, 0, none⟩)] w fun e w' => ∃ a n c, e = .returned (.slice a n c) ∧ IsEdges w' a n c (edgesL t.held t.wait) ∧ n ≤ 100000 ∧ Below w.heap.size w w' := by
  obtain ⟨⟨hv, wv, hs, ws, hI, e1, e2⟩, i, u, nh, nw, b⟩ := h
  obtain ⟨ha, n1, c1, wa, n2, c2, rfl, rfl, hT⟩ := hI.read
  have l1 : hs.length ≤ 100 := by rw [← List.length_map (f := ML.l), e1]; omega
  have l2 : ws.length ≤ 100 := by rw [← List.length_map (f := ML.l), e2]; omega
  have hno : (ws.map (fun m => m.l.tx)).Nodup := by
    have := i.one
    rw [← e2, List.map_map] at this
    exact this
  have hlen : (edgesL (hs.map ML.l) (ws.map ML.l)).length ≤ 100000 := by
    have h1 := edN_len hs ws hno ws.length (Nat.le_refl _)
    rw [edK_all] at h1
    have h2 : ws.length * (hs.length + ws.length) ≤ 100 * 200 := Nat.mul_le_mul l2 (by omega)
    omega
  have hU := edges_U64 (hs := hs) (ws := ws) (fun m hm => (mapU e1 e2 u m hm).1)
  refine (pedges_any w p ha n1 c1 wa n2 c2 hs ws hT (by have := hT.h.1; omega) (by have := hT.wt.1; omega) hno).mono ?_
  rintro e w' ⟨v, rfl, g1, g2⟩
  obtain ⟨a, k, c, rfl⟩ := g1.any3
  rw [e1, e2] at g1 hU hlen
  exact ⟨a, k, c, rfl, ⟨g1.is, hU⟩, by have := g1.len.1; omega, g2⟩

/-- what a deed makes of a table -/
def runT (t : Tab) (d : MQ) : Tab := if d.fr = true then (freeL t d.m.l.tx).1 else (askL t d.m.l).1

/-- .. the first k of them -/
def stT (ds : List MQ) (k : Nat) : Tab := (ds.take k).foldl runT ⟨[], []⟩

theorem stT_more {ds : List MQ} {k : Nat} {d : MQ} (h : ds[k]? = some d) : stT ds (k + 1) = runT (stT ds k) d := by
  unfold stT
  rw [List.take_add_one, h, List.foldl_append]
  rfl

theorem LawT.mono {w0 w : World} {p n m : Nat} {t : Tab} (h : LawT w0 w p n t) (hm : n ≤ m) : LawT w0 w p m t := ⟨h.ex, h.inv, h.u, Nat.le_trans h.nh hm, Nat.le_trans h.nw hm, h.b⟩

theorem small_at {ds : List MQ} {n : Nat} (h : (ds.all smallQ && decide (n ≤ 40)) = true) : (∀ d ∈ ds, d.m.ln ≤ 20 ∧ d.m.hn ≤ 20) ∧ n ≤ 40 := by
  rw [Bool.and_eq_true] at h
  refine ⟨fun d hd => ?_, by simpa using h.2⟩
  have := List.all_eq_true.1 h.1 d hd
  unfold smallQ at this
  simpa using this

end Go.Proofs.YtbnojmaknlfphaaDoor
