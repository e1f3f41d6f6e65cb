/- A mesh: Send. -/
import Derived.Test.YtodmieehdleohaaMs6
namespace Go.Proofs.Ytodmieehdleohaa
open Go.RowKit NumMath Go.ChangeShapes Go.WideShapes Go.Deep
set_option linter.unusedVariables false
set_option maxRecDepth 100000

theorem hold_any (base p z : Nat) (cs : Nat → Value) (F : List (Int × Int)) (C : Int → Int → Bool) (Q : Nat → List MMsg) (m : MMsg) (d : Nat) (hd : d ≤ 100) (w : World) (h : IsMesh w base p z cs F C Q) (hm : m.okX (Spine p cs) w) (hbig : (Q (2 + d)).length ≤ 999999) :
    Calls Try.prog 24 #[.pointer (some ⟨p, 0, none⟩), .agg #[.int .i64 m.k, .int .u64 m.fr, .int .u64 m.tt, .int .u64 m.tm, .int .u64 m.ix, .int .u64 m.lt, .int .u64 m.cm, .int .u64 m.hn, .bool m.rj, .slice m.ea m.en m.ec, .int .u64 m.si, .int .u64 m.st, .slice m.ma m.mn m.mc, .slice m.sa m.sn m.sc], .int .i64 (d : Int)] w fun e w' => e = .returned (.tuple #[]) ∧ MPost w base p z cs F C (upd Q (2 + d) (Q (2 + d) ++ [m])) w' := by
  cases d with
  | zero => exact hold_now base p z cs F C Q m w h hm hbig
  | succ j =>
    have e : 2 + (j + 1) = 3 + j := by omega
    rw [e] at hbig ⊢
    have e2 : ((j + 1 : Nat) : Int) = (j : Int) + 1 := by simp
    rw [e2]
    exact hold_later base p z cs F C Q m j (by omega) w h hm hbig

/-- the messages of the lists, wherever they lie -/
def pq (Q : Nat → List MMsg) : Nat → List PMsg := fun i => (Q i).map MMsg.pure

theorem pq_upd (Q : Nat → List MMsg) (i : Nat) (l : List MMsg) : pq (upd Q i l) = upd (pq Q) i (l.map MMsg.pure) := by
  funext j
  unfold pq upd
  split <;> rfl

/-- what becomes of one message that is sent -/
def send1 (C : Int → Int → Bool) (s : List (Int × Int) × (Nat → List PMsg)) (m : PMsg) : List (Int × Int) × (Nat → List PMsg) :=
  (s.1.tail, if C (min m.fr m.tt) (max m.fr m.tt) then s.2 else upd s.2 (2 + (fateOf s.1).2.toNat) (s.2 (2 + (fateOf s.1).2.toNat) ++ List.replicate (fateOf s.1).1.toNat m))

def sendL (C : Int → Int → Bool) (s : List (Int × Int) × (Nat → List PMsg)) (l : List PMsg) : List (Int × Int) × (Nat → List PMsg) := l.foldl (send1 C) s

/-- a list of messages that lies anywhere -/
def IsG (w : World) (a : Option Addr) (len cap : Nat) (ms : List MMsg) : Prop :=
  ms.length = len ∧ len ≤ cap ∧ cap ≤ maxLen ∧ (len = 0 ∨ ∃ g off, a = some ⟨g, off, none⟩ ∧ g < w.heap.size ∧ ∀ i, i < len → CellG w g (off + i * 14) (ms.getD i msg0))

theorem IsG.lies {w w' : World} {M : Nat → Prop} {a : Option Addr} {len cap : Nat} {ms : List MMsg} (h : IsG w a len cap ms) (hk : Keeps M w w') (ho : OffA M len a) : IsG w' a len cap ms := by
  obtain ⟨h1, h2, h3, h4⟩ := h
  refine ⟨h1, h2, h3, ?_⟩
  rcases h4 with h4 | ⟨g, off, rfl, hg, hc⟩
  · exact .inl h4
  · rcases ho with ho | ho
    · exact .inl ho
    · exact .inr ⟨g, off, rfl, Nat.lt_of_lt_of_le hg hk.size, fun i hi => (hc i hi).same (hk.block g hg (ho _ rfl))⟩

theorem IsG.keep {w w' : World} {a : Option Addr} {len cap : Nat} {ms : List MMsg} (h : IsG w a len cap ms) (hb : Below w.heap.size w w') : IsG w' a len cap ms := h.lies (Below.keeps hb (fun _ => False)) (offA_none _ _)

theorem IsG.at {w : World} {a : Option Addr} {len cap : Nat} {ms : List MMsg} (h : IsG w a len cap ms) {k : Nat} (hk : k < len) : ∃ g off, a = some ⟨g, off, none⟩ ∧ g < w.heap.size ∧ CellG w g (off + k * 14) (ms.getD k msg0) := by
  obtain ⟨h1, h2, h3, h4⟩ := h
  rcases h4 with h4 | ⟨g, off, rfl, hg, hc⟩
  · omega
  · exact ⟨g, off, rfl, hg, hc k hk⟩

theorem msg_mem (ms : List MMsg) (k : Nat) (h : k < ms.length) : ms.getD k msg0 ∈ ms := by
  have : ms.getD k msg0 = ms[k] := by simp [List.getD, List.getElem?_eq_getElem h]
  rw [this]; exact List.getElem_mem h

/-- its lists are no longer than a call can be handed -/
structure MMsg.small (m : MMsg) : Prop where
  se : m.en * 48 ≤ 140737488355328
  sd : ∀ e ∈ m.es, e.n ≤ 140737488355328
  sm : m.mn * 8 ≤ 140737488355328
  ss : m.sn ≤ 140737488355328

def pushN (q : Nat → List PMsg) (i n : Nat) (m : PMsg) : Nat → List PMsg := upd q i (q i ++ List.replicate n m)

theorem pushN_zero (q : Nat → List PMsg) (i : Nat) (m : PMsg) : pushN q i 0 m = q := by
  funext j
  unfold pushN upd
  split
  · rename_i e; subst e; simp
  · rfl

theorem pushN_succ (q : Nat → List PMsg) (i n : Nat) (m : PMsg) : upd (pushN q i n m) i (pushN q i n m i ++ [m]) = pushN q i (n + 1) m := by
  funext j
  unfold pushN
  by_cases e : j = i
  · subst e
    rw [upd_at, upd_at, upd_at, List.append_assoc, List.replicate_succ']
  · rw [upd_ne _ _ _ e, upd_ne _ _ _ e, upd_ne _ _ _ e]

theorem take_snoc (ms : List MMsg) (k : Nat) (h : k < ms.length) : ms.take (k + 1) = ms.take k ++ [ms.getD k msg0] := by
  rw [List.take_add_one]
  simp [List.getD, List.getElem?_eq_getElem h]

theorem sendL_snoc (C : Int → Int → Bool) (s : List (Int × Int) × (Nat → List PMsg)) (l : List PMsg) (m : PMsg) : sendL C s (l ++ [m]) = send1 C (sendL C s l) m := by simp [sendL]

/-- a mesh, as a call that began at w has left it so far -/
structure Mid (w : World) (base p z : Nat) (cs : Nat → Value) (C : Int → Int → Bool) (N : Nat → Nat) (F' : List (Int × Int)) (cs' : Nat → Value) (Q' : Nat → List MMsg) (wr : World) : Prop where
  is : IsMesh wr base p z cs' F' C Q'
  kp : Keeps (Spine p cs) w wr
  sp : ∀ k, Spine p cs' k → Spine p cs k ∨ w.heap.size ≤ k
  le : ∀ x, (Q' x).length ≤ N x

theorem Mid.below {w : World} {base p z : Nat} {cs : Nat → Value} {C : Int → Int → Bool} {N : Nat → Nat} {F' : List (Int × Int)} {cs' : Nat → Value} {Q' : Nat → List MMsg} {wr w' : World} (h : Mid w base p z cs C N F' cs' Q' wr) (hb : Below wr.heap.size wr w') : Mid w base p z cs C N F' cs' Q' w' :=
  ⟨h.is.keep hb, kpBelow h.kp hb, h.sp, h.le⟩

theorem Mid.more {w : World} {base p z : Nat} {cs : Nat → Value} {C : Int → Int → Bool} {N N' : Nat → Nat} {F' : List (Int × Int)} {cs' : Nat → Value} {Q' : Nat → List MMsg} {wr : World} (h : Mid w base p z cs C N F' cs' Q' wr) (hN : ∀ x, N x ≤ N' x) : Mid w base p z cs C N' F' cs' Q' wr :=
  ⟨h.is, h.kp, h.sp, fun x => Nat.le_trans (h.le x) (hN x)⟩

theorem Mid.next {w : World} {base p z : Nat} {cs : Nat → Value} {C : Int → Int → Bool} {N N' : Nat → Nat} {F' F'' : List (Int × Int)} {cs' : Nat → Value} {Q' Q'' : Nat → List MMsg} {wr w' : World} (h : Mid w base p z cs C N F' cs' Q' wr) (hp : MPost wr base p z cs' F'' C Q'' w') (hN : ∀ x, (Q'' x).length ≤ N' x) :
    ∃ cs'', Mid w base p z cs C N' F'' cs'' Q'' w' ∧ Keeps (Spine p cs') wr w' ∧ ∀ k, Spine p cs'' k → Spine p cs' k ∨ wr.heap.size ≤ k := by
  obtain ⟨cs'', h1, h2, h3⟩ := hp
  refine ⟨cs'', ⟨h1, kpThen h.kp (fun k hk => (h.sp k hk)) h2, fun k hk => ?_, hN⟩, h2, h3⟩
  rcases h3 k hk with h4 | h4
  · exact h.sp k h4
  · exact .inr (Nat.le_trans h.kp.size h4)

/-- the cells of a fate in a block of its own -/
def BoxF (w : World) (g : Nat) (t d : Int) : Prop := w.cell? ⟨g, 0, none⟩ = some (.int .i64 t) ∧ w.cell? ⟨g, 1, none⟩ = some (.int .i64 d) ∧ g < w.heap.size

theorem BoxF.lies {M : Nat → Prop} {w w' : World} {g : Nat} {t d : Int} (h : BoxF w g t d) (hk : Keeps M w w') (hg : ¬ M g) : BoxF w' g t d :=
  ⟨(hk.cell h.2.2 hg).trans h.1, (hk.cell h.2.2 hg).trans h.2.1, Nat.lt_of_lt_of_le h.2.2 hk.size⟩

theorem BoxF.keep {w w' : World} {g : Nat} {t d : Int} (h : BoxF w g t d) (hb : Below w.heap.size w w') : BoxF w' g t d := h.lies (Below.keeps hb (fun _ => False)) (fun h => h)

theorem boxF_new (w : World) (t d : Int) (g : Nat) (hg : w.heap.size = g) : BoxF (w.alloc (.cells #[.int .i64 t, .int .i64 d] 56)) g t d := by
  subst hg
  exact ⟨by simp, by simp, by simp⟩

theorem length_upd_le {Q : Nat → List MMsg} {i : Nat} {m : MMsg} {N : Nat → Nat} (h : ∀ x, (Q x).length ≤ N x) : ∀ x, (upd Q i (Q i ++ [m]) x).length ≤ N x + 1 := by
  intro x
  unfold upd
  split
  · rename_i e; subst e; have := h x; simp; omega
  · have := h x; omega

set_option maxHeartbeats 8000000 in
theorem sendM_any (base p z : Nat) (cs : Nat → Value) (F : List (Int × Int)) (C : Int → Int → Bool) (Q : Nat → List MMsg) (a : Option Addr) (len cap : Nat) (ms : List MMsg) (w : World) (h : IsMesh w base p z cs F C Q) (hG : IsG w a len cap ms) (hO : OffA (Spine p cs) len a) (hD : ∀ m ∈ ms, m.okX (Spine p cs) w) (hS : ∀ m ∈ ms, m.small) (hbig : ∀ x, (Q x).length + 3 * len ≤ 900000) (hlen : len ≤ 100000) :
    Calls Try.prog 9 #[.pointer (some ⟨p, 0, none⟩), .slice a len cap] w fun e w' => e = .returned (.tuple #[]) ∧ ∃ cs' Q', Mid w base p z cs C (fun x => (Q x).length + 3 * len) (sendL C (F, pq Q) (ms.map MMsg.pure)).1 cs' Q' w' ∧ pq Q' = (sendL C (F, pq Q) (ms.map MMsg.pure)).2 := by
  have HMade := hide (madeM_any w base p z cs F C Q h)
  have H0 : Hid (Mid w base p z cs C (fun x => (Q x).length + 3 * 0) F cs Q w) := ⟨h, kpSelf _ _, fun k hk => .inl hk, fun x => Nat.le_refl _⟩
  have HG := hide hG
  have HO := hide hO
  have HD := hide hD
  have HS := hide hS
  have HB := hide hbig
  have HL := hide hG.1
  clear h hG hO hD hS hbig
  go_enter Try.func9, Try.ntmps9
  go_wp2_with (first
    | (go_at_call 21; go_must (refine HMade.out.mono ?_); rintro e w' ⟨rfl, hw⟩; have hw := hw.symm; subst hw))
  go_loopg [14] len (fun gk i wr => ∃ (k : Nat) (F' : List (Int × Int)) (cs' : Nat → Value) (Q' : Nat → List MMsg), gk = len - k ∧ k ≤ len ∧ i = .int .i64 k ∧ Mid w base p z cs C (fun x => (Q x).length + 3 * k) F' cs' Q' wr ∧ (F', pq Q') = sendL C (F, pq Q) ((ms.take k).map MMsg.pure))
  case atStart => exact ⟨0, F, cs, Q, rfl, Nat.zero_le _, rfl, H0.out, rfl⟩
  case round =>
    obtain ⟨k, F', cs', Q', rfl, hk, rfl, hM, hE⟩ := hrel
    have HM := hide hM
    have HE := hide hE
    clear hM hE
    by_cases hlt : k < len
    · obtain ⟨g, off, hga, hg, hC0⟩ := (HG.out.lies HM.out.kp HO.out).at hlt
      subst hga
      have hkl : k < ms.length := by rw [HL.out]; exact hlt
      have hmem := msg_mem ms k hkl
      have HSm := hide (HS.out _ hmem)
      have HDm := hide (HD.out _ hmem)
      have HTk := hide (take_snoc ms k hkl)
      have HCe := hide hC0
      clear hmem hC0
      generalize ms.getD k msg0 = m at *
      have hpl := HM.out.is.pb.2
      obtain ⟨N1, hN1⟩ : ∃ N1, N1 = wr.heap.size := ⟨_, rfl⟩
      have HN1 := hide hN1
      have hN1s : Hid (¬ Spine p cs' N1) := fun hs => by have := (Spine.lt HM.out.is hs).2; omega
      have HX1 := hide (boxG_new wr m N1 39 hN1.symm)
      have HM1 := hide (HM.out.below (new_below wr (.cells #[.int .i64 m.k, .int .u64 m.fr, .int .u64 m.tt, .int .u64 m.tm, .int .u64 m.ix, .int .u64 m.lt, .int .u64 m.cm, .int .u64 m.hn, .bool m.rj, .slice m.ea m.en m.ec, .int .u64 m.si, .int .u64 m.st, .slice m.ma m.mn m.mc, .slice m.sa m.sn m.sc] 39)))
      obtain ⟨tn, htn⟩ : ∃ tn : Nat, (fateOf F').1 = tn := ⟨(fateOf F').1.toNat, by have := (fateOf_rng F').1.1; omega⟩
      obtain ⟨dn, hdn⟩ : ∃ dn : Nat, (fateOf F').2 = dn := ⟨(fateOf F').2.toNat, by have := (fateOf_rng F').2.1; omega⟩
      have ht3 : tn ≤ 3 := by have := (fateOf_rng F').1.2; omega
      have hd100 : dn ≤ 100 := by have := (fateOf_rng F').2.2; omega
      have HTn := hide htn
      have HDn := hide hdn
      have HNf := hide (nextFate_any base p z cs' F' C Q' _ HM1.out.is)
      rw [htn, hdn] at HNf
      subst hN1
      clear htn hdn
      go_wp2_with (first
        | (refine wp_loadG _ rfl (.tmp 16) rfl g (off + k * 14) m rfl HCe.out ?_)
        | (refine wp_storeN wr rfl (.tmp 5) (.tmp 17) rfl wr.heap.size rfl m rfl rfl ?_)
        | (go_at_call 22; go_must (refine HNf.out.mono ?_); rintro e w2 ⟨rfl, hp2⟩; obtain ⟨cs2, hm2, hk2, hs2⟩ := HM1.out.next (N' := fun x => (Q x).length + 3 * k) hp2 HM1.out.le; have HX2 := hide (HX1.out.lies hk2 hN1s.out); have hN2 : Hid (¬ Spine p cs2 wr.heap.size) := (fun hs => by rcases hs2 _ hs with h1 | h1; exact hN1s.out h1; (rw [World.size_alloc] at h1; omega)); have HM2 := hide hm2; have HS2 := hide hs2; have h2sz := hk2.size; clear hp2 hm2 hk2 hs2))
      have HM3 := hide (HM2.out.below (new_below w2 (.cells #[.int .i64 (tn : Int), .int .i64 (dn : Int)] 56)))
      have HX3 := hide (HX2.out.keep (new_below w2 (.cells #[.int .i64 (tn : Int), .int .i64 (dn : Int)] 56)))
      have HF3 := hide (boxF_new w2 tn dn w2.heap.size rfl)
      have hNF : Hid (¬ Spine p cs2 w2.heap.size) := fun hs => by have := (Spine.lt HM2.out.is hs).2; omega
      obtain ⟨mb, hmb, hmap⟩ := HM3.out.is.map
      have c1 := HM3.out.is.cell 1 (by decide)
      rw [hmb] at c1
      obtain ⟨-, b1, b2, -⟩ := HX3.out.x
      obtain ⟨cb, hcb⟩ : ∃ cb, C (min m.fr m.tt) (max m.fr m.tt) = cb := ⟨_, rfl⟩
      have HU1 : Hid (UU (min m.fr m.tt)) := by show UU _; have := HDm.out.fr; have := HDm.out.tt; constructor <;> omega
      have HU2 : Hid (UU (max m.fr m.tt)) := by show UU _; have := HDm.out.fr; have := HDm.out.tt; constructor <;> omega
      have hp3 := HM3.out.is.pb.2
      have hx3 := HX3.out.lt
      have HKT := hide (fun W (hW : Below (w2.alloc (.cells #[.int .i64 (tn : Int), .int .i64 (dn : Int)] 56)).heap.size (w2.alloc (.cells #[.int .i64 (tn : Int), .int .i64 (dn : Int)] 56)) W) => And.intro ((hW.cell (p := ⟨p, 1, none⟩) hp3).trans c1) (And.intro ((hW.cell (p := ⟨wr.heap.size, 1, none⟩) hx3).trans b1) (And.intro ((hW.cell (p := ⟨wr.heap.size, 2, none⟩) hx3).trans b2) ((mapC_same hmap (hW.block mb (mapC_lt hmap))).look HU1.out HU2.out))))
      rw [hcb] at HKT
      have HMf := hide (fun W (hW : Below (w2.alloc (.cells #[.int .i64 (tn : Int), .int .i64 (dn : Int)] 56)).heap.size (w2.alloc (.cells #[.int .i64 (tn : Int), .int .i64 (dn : Int)] 56)) W) => HM3.out.below hW)
      have HXf := hide (fun W (hW : Below (w2.alloc (.cells #[.int .i64 (tn : Int), .int .i64 (dn : Int)] 56)).heap.size (w2.alloc (.cells #[.int .i64 (tn : Int), .int .i64 (dn : Int)] 56)) W) => HX3.out.keep hW)
      have HFf := hide (fun W (hW : Below (w2.alloc (.cells #[.int .i64 (tn : Int), .int .i64 (dn : Int)] 56)).heap.size (w2.alloc (.cells #[.int .i64 (tn : Int), .int .i64 (dn : Int)] 56)) W) => HF3.out.keep hW)
      have HCb := hide hcb
      clear hmap hmb hcb HM1 HX1 HX2 HM2 HNf c1 b1 b2 hp3 hx3
      go_wp2_with fail
      go_region_held3 (fun W => W.cell? ⟨p, 1, none⟩ = some (.map (some mb)) ∧ W.cell? ⟨wr.heap.size, 1, none⟩ = some (.int .u64 m.fr) ∧ W.cell? ⟨wr.heap.size, 2, none⟩ = some (.int .u64 m.tt) ∧ (Instr.lookup 57 (.map (some mb)) (.agg #[.int .u64 (min m.fr m.tt), .int .u64 (max m.fr m.tt)]) true).run Try.prog W = .ok (.tuple #[.agg #[], .bool cb]) W) (exact HKT.out _ (by repeat (first | exact Below.refl _ _ | refine belA ?_ _ | refine Below.drew ?_))) (first
        | (go_at_call 23; go_must (refine (pair_any m.fr m.tt _).mono ?_); rintro e w' ⟨rfl, rfl⟩))
      all_goals
        clear HKT HM3 HX3 HF3
        cases cb with
        | true =>
          go_wp2
          go_roundg (len - (k + 1))
          case measure => omega
          case rel =>
            refine ⟨k + 1, F'.tail, cs2, Q', rfl, by omega, by go_num, (HMf.out _ (by repeat (first | exact Below.refl _ _ | refine belA ?_ _ | refine Below.drew ?_))).more (fun x => by omega), ?_⟩
            rw [HTk.out, List.map_append, List.map_singleton, sendL_snoc, ← HE.out]
            unfold send1
            have : C (min m.pure.fr m.pure.tt) (max m.pure.fr m.pure.tt) = true := HCb.out
            simp [this]
        | false =>
          have HN1b := HN1.out
          clear HN1b
          have HFs := hide HMf.out
          go_wp2
          generalize hg1 : wr.heap.size = N1 at *
          clear hg1
          go_loopw [36] (fun i wj => ∃ (j : Nat) (cs'' : Nat → Value) (Q'' : Nat → List MMsg), j ≤ tn ∧ i = .int .i64 j ∧ Mid w base p z cs C (fun x => (Q x).length + 3 * k + j) F'.tail cs'' Q'' wj ∧ BoxG wj N1 m ∧ BoxF wj w2.heap.size tn dn ∧ (¬ Spine p cs'' N1 ∧ ¬ Spine p cs'' w2.heap.size) ∧ pq Q'' = pushN (pq Q') (2 + dn) j m.pure) (fun i _ => tn - (intOf i).toNat)
          case atStart => exact ⟨0, cs2, Q', Nat.zero_le _, rfl, (HMf.out _ (by repeat (first | exact Below.refl _ _ | refine belA ?_ _ | refine Below.drew ?_))).more (fun x => by omega), HXf.out _ (by repeat (first | exact Below.refl _ _ | refine belA ?_ _ | refine Below.drew ?_)), HFf.out _ (by repeat (first | exact Below.refl _ _ | refine belA ?_ _ | refine Below.drew ?_)), ⟨hN2.out, hNF.out⟩, (pushN_zero _ _ _).symm⟩
          case round =>
            obtain ⟨j, cs3, Q3, hj, rfl, hMj, hXj, hFj, hNj, hEj⟩ := hrel
            have HMj := hide hMj
            have HXj := hide hXj
            have HFj := hide hFj
            have HNj := hide hNj
            have HEj := hide hEj
            obtain ⟨r0, r1, r2, r3, r4, r5, r6, r7, r8, r9, r10, r11, r12, r13⟩ := hXj.x
            obtain ⟨q0, q1, -⟩ := hFj
            clear hMj hXj hNj hEj
            by_cases hjt : j < tn
            · have HOk := hide (((HDm.out.lies HMj.out.kp (fun _ h => h)).more (Y := fun _ => False) (fun k hk => hk.elim)).keep (Below.refl _ wr).drew)
              have hb3 : (Q3 (2 + dn)).length ≤ 900000 := by have h1 := HMj.out.le (2 + dn); have h2 := HB.out (2 + dn); omega
              go_wp2_with fail
              go_region_with (first
                | (go_at_call 25; go_must (refine (copyM_any m _ HOk.out HSm.out.se HSm.out.sd HSm.out.sm HSm.out.ss).mono ?_); rintro e w6 ⟨m6, rfl, hpm6, hok6, hb6⟩; (have hb6 := below_undrew hb6); have HPm6 := hide hpm6; have HM6 := hide (HMj.out.below hb6); have HX6 := hide (HXj.out.keep hb6); have HF6 := hide (HFj.out.keep hb6); have HOk6 := hide (hok6.more (Y := Spine p cs3) (fun k hk => .inl (Spine.lt HMj.out.is hk).2)); obtain ⟨u0, u1, -⟩ := HF6.out; clear hpm6 hok6 hb6)
                | (go_at_call 24; go_must (refine (hold_any base p z cs3 F'.tail C Q3 m6 dn hd100 _ HM6.out.is HOk6.out (by omega)).mono ?_); rintro e w7 ⟨rfl, hp7⟩; obtain ⟨cs7, hm7, hk7, hs7⟩ := HM6.out.next (N' := fun x => (Q x).length + 3 * k + (j + 1)) hp7 (fun x => Nat.le_trans (length_upd_le HM6.out.le x) (by omega)); have HM7 := hide hm7; have HX7 := hide (HX6.out.lies hk7 HNj.out.1); have HF7 := hide (HF6.out.lies hk7 HNj.out.2); have HN7 : Hid (¬ Spine p cs7 N1 ∧ ¬ Spine p cs7 w2.heap.size) := ⟨fun h => by rcases hs7 _ h with h1 | h1; exact HNj.out.1 h1; (have := HX6.out.lt; omega), fun h => by rcases hs7 _ h with h1 | h1; exact HNj.out.2 h1; (have := HF6.out.2.2; omega)⟩; clear hp7 hm7 hk7 hs7))
              all_goals
                go_wp2
                go_roundw
                case rel =>
                  refine ⟨j + 1, cs7, _, by omega, by go_num, HM7.out, HX7.out, HF7.out, HN7.out, ?_⟩
                  rw [pq_upd, List.map_append, List.map_singleton, HPm6.out, ← pushN_succ, ← HEj.out]
                  rfl
                case measure => simp [intOf]; omega
            · have hjn : j = tn := by omega
              subst hjn
              go_wp2
              go_roundg (len - (k + 1))
              case measure => omega
              case rel =>
                refine ⟨k + 1, F'.tail, cs3, Q3, rfl, by omega, by go_num, HMj.out.more (fun x => by omega), ?_⟩
                rw [HTk.out, List.map_append, List.map_singleton, sendL_snoc, ← HE.out]
                unfold send1
                have h1 : C (min m.pure.fr m.pure.tt) (max m.pure.fr m.pure.tt) = false := HCb.out
                rw [HEj.out]
                simp only [h1, HTn.out, HDn.out, Int.toNat_natCast]
                rfl
    · have hkn : k = len := by omega
      subst hkn
      go_wp2
      go_end0
      have ht : ms.take k = ms := List.take_of_length_le (by rw [HL.out]; exact Nat.le_refl _)
      have hE := HE.out
      rw [ht] at hE
      refine ⟨rfl, cs', Q', ?_, ?_⟩
      · rw [← hE]; exact HM.out
      · rw [← hE]

end Go.Proofs.Ytodmieehdleohaa
