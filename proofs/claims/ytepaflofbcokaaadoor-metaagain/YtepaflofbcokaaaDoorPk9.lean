/- The program's table: Edges: what they are. -/
import Derived.Test.YtepaflofbcokaaaDoorPk7
import Derived.Test.YtepaflofbcokaaaDoorLk9
import Derived.Test.YtepaflofbcokaaaDoorWp7
namespace Go.Proofs.YtepaflofbcokaaaDoor
open Go.RowKit NumMath Go.ChangeShapes Go.WideShapes Go.Deep
set_option linter.unusedVariables false
set_option maxRecDepth 100000

/-- whom one waits for, each once -/
def whoE (hs ws : List ML) (k : Nat) (m : ML) : List Int := whoL ((wayM hs (ws.take k) m).map (fun h => h.l.tx))

theorem dd_who (t : Int) (acc : List (Int × Int)) (hacc : ∀ e ∈ acc, e.1 ≠ t) : ∀ (l s : List Int), (l.map (fun y => (t, y))).foldl ddW (acc ++ s.map (fun y => (t, y))) = acc ++ (l.foldl whoW s).map (fun y => (t, y)) := by
  intro l
  induction l with
  | nil => intro s; rfl
  | cons y r ih =>
    intro s
    rw [List.map_cons, List.foldl_cons, List.foldl_cons, ← ih]
    congr 1
    unfold ddW whoW
    have hiff : (t, y) ∈ acc ++ s.map (fun y => (t, y)) ↔ y ∈ s := by
      rw [List.mem_append, List.mem_map]
      constructor
      · rintro (h | ⟨z, hz, e⟩)
        · exact absurd rfl (hacc _ h)
        · cases e; exact hz
      · intro h; exact .inr ⟨y, h, rfl⟩
    by_cases h : y ∈ s
    · rw [if_pos h, if_pos (hiff.2 h)]
    · rw [if_neg h, if_neg (fun e => h (hiff.1 e)), List.map_append, List.append_assoc]; rfl

theorem edK_fst {hs ws : List ML} {k : Nat} {e : Int × Int} (h : e ∈ edK hs ws k) : e.1 ∈ (ws.take k).map (fun m => m.l.tx) := by
  unfold edK at h
  rw [mem_ddL, mem_rawE] at h
  obtain ⟨b, x, c, h, h1, -, rfl⟩ := h
  have : x ∈ (ws.take k).map ML.l := by rw [h1]; simp
  obtain ⟨m, hm, rfl⟩ := List.mem_map.1 this
  exact List.mem_map.2 ⟨m, hm, rfl⟩

theorem edK_next {hs ws : List ML} {k : Nat} {m : ML} (hn : (ws.map (fun m => m.l.tx)).Nodup) (hk : ws[k]? = some m) : edK hs ws (k + 1) = edK hs ws k ++ (whoE hs ws k m).map (fun t => (m.l.tx, t)) := by
  rw [← edJ_all (hs := hs) hk (Nat.le_refl _)]
  unfold edJ
  rw [List.take_of_length_le (Nat.le_refl _)]
  have hfst : ∀ e ∈ edK hs ws k, e.1 ≠ m.l.tx := by
    intro e he h1
    have h2 := edK_fst he
    rw [h1] at h2
    obtain ⟨m2, hm2, e2⟩ := List.mem_map.1 h2
    rw [List.mem_iff_getElem?] at hm2
    obtain ⟨i, hi⟩ := hm2
    rw [List.getElem?_take] at hi
    split at hi
    · rename_i hlt
      have a1 : (ws.map (fun m => m.l.tx))[i]? = some m.l.tx := by rw [List.getElem?_map, hi]; simp [e2]
      have a2 : (ws.map (fun m => m.l.tx))[k]? = some m.l.tx := by rw [List.getElem?_map, hk]; rfl
      have l1 := (List.getElem?_eq_some_iff.1 a1).1
      have := (List.getElem?_inj l1 hn).1 (a1.trans a2.symm)
      omega
    · cases hi
  have := dd_who m.l.tx (edK hs ws k) hfst ((wayM hs (ws.take k) m).map (fun h => h.l.tx)) []
  rw [List.map_nil, List.append_nil, List.map_map] at this
  exact this

theorem edK_all (hs ws : List ML) : edK hs ws ws.length = edgesL (hs.map ML.l) (ws.map ML.l) := by
  unfold edK edgesL
  rw [List.take_of_length_le (Nat.le_refl _)]

theorem who_memL : ∀ (l acc : List Int) (t : Int), t ∈ l.foldl whoW acc → t ∈ acc ∨ t ∈ l := by
  intro l
  induction l with
  | nil => intro acc t h; exact .inl h
  | cons x r ih =>
    intro acc t h
    rcases ih _ _ h with h1 | h1
    · unfold whoW at h1
      split at h1
      · exact .inl h1
      · rcases List.mem_append.1 h1 with h2 | h2
        · exact .inl h2
        · rw [List.mem_singleton.1 h2]; exact .inr (by simp)
    · exact .inr (List.mem_cons_of_mem _ h1)

theorem way_mem {hs bs : List ML} {x m : ML} (h : m ∈ wayM hs bs x) : m ∈ hs ∨ m ∈ bs := by
  unfold wayM at h
  rcases List.mem_append.1 h with h | h
  · exact .inl (List.mem_filter.1 h).1
  · split at h
    · cases h
    · exact .inr (List.mem_filter.1 h).1

theorem whoE_len (hs ws : List ML) (k : Nat) (m : ML) : (whoE hs ws k m).length ≤ hs.length + ws.length := by
  unfold whoE
  have h1 := who_len ((wayM hs (ws.take k) m).map (fun h => h.l.tx)) []
  unfold whoL
  rw [List.length_map, List.length_nil, Nat.zero_add] at h1
  refine Nat.le_trans h1 ?_
  unfold wayM
  rw [List.length_append]
  have a1 := List.length_filter_le (fun h : ML => standsL m.l h.l) hs
  have a2 : (if holdsL (hs.map ML.l) m.l = true then [] else (ws.take k).filter (fun h => standsL m.l h.l)).length ≤ ws.length := by
    split
    · simp
    · refine Nat.le_trans (List.length_filter_le _ _) ?_
      rw [List.length_take]; omega
  omega

/-- how many edges there are -/
theorem edN_len (hs ws : List ML) (hn : (ws.map (fun m => m.l.tx)).Nodup) : ∀ k, k ≤ ws.length → (edK hs ws k).length ≤ k * (hs.length + ws.length) := by
  intro k
  induction k with
  | zero => intro _; unfold edK; simp [rawE, ddL]
  | succ k ih =>
    intro hk
    obtain ⟨m, hm⟩ := ml_at (hs := ws) (k := k) (by omega)
    rw [edK_next hn hm, List.length_append, List.length_map, Nat.add_mul, Nat.one_mul]
    have h1 := ih (by omega)
    have h2 := whoE_len hs ws k m
    omega

theorem edges_U64 {hs ws : List ML} (hu : ∀ m ∈ hs ++ ws, U64 m.l.tx) : ∀ e ∈ edgesL (hs.map ML.l) (ws.map ML.l), U64 e.1 ∧ U64 e.2 := by
  intro e he
  unfold edgesL at he
  rw [mem_ddL, mem_rawE] at he
  obtain ⟨b, x, c, h, h1, h2, rfl⟩ := he
  have hx : x ∈ ws.map ML.l := by rw [h1]; simp
  obtain ⟨m, hm, rfl⟩ := List.mem_map.1 hx
  have hh : h ∈ hs.map ML.l ∨ h ∈ ws.map ML.l := by
    rcases mem_way.1 h2 with h3 | ⟨-, h3⟩
    · exact .inl (mem_against.1 h3).1
    · have := (mem_against.1 h3).1
      rw [List.nil_append] at this
      exact .inr (by rw [h1]; simp [this])
  refine ⟨hu m (List.mem_append_right _ hm), ?_⟩
  rcases hh with hh | hh
  · obtain ⟨m2, hm2, rfl⟩ := List.mem_map.1 hh
    exact hu m2 (List.mem_append_left _ hm2)
  · obtain ⟨m2, hm2, rfl⟩ := List.mem_map.1 hh
    exact hu m2 (List.mem_append_right _ hm2)

set_option maxHeartbeats 4000000 in
theorem pedges_any (w : World) (p : Nat) (ha : Option Addr) (hn hc : Nat) (wa : Option Addr) (wn wc : Nat) (hs ws : List ML) (h : TpA w p ha hn hc wa wn wc hs ws) (hb1 : hn ≤ 10000) (hb2 : wn ≤ 10000) (hno : (ws.map (fun m => m.l.tx)).Nodup) :
    Calls Tryd.prog 63 #[.pointer (some ⟨p, 0, none⟩)] w fun e w' => ∃ v, e = .returned v ∧ OwnY layE w' w.heap.size v (edgesL (hs.map ML.l) (ws.map ML.l)) ∧ Below w.heap.size w w' := by
  have H := hide h
  have HN := hide hno
  have HL := hide h.wt.1
  have HLh := hide h.h.1
  have HMd := hide (made_any w p h.c0)
  have c2 := h.c2
  have hplt := h.lt
  have hm : (wn : Int) ≤ 9223372036854775807 := by omega
  clear h hno
  go_enter Tryd.func63, Tryd.ntmps63
  go_wp2_with (first
    | (go_at_call 25; go_must (refine HMd.out.mono ?_); rintro e w2 ⟨rfl, hw⟩; have hw := hw.symm; subst hw))
  go_loopg [16, 3] wn (fun gk i v wr => ∃ k : Nat, gk = wn - k ∧ i = .int .i64 k ∧ k ≤ wn ∧ OwnY layE wr w.heap.size v (edK hs ws k) ∧ Below w.heap.size w wr)
  case atStart => exact ⟨0, rfl, rfl, Nat.zero_le _, ownY_nil _ _, Below.refl _ _⟩
  case round =>
    clear c2
    obtain ⟨k, rfl, rfl, hk, hO, hB⟩ := hrel
    obtain ⟨va, vn, vc, rfl⟩ := hO.any3
    have HO := hide hO
    have HB := hide hB
    have hsw := hB.size
    clear hO
    by_cases hlt : k < wn
    · have hlt' : (k : Int) < (wn : Int) := by omega
      obtain ⟨m, hmk⟩ := ml_at (hs := ws) (k := k) (by have := HL.out; omega)
      obtain ⟨g, off, rfl, hg, hC⟩ := H.out.wt.at hlt
      obtain ⟨d0, d1, d2, d3, d4⟩ := at5_list (hC.same (hB.block g hg)) hmk
      have hbN := new_below wr (.cells #[.int .u64 m.l.tx, .int .i64 m.l.lv, .int .i64 m.l.md, .slice m.la m.ln m.lc, .slice m.ha m.hn m.hc] 32)
      have hbwN := hB.trans (hbN.mono hsw)
      have HWy := hide (pway_any _ p ha hn hc (some ⟨g, off, none⟩) wn wc hs ws (H.out.keep hbwN) m ((H.out.wo m (List.mem_of_getElem? hmk)).keep hbwN) k hk (by omega) (by omega))
      have HNx := hide (edK_next (hs := hs) HN.out hmk)
      have HAt := hide (at5_new wr m)
      have HBN := hide hbN
      have HLw := hide (whoE_len hs ws k m)
      have HLk := hide (edN_len hs ws HN.out k (by have := HL.out; omega))
      clear hC hmk hB hbN hbwN
      go_wp2_with (first
        | (go_at_call 60; go_must (refine HWy.out.mono ?_); rintro e w2 ⟨v2, rfl, ho2, hb2⟩; obtain ⟨ua, un, uc, rfl⟩ := ho2.any3; have HW2 := hide ho2; have HWl := hide ho2.len; have HB2 := hide hb2; clear ho2 hb2))
      have hWl := HWl.out
      have hum : (un : Int) ≤ 9223372036854775807 := by have := hWl.2.1; have := hWl.2.2; unfold maxLen at this; omega
      have hWe : (whoE hs ws k m).length = un := hWl.1
      have hbb2 := HBN.out.trans (HB2.out.mono (by simp))
      have HO2 := hide (HO.out.keep hbb2)
      have HB02 := hide (HB.out.trans (hbb2.mono hsw))
      have HM0 := hide (fun V (hV : Below w2.heap.size w2 V) => ((HAt.out.same (HB2.out.block _ (by simp))).same (hV.block wr.heap.size (by have := HB2.out.size; simp at this; omega))).zero.1)
      have hs2 := HB02.out.size
      have HBig : Hid ((edK hs ws k).length ≤ 400000000) := by
        show _ ≤ _
        have h1 := HLk.out
        have h2 : k * (hs.length + ws.length) ≤ 10000 * 20000 := Nat.mul_le_mul (by omega) (by have := HL.out; have := HLh.out; omega)
        omega
      have HBg2 : Hid (un ≤ 20000) := by show _ ≤ _; have := HLw.out; have := HL.out; have := HLh.out; omega
      have HWe := hide hWe
      clear hWl hWe hbb2 d0 d1 d2 d3 d4
      obtain ⟨wo, hwo⟩ : ∃ wo, wo = wr := ⟨_, rfl⟩
      subst hwo
      go_loopg [26, 3] un (fun gk i v wq => ∃ q : Nat, gk = un - q ∧ i = .int .i64 q ∧ q ≤ un ∧ OwnY layE wq w.heap.size v (edK hs ws k ++ ((whoE hs ws k m).take q).map (fun t => (m.l.tx, t))) ∧ Below w.heap.size w wq ∧ w2.heap.size ≤ wq.heap.size ∧ (∀ j, wo.heap.size ≤ j → j < w2.heap.size → wq.heap[j]? = w2.heap[j]?) ∧ ∀ g, v.ownBlock = some g → g < wo.heap.size ∨ w2.heap.size ≤ g)
      case atStart => exact ⟨0, rfl, rfl, Nat.zero_le _, by simpa using HO2.out, HB02.out, Nat.le_refl _, fun _ _ _ => rfl, fun g e => .inl (HO.out.lt g e).2⟩
      case round =>
        obtain ⟨q, rfl, rfl, hq, hOq, hBq, hsz, hfr, hob⟩ := hrel
        obtain ⟨xa, xn, xc, rfl⟩ := hOq.any3
        have HOq := hide hOq
        have HBq := hide hBq
        have HFr := hide hfr
        have HOb := hide hob
        clear hOq hBq hob
        by_cases hql : q < un
        · have hql' : (q : Int) < (un : Int) := by omega
          obtain ⟨t, hqt⟩ : ∃ t, (whoE hs ws k m)[q]? = some t := ⟨_, List.getElem?_eq_getElem (by have := HWe.out; omega)⟩
          rcases HW2.out.form with ⟨e, -⟩ | ⟨g2, cap, e, hgb, hgl, -, -, hC2, -⟩
          · exfalso; simp only [Value.slice.injEq] at e; omega
          simp only [Value.slice.injEq] at e
          obtain ⟨rfl, -, rfl⟩ := e
          simp only [World.size_alloc] at hgb
          have t0 : wr.cell? ⟨g2, q, none⟩ = some (.int .u64 t) := by
            have := hC2 q t hqt 0 _ rfl
            have h3 := (World.cell?_of_block (a := ⟨g2, q, none⟩) (hfr g2 (by omega) hgl)).trans (by simpa [layU] using this)
            exact h3
          have m0 : wr.cell? ⟨wo.heap.size, 0, none⟩ = some (.int .u64 m.l.tx) := by
            have hlt2 : wo.heap.size < w2.heap.size := by omega
            exact (World.cell?_of_block (a := ⟨wo.heap.size, 0, none⟩) (hfr wo.heap.size (Nat.le_refl _) hlt2)).trans (HM0.out w2 (Below.refl _ _))
          have HQt := hide hqt
          have HNb := hide (new_below wr (.cells #[.int .u64 m.l.tx, .int .u64 t] 137))
          have HS1 : Hid (OwnY layE (wr.alloc (.cells #[.int .u64 m.l.tx, .int .u64 t] 137)) wr.heap.size (.slice (some ⟨wr.heap.size, 0, none⟩) 1 1) [(m.l.tx, t)]) := ownY_one (L := layE) wr wr.heap.size #[.int .u64 m.l.tx, .int .u64 t] (m.l.tx, t) (Nat.le_refl _) rfl
          have HO4 := hide (HOq.out.keep HNb.out)
          have HBg3 : Hid ((edK hs ws k ++ ((whoE hs ws k m).take q).map (fun t => (m.l.tx, t))).length + [(m.l.tx, t)].length ≤ 1000000000) := by
            show _ ≤ _
            have h1 := HBig.out
            have h2 := HBg2.out
            have h3 := HWe.out
            simp only [List.length_append, List.length_map, List.length_take, List.length_singleton]
            omega
          have hbs := HBq.out.size
          clear hC2 hqt hgb hgl
          go_wp2_with (first
            | (at_builtin; go_must (refine wp_joinY layE _ rfl (.tmp 30) (.tmp 35) rfl w.heap.size _ (edK hs ws k ++ ((whoE hs ws k m).take q).map (fun t => (m.l.tx, t))) rfl HO4.out (some ⟨wr.heap.size, 0, none⟩) 1 1 [(m.l.tx, t)] rfl HS1.out.is.src HBg3.out (by simp; omega) ?_); intro v5 w5 hown5 hg5 hat5; have HO5 := hide hown5; have HB5 := hide (HO4.out.grown hg5 (by simp; omega)); have HG5 := hide hg5; have HA5 := hide hat5; obtain ⟨ya, yn, yc, rfl⟩ := hown5.any3; clear hown5 hg5 hat5))
          go_roundg (un - (q + 1))
          case measure => omega
          case rel =>
            refine ⟨q + 1, rfl, by go_num, by omega, ?_, (HBq.out.trans (HNb.out.mono hbs)).trans HB5.out, ?_, fun j hj1 hj2 => ?_, fun g e => ?_⟩
            · rw [List.take_add_one, HQt.out]
              simpa using HO5.out
            · have := HNb.out.size; have := HG5.out.size; omega
            · have hjr : j < wr.heap.size := by omega
              have h1 := HG5.out.block j (by have := HNb.out.size; omega) (fun e => by
                have := HOb.out j e.symm
                omega)
              rw [h1, HNb.out.block j hjr]
              exact HFr.out j hj1 hj2
            · rcases HA5.out with h1 | ⟨g3, h1, h2⟩
              · rw [h1] at e; exact HOb.out g e
              · rw [h1] at e; cases e; right; have := HNb.out.size; omega
        · obtain rfl : q = un := by omega
          have eq : (whoE hs ws k m).take q = whoE hs ws k m := List.take_of_length_le (by have := HWe.out; omega)
          rw [eq] at HOq
          go_wp2
          go_roundg (wn - (k + 1))
          case measure => omega
          case rel => exact ⟨k + 1, rfl, by go_num, by omega, by rw [HNx.out]; exact HOq.out, HBq.out⟩
    · obtain rfl : k = wn := by omega
      clear hB
      go_wp2
      go_ret
      refine ⟨_, rfl, ?_, HB.out⟩
      rw [← edK_all, HL.out]
      exact HO.out

end Go.Proofs.YtepaflofbcokaaaDoor
