/- The reference's Gc. -/
import Derived.Test.YtfldiapdfpkdaaaMvD
namespace Go.Proofs.Ytfldiapdfpkdaaa
open Go.RowKit NumMath Go.ChangeShapes Go.WideShapes Go.Deep
set_option linter.unusedVariables false
set_option maxRecDepth 100000

/-- whether a version is kept -/
def gcKeep {α : Type} (tv : α → Int) (dd : α → Bool) (ts : Int) (met : Bool) (x : α) : Bool := decide (ts < tv x) || (!met && !dd x)

/-- a clearing of one key's versions, one by one: what is kept, whether one was met, how many are gone -/
def gcStep {α : Type} (tv : α → Int) (dd : α → Bool) (ts : Int) (acc : List α × Bool × Nat) (x : α) : List α × Bool × Nat :=
  (if gcKeep tv dd ts acc.2.1 x = true then acc.1 ++ [x] else acc.1, acc.2.1 || decide (tv x ≤ ts), if gcKeep tv dd ts acc.2.1 x = true then acc.2.2 else acc.2.2 + 1)

def gcFold {α : Type} (tv : α → Int) (dd : α → Bool) (ts : Int) (vs : List α) : List α × Bool × Nat := vs.foldl (gcStep tv dd ts) ([], false, 0)

theorem gcStep_map {α β : Type} (f : α → β) (ta : α → Int) (da : α → Bool) (tb : β → Int) (db : β → Bool) (ht : ∀ x, tb (f x) = ta x) (hd : ∀ x, db (f x) = da x) (ts : Int) (acc : List α × Bool × Nat) (x : α) : (((gcStep ta da ts acc x).1.map f, (gcStep ta da ts acc x).2) : List β × Bool × Nat) = gcStep tb db ts (acc.1.map f, acc.2) (f x) := by
  unfold gcStep gcKeep
  simp only [ht, hd]
  split <;> simp

theorem gcFold_map {α β : Type} (f : α → β) (ta : α → Int) (da : α → Bool) (tb : β → Int) (db : β → Bool) (ht : ∀ x, tb (f x) = ta x) (hd : ∀ x, db (f x) = da x) (ts : Int) : ∀ (vs : List α) (acc : List α × Bool × Nat), (((vs.foldl (gcStep ta da ts) acc).1.map f, (vs.foldl (gcStep ta da ts) acc).2) : List β × Bool × Nat) = (vs.map f).foldl (gcStep tb db ts) (acc.1.map f, acc.2) := by
  intro vs
  induction vs with
  | nil => intro acc; rfl
  | cons x r ih => intro acc; rw [List.foldl_cons, ih, gcStep_map f ta da tb db ht hd, List.map_cons, List.foldl_cons]

theorem gc_mem {α : Type} (tv : α → Int) (dd : α → Bool) (ts : Int) : ∀ (vs : List α) (acc : List α × Bool × Nat), ∀ x ∈ (vs.foldl (gcStep tv dd ts) acc).1, x ∈ acc.1 ∨ x ∈ vs := by
  intro vs
  induction vs with
  | nil => intro acc x h; exact .inl h
  | cons y r ih =>
    intro acc x h
    rw [List.foldl_cons] at h
    rcases ih _ x h with h1 | h1
    · unfold gcStep at h1
      dsimp only at h1
      split at h1
      · rcases List.mem_append.1 h1 with h2 | h2
        · exact .inl h2
        · exact .inr (by rw [List.mem_singleton.1 h2]; exact List.mem_cons_self ..)
      · exact .inl h1
    · exact .inr (List.mem_cons_of_mem _ h1)

theorem gc_len {α : Type} (tv : α → Int) (dd : α → Bool) (ts : Int) : ∀ (vs : List α) (acc : List α × Bool × Nat), (vs.foldl (gcStep tv dd ts) acc).1.length + (vs.foldl (gcStep tv dd ts) acc).2.2 = acc.1.length + acc.2.2 + vs.length := by
  intro vs
  induction vs with
  | nil => intro acc; rfl
  | cons y r ih =>
    intro acc
    rw [List.foldl_cons, ih]
    unfold gcStep
    dsimp only
    split
    · simp; omega
    · simp; omega

def gcV (ts : Int) (vs : List Ver) : List Ver := (gcFold Ver.ts Ver.dd ts vs).1
def gcN (ts : Int) (vs : List Ver) : Nat := (gcFold Ver.ts Ver.dd ts vs).2.2

/-- a clearing -/
def gcC (ts : Int) (st : List Cel) : List Cel := st.map (setVs (gcV ts))
def gcCn (ts : Int) (st : List Cel) : Nat := (st.map (fun c => gcN ts c.vs)).foldl (· + ·) 0

/-- .. of the first k keys -/
def gcTo (ts : Int) (k : Nat) (st : List Cel) : List Cel := (st.take k).map (setVs (gcV ts)) ++ st.drop k

theorem gcTo_at (ts : Int) (k : Nat) (st : List Cel) (h : k < st.length) : (gcTo ts k st)[k]? = st[k]? := by
  unfold gcTo
  rw [List.getElem?_append_right (by rw [List.length_map, List.length_take]; omega), List.length_map, List.length_take, Nat.min_eq_left (by omega), Nat.sub_self, List.getElem?_drop]
  rfl

theorem gcTo_succ (ts : Int) (k : Nat) (st : List Cel) (c : Cel) (h : st[k]? = some c) : gcTo ts (k + 1) st = (gcTo ts k st).modify k (setVs (gcV ts)) := by
  have hk := (List.getElem?_eq_some_iff.1 h).1
  have h1 := gcTo_at ts k st hk
  rw [h] at h1
  rw [modify_at _ _ k c h1]
  unfold gcTo
  rw [List.take_add_one, h, List.map_append, List.append_assoc]
  rw [List.set_append_right _ _ (by rw [List.length_map, List.length_take]; omega), List.length_map, List.length_take, Nat.min_eq_left (by omega), Nat.sub_self]
  congr 1
  have e : st.drop k = c :: st.drop (k + 1) := by
    rw [List.drop_eq_getElem_cons hk, (List.getElem?_eq_some_iff.1 h).2]
  rw [e]
  rfl

theorem gcCn_succ (ts : Int) (k : Nat) (st : List Cel) (c : Cel) (h : st[k]? = some c) : gcCn ts (st.take (k + 1)) = gcCn ts (st.take k) + gcN ts c.vs := by
  unfold gcCn
  rw [List.take_add_one, h]
  simp

def ddM (x : MV) : Bool := x.v.dd

theorem gcV_map (ts : Int) (vs : List MV) : ((gcFold tsM ddM ts vs).1.map MV.v = gcV ts (vs.map MV.v)) ∧ (gcFold tsM ddM ts vs).2.2 = gcN ts (vs.map MV.v) := by
  have h := gcFold_map MV.v tsM ddM Ver.ts Ver.dd (fun _ => rfl) (fun _ => rfl) ts vs ([], false, 0)
  unfold gcV gcN gcFold
  rw [List.map_nil] at h
  rw [← h]
  exact ⟨rfl, rfl⟩

set_option maxHeartbeats 8000000 in
theorem gc_any (F : Nat → Prop) (w0 w : World) (p : Nat) (cv : Value) (ms : List MC) (h : IsXs F w0 w p cv ms) (hf : ms.length ≤ 100000) (hfv : ∀ m ∈ ms, m.vs.length ≤ 100000) (ts : Int) :
    Calls Try.prog 32 #[.pointer (some ⟨p, 0, none⟩), .int .u64 ts] w fun e w' => e = .returned (.int .i64 (gcCn ts (ms.map MC.c))) ∧ ∃ cv' ms', CellPost F w0 w p cv (gcC ts (ms.map MC.c)) w' cv' ms' := by
  have HP0 := hide (CellPost.same h (Below.refl _ w))
  have c0 := h.c
  have HFv : Hid (FewV 100000 (ms.map MC.c)) := by
    intro c hc
    obtain ⟨m, hm, rfl⟩ := List.mem_map.1 hc
    show (m.vs.map MV.v).length ≤ _
    rw [List.length_map]
    exact hfv m hm
  have hsl : (ms.map MC.c).length = ms.length := List.length_map _
  obtain ⟨ca, cn, cc, rfl⟩ := h.own.any3
  have hcn := h.own.len
  have hcc : (cc : Int) ≤ 9223372036854775807 := by have := hcn.2.2; unfold maxLen at this; omega
  have HSl : Hid ((ms.map MC.c).length = cn) := by show _ = _; omega
  have hcb : cn ≤ 100000 := by omega
  clear h hfv hsl
  generalize ms.map MC.c = st at *
  go_enter Try.func32, Try.ntmps32
  go_wp2
  go_loopg [5, 18] cn (fun gk s5 ix wr => ∃ (k N : Nat) (msr : List MC), gk = cn - k ∧ ix = .int .i64 k ∧ k ≤ cn ∧ s5 = .int .i64 N ∧ N = gcCn ts (st.take k) ∧ N ≤ k * 100000 ∧ CellPost F w0 w p (.slice ca cn cc) (gcTo ts k st) wr (.slice ca cn cc) msr)
  case atStart => exact ⟨0, 0, ms, rfl, rfl, Nat.zero_le _, rfl, rfl, Nat.zero_le _, HP0.out⟩
  case round =>
    obtain ⟨k, N, msr, rfl, rfl, hk, rfl, hN, hNb, hP⟩ := hrel
    have HPr := hide hP
    have HN := hide hN
    have cp := hP.is.c
    have hNI : (N : Int) ≤ 10000000000 := by
      have : k * 100000 ≤ 100000 * 100000 := Nat.mul_le_mul_right _ (by omega)
      omega
    clear hP hN
    by_cases hlt : k < cn
    · have hltI : (k : Int) < (cn : Int) := by omega
      obtain ⟨c, hc⟩ : ∃ c, st[k]? = some c := ⟨_, List.getElem?_eq_getElem (by have := HSl.out; omega)⟩
      have hgt := gcTo_at ts k st (by have := HSl.out; omega)
      rw [hc] at hgt
      have hmr := hgt
      rw [← HPr.out.eq, List.getElem?_map] at hmr
      obtain ⟨m, hm, hmc⟩ := Option.map_eq_some_iff.1 hmr
      obtain ⟨g, cap, e, hg, hcap, hmx, hr, hfr⟩ := HPr.out.is.at hm
      cases e
      obtain ⟨x0, x1, x2, x3, x4, x5, x6⟩ := rangeC hr
      have HS1 := hide (gcTo_succ ts k st c hc)
      have HS2 := hide (gcCn_succ ts k st c hc)
      have hok := HPr.out.is.ok m (List.mem_of_getElem? hm)
      have HVs := hide hok.vs
      have HVo := hide hok.vok
      have hvn := hok.vs.1
      have hvcI : (m.vc : Int) ≤ 9223372036854775807 := by have := hok.vs.2.2.1; unfold maxLen at this; omega
      have hvle := hok.vs.2.1
      have hvb : m.vs.length ≤ 100000 := by
        have h1 := HFv.out c (List.mem_of_getElem? hc)
        rw [← hmc] at h1
        have h2 : m.c.vs.length = m.vs.length := by show (m.vs.map MV.v).length = _; rw [List.length_map]
        omega
      obtain ⟨hM1, hM2⟩ := gcV_map ts m.vs
      have HM1 := hide hM1
      have HM2 := hide hM2
      have HMc := hide hmc
      have hgl := gc_len tsM ddM ts m.vs ([], false, 0)
      have HMem := hide (gc_mem tsM ddM ts m.vs ([], false, 0))
      have HBx := hide (new_below wr (.cells (cellsC m) 52))
      have hp2 := HPr.out.is.lt
      clear hok hr hM1 hM2 hmr
      obtain ⟨wq, hwq⟩ : ∃ wq, wq = wr := ⟨wr, rfl⟩
      subst hwq
      go_upto_block 2 with fail
      go_cut [5, 8] (fun s5 s8 wx => s5 = .int .i64 ((N + (gcFold tsM ddM ts m.vs).2.2 : Nat) : Int) ∧ OwnY layV wx wq.heap.size s8 (gcFold tsM ddM ts m.vs).1 ∧ Below wq.heap.size wq wx)
      case first =>
        go_wp2_with fail
        go_loopg [5, 8, 9, 26] m.vn (fun gk s5 s8 s9 ix wx => ∃ j : Nat, gk = m.vn - j ∧ ix = .int .i64 j ∧ j ≤ m.vn ∧ s5 = .int .i64 ((N + ((m.vs.take j).foldl (gcStep tsM ddM ts) ([], false, 0)).2.2 : Nat) : Int) ∧ s9 = .bool ((m.vs.take j).foldl (gcStep tsM ddM ts) ([], false, 0)).2.1 ∧ OwnY layV wx wq.heap.size s8 ((m.vs.take j).foldl (gcStep tsM ddM ts) ([], false, 0)).1 ∧ Below wq.heap.size wq wx)
        case atStart => exact ⟨0, rfl, rfl, Nat.zero_le _, rfl, rfl, ownY_nil _ _, HBx.out⟩
        case round =>
          obtain ⟨j, rfl, rfl, hj, rfl, rfl, hL, hB⟩ := hrel
          have HL := hide hL
          have HB := hide hB
          have hwr := hB.size
          obtain ⟨la, ln, lc, rfl⟩ := hL.any3
          have hgj := gc_len tsM ddM ts (m.vs.take j) ([], false, 0)
          rw [List.length_take] at hgj
          clear hL hB
          by_cases hjl : j < m.vn
          · have hjI : (j : Int) < (m.vn : Int) := by omega
            obtain ⟨x, hx⟩ : ∃ x, m.vs[j]? = some x := ⟨_, List.getElem?_eq_getElem (by omega)⟩
            obtain ⟨gv, ov, hva, hgv, hCv⟩ := HVs.out.at hjl
            have HRx := hide (rangeY_same (hCv j x hx) (HB.out.block gv hgv))
            have HSt := hide (foldl_take_succ5 (gcStep tsM ddM ts) ([], false, 0) m.vs j x hx)
            generalize (m.vs.take j).foldl (gcStep tsM ddM ts) ([], false, 0) = acc at *
            obtain ⟨l, met, G⟩ := acc
            have hll : l.length ≤ 100000 := by simp at hgj; omega
            have hGl : G ≤ 100000 := by simp at hgj; omega
            have HK1 := hide (new_below wr (.cells (cellsV x) 36))
            have HK2 := hide (new_below (wr.alloc (.cells (cellsV x) 36)) (.cells (cellsV x) 36))
            have HL1 := hide (HL.out.keep HK1.out)
            have HL2 := hide (HL1.out.keep HK2.out)
            have HS2x := hide (srcY_one (L := layV) _ x (wr.heap.size + 1) (by simp) (rangeY_new (wr.alloc (.cells (cellsV x) 36)) (wr.heap.size + 1) (cellsV x) 36 (by simp)))
            have HZ1 : Hid (wq.heap.size ≤ (wr.alloc (.cells (cellsV x) 36)).heap.size) := by show _ ≤ _; simp; omega
            have HZ2 : Hid (wq.heap.size ≤ ((wr.alloc (.cells (cellsV x) 36)).alloc (.cells (cellsV x) 36)).heap.size) := by show _ ≤ _; simp; omega
            have HBg : Hid (l.length + 1 ≤ 1000000000) := by show _ ≤ _; omega
            obtain ⟨⟨xts, xtx, xdd, xval, xks⟩, xva, xvn, xvc, xka, xkn, xkc⟩ := x
            obtain ⟨q0, q1, q2, q3, q4⟩ := rangeV HRx.out
            have q0' : wr.cell? ⟨gv, ov + j * 5, none⟩ = some (.int .u64 xts) := q0
            have q1' : wr.cell? ⟨gv, ov + j * 5 + 1, none⟩ = some (.int .u64 xtx) := q1
            have q2' : wr.cell? ⟨gv, ov + j * 5 + 2, none⟩ = some (.bool xdd) := q2
            have q3' : wr.cell? ⟨gv, ov + j * 5 + 3, none⟩ = some (.slice xva xvn xvc) := q3
            have q4' : wr.cell? ⟨gv, ov + j * 5 + 4, none⟩ = some (.slice xka xkn xkc) := q4
            have hNG : ((N + G : Nat) : Int) ≤ 20000000000 := by omega
            clear q0 q1 q2 q3 q4 hCv hgj
            rw [hva]
            by_cases h1 : ts < xts
            · cases met
              · cases xdd
                · have HE : Hid (gcStep tsM ddM ts (l, false, G) (⟨⟨xts, xtx, false, xval, xks⟩, xva, xvn, xvc, xka, xkn, xkc⟩ : MV) = (l ++ [(⟨⟨xts, xtx, false, xval, xks⟩, xva, xvn, xvc, xka, xkn, xkc⟩ : MV)], false, G)) := by
                    have e1 : gcKeep tsM ddM ts false (⟨⟨xts, xtx, false, xval, xks⟩, xva, xvn, xvc, xka, xkn, xkc⟩ : MV) = true := by show (decide (ts < xts) || (!false && !false)) = _; rw [decide_eq_true h1]; rfl
                    have e2 : (false || decide (tsM (⟨⟨xts, xtx, false, xval, xks⟩, xva, xvn, xvc, xka, xkn, xkc⟩ : MV) ≤ ts)) = false := by show (false || decide (xts ≤ ts)) = _; rw [decide_eq_false (by omega : ¬ xts ≤ ts)]; rfl
                    show gcStep tsM ddM ts (l, false, G) (⟨⟨xts, xtx, false, xval, xks⟩, xva, xvn, xvc, xka, xkn, xkc⟩ : MV) = _
                    unfold gcStep; dsimp only; rw [e1, e2]; rfl
                  have h2 : ¬ xts ≤ ts := by omega
                  go_wp2_with (first
                    | (at_builtin; refine wp_joinY layV _ rfl (.tmp 51) (.tmp 53) rfl wq.heap.size _ l rfl HL2.out (some ⟨wr.heap.size + 1, 0, none⟩) 1 1 [(⟨⟨xts, xtx, false, xval, xks⟩, xva, xvn, xvc, xka, xkn, xkc⟩ : MV)] rfl HS2x.out HBg.out HZ2.out ?_; intro v5 w5 hown5 hg5 hat5; have HO5 := hide hown5; have HB5 := hide ((HK1.out.mono hwr).trans ((HK2.out.mono HZ1.out).trans (HL2.out.grown hg5 HZ2.out))); obtain ⟨ya, yn, yc, rfl⟩ := hown5.any3; clear hown5 hg5 hat5))
                  rw [← hva]
                  go_roundg (m.vn - (j + 1))
                  case measure => omega
                  case rel => exact ⟨j + 1, rfl, by go_num, by omega, by rw [HSt.out, HE.out]; first | rfl | go_num, by rw [HSt.out, HE.out], by rw [HSt.out, HE.out]; exact HO5.out, HB.out.trans HB5.out⟩
                · have HE : Hid (gcStep tsM ddM ts (l, false, G) (⟨⟨xts, xtx, true, xval, xks⟩, xva, xvn, xvc, xka, xkn, xkc⟩ : MV) = (l ++ [(⟨⟨xts, xtx, true, xval, xks⟩, xva, xvn, xvc, xka, xkn, xkc⟩ : MV)], false, G)) := by
                    have e1 : gcKeep tsM ddM ts false (⟨⟨xts, xtx, true, xval, xks⟩, xva, xvn, xvc, xka, xkn, xkc⟩ : MV) = true := by show (decide (ts < xts) || (!false && !true)) = _; rw [decide_eq_true h1]; rfl
                    have e2 : (false || decide (tsM (⟨⟨xts, xtx, true, xval, xks⟩, xva, xvn, xvc, xka, xkn, xkc⟩ : MV) ≤ ts)) = false := by show (false || decide (xts ≤ ts)) = _; rw [decide_eq_false (by omega : ¬ xts ≤ ts)]; rfl
                    show gcStep tsM ddM ts (l, false, G) (⟨⟨xts, xtx, true, xval, xks⟩, xva, xvn, xvc, xka, xkn, xkc⟩ : MV) = _
                    unfold gcStep; dsimp only; rw [e1, e2]; rfl
                  have h2 : ¬ xts ≤ ts := by omega
                  go_wp2_with (first
                    | (at_builtin; refine wp_joinY layV _ rfl (.tmp 51) (.tmp 53) rfl wq.heap.size _ l rfl HL2.out (some ⟨wr.heap.size + 1, 0, none⟩) 1 1 [(⟨⟨xts, xtx, true, xval, xks⟩, xva, xvn, xvc, xka, xkn, xkc⟩ : MV)] rfl HS2x.out HBg.out HZ2.out ?_; intro v5 w5 hown5 hg5 hat5; have HO5 := hide hown5; have HB5 := hide ((HK1.out.mono hwr).trans ((HK2.out.mono HZ1.out).trans (HL2.out.grown hg5 HZ2.out))); obtain ⟨ya, yn, yc, rfl⟩ := hown5.any3; clear hown5 hg5 hat5))
                  rw [← hva]
                  go_roundg (m.vn - (j + 1))
                  case measure => omega
                  case rel => exact ⟨j + 1, rfl, by go_num, by omega, by rw [HSt.out, HE.out]; first | rfl | go_num, by rw [HSt.out, HE.out], by rw [HSt.out, HE.out]; exact HO5.out, HB.out.trans HB5.out⟩
              · cases xdd
                · have HE : Hid (gcStep tsM ddM ts (l, true, G) (⟨⟨xts, xtx, false, xval, xks⟩, xva, xvn, xvc, xka, xkn, xkc⟩ : MV) = (l ++ [(⟨⟨xts, xtx, false, xval, xks⟩, xva, xvn, xvc, xka, xkn, xkc⟩ : MV)], true, G)) := by
                    have e1 : gcKeep tsM ddM ts true (⟨⟨xts, xtx, false, xval, xks⟩, xva, xvn, xvc, xka, xkn, xkc⟩ : MV) = true := by show (decide (ts < xts) || (!true && !false)) = _; rw [decide_eq_true h1]; rfl
                    have e2 : (true || decide (tsM (⟨⟨xts, xtx, false, xval, xks⟩, xva, xvn, xvc, xka, xkn, xkc⟩ : MV) ≤ ts)) = true := by show (true || decide (xts ≤ ts)) = _; rw [decide_eq_false (by omega : ¬ xts ≤ ts)]; rfl
                    show gcStep tsM ddM ts (l, true, G) (⟨⟨xts, xtx, false, xval, xks⟩, xva, xvn, xvc, xka, xkn, xkc⟩ : MV) = _
                    unfold gcStep; dsimp only; rw [e1, e2]; rfl
                  have h2 : ¬ xts ≤ ts := by omega
                  go_wp2_with (first
                    | (at_builtin; refine wp_joinY layV _ rfl (.tmp 51) (.tmp 53) rfl wq.heap.size _ l rfl HL2.out (some ⟨wr.heap.size + 1, 0, none⟩) 1 1 [(⟨⟨xts, xtx, false, xval, xks⟩, xva, xvn, xvc, xka, xkn, xkc⟩ : MV)] rfl HS2x.out HBg.out HZ2.out ?_; intro v5 w5 hown5 hg5 hat5; have HO5 := hide hown5; have HB5 := hide ((HK1.out.mono hwr).trans ((HK2.out.mono HZ1.out).trans (HL2.out.grown hg5 HZ2.out))); obtain ⟨ya, yn, yc, rfl⟩ := hown5.any3; clear hown5 hg5 hat5))
                  rw [← hva]
                  go_roundg (m.vn - (j + 1))
                  case measure => omega
                  case rel => exact ⟨j + 1, rfl, by go_num, by omega, by rw [HSt.out, HE.out]; first | rfl | go_num, by rw [HSt.out, HE.out], by rw [HSt.out, HE.out]; exact HO5.out, HB.out.trans HB5.out⟩
                · have HE : Hid (gcStep tsM ddM ts (l, true, G) (⟨⟨xts, xtx, true, xval, xks⟩, xva, xvn, xvc, xka, xkn, xkc⟩ : MV) = (l ++ [(⟨⟨xts, xtx, true, xval, xks⟩, xva, xvn, xvc, xka, xkn, xkc⟩ : MV)], true, G)) := by
                    have e1 : gcKeep tsM ddM ts true (⟨⟨xts, xtx, true, xval, xks⟩, xva, xvn, xvc, xka, xkn, xkc⟩ : MV) = true := by show (decide (ts < xts) || (!true && !true)) = _; rw [decide_eq_true h1]; rfl
                    have e2 : (true || decide (tsM (⟨⟨xts, xtx, true, xval, xks⟩, xva, xvn, xvc, xka, xkn, xkc⟩ : MV) ≤ ts)) = true := by show (true || decide (xts ≤ ts)) = _; rw [decide_eq_false (by omega : ¬ xts ≤ ts)]; rfl
                    show gcStep tsM ddM ts (l, true, G) (⟨⟨xts, xtx, true, xval, xks⟩, xva, xvn, xvc, xka, xkn, xkc⟩ : MV) = _
                    unfold gcStep; dsimp only; rw [e1, e2]; rfl
                  have h2 : ¬ xts ≤ ts := by omega
                  go_wp2_with (first
                    | (at_builtin; refine wp_joinY layV _ rfl (.tmp 51) (.tmp 53) rfl wq.heap.size _ l rfl HL2.out (some ⟨wr.heap.size + 1, 0, none⟩) 1 1 [(⟨⟨xts, xtx, true, xval, xks⟩, xva, xvn, xvc, xka, xkn, xkc⟩ : MV)] rfl HS2x.out HBg.out HZ2.out ?_; intro v5 w5 hown5 hg5 hat5; have HO5 := hide hown5; have HB5 := hide ((HK1.out.mono hwr).trans ((HK2.out.mono HZ1.out).trans (HL2.out.grown hg5 HZ2.out))); obtain ⟨ya, yn, yc, rfl⟩ := hown5.any3; clear hown5 hg5 hat5))
                  rw [← hva]
                  go_roundg (m.vn - (j + 1))
                  case measure => omega
                  case rel => exact ⟨j + 1, rfl, by go_num, by omega, by rw [HSt.out, HE.out]; first | rfl | go_num, by rw [HSt.out, HE.out], by rw [HSt.out, HE.out]; exact HO5.out, HB.out.trans HB5.out⟩
            · cases met
              · cases xdd
                · have HE : Hid (gcStep tsM ddM ts (l, false, G) (⟨⟨xts, xtx, false, xval, xks⟩, xva, xvn, xvc, xka, xkn, xkc⟩ : MV) = (l ++ [(⟨⟨xts, xtx, false, xval, xks⟩, xva, xvn, xvc, xka, xkn, xkc⟩ : MV)], true, G)) := by
                    have e1 : gcKeep tsM ddM ts false (⟨⟨xts, xtx, false, xval, xks⟩, xva, xvn, xvc, xka, xkn, xkc⟩ : MV) = true := by show (decide (ts < xts) || (!false && !false)) = _; rw [decide_eq_false h1]; rfl
                    have e2 : (false || decide (tsM (⟨⟨xts, xtx, false, xval, xks⟩, xva, xvn, xvc, xka, xkn, xkc⟩ : MV) ≤ ts)) = true := by show (false || decide (xts ≤ ts)) = _; rw [decide_eq_true (by omega : xts ≤ ts)]; rfl
                    show gcStep tsM ddM ts (l, false, G) (⟨⟨xts, xtx, false, xval, xks⟩, xva, xvn, xvc, xka, xkn, xkc⟩ : MV) = _
                    unfold gcStep; dsimp only; rw [e1, e2]; rfl
                  have h2 : xts ≤ ts := by omega
                  go_wp2_with (first
                    | (at_builtin; refine wp_joinY layV _ rfl (.tmp 51) (.tmp 53) rfl wq.heap.size _ l rfl HL2.out (some ⟨wr.heap.size + 1, 0, none⟩) 1 1 [(⟨⟨xts, xtx, false, xval, xks⟩, xva, xvn, xvc, xka, xkn, xkc⟩ : MV)] rfl HS2x.out HBg.out HZ2.out ?_; intro v5 w5 hown5 hg5 hat5; have HO5 := hide hown5; have HB5 := hide ((HK1.out.mono hwr).trans ((HK2.out.mono HZ1.out).trans (HL2.out.grown hg5 HZ2.out))); obtain ⟨ya, yn, yc, rfl⟩ := hown5.any3; clear hown5 hg5 hat5))
                  rw [← hva]
                  go_roundg (m.vn - (j + 1))
                  case measure => omega
                  case rel => exact ⟨j + 1, rfl, by go_num, by omega, by rw [HSt.out, HE.out]; first | rfl | go_num, by rw [HSt.out, HE.out], by rw [HSt.out, HE.out]; exact HO5.out, HB.out.trans HB5.out⟩
                · have HE : Hid (gcStep tsM ddM ts (l, false, G) (⟨⟨xts, xtx, true, xval, xks⟩, xva, xvn, xvc, xka, xkn, xkc⟩ : MV) = (l, true, G + 1)) := by
                    have e1 : gcKeep tsM ddM ts false (⟨⟨xts, xtx, true, xval, xks⟩, xva, xvn, xvc, xka, xkn, xkc⟩ : MV) = false := by show (decide (ts < xts) || (!false && !true)) = _; rw [decide_eq_false h1]; rfl
                    have e2 : (false || decide (tsM (⟨⟨xts, xtx, true, xval, xks⟩, xva, xvn, xvc, xka, xkn, xkc⟩ : MV) ≤ ts)) = true := by show (false || decide (xts ≤ ts)) = _; rw [decide_eq_true (by omega : xts ≤ ts)]; rfl
                    show gcStep tsM ddM ts (l, false, G) (⟨⟨xts, xtx, true, xval, xks⟩, xva, xvn, xvc, xka, xkn, xkc⟩ : MV) = _
                    unfold gcStep; dsimp only; rw [e1, e2]; rfl
                  have h2 : xts ≤ ts := by omega
                  go_wp2
                  rw [← hva]
                  go_roundg (m.vn - (j + 1))
                  case measure => omega
                  case rel => exact ⟨j + 1, rfl, by go_num, by omega, by rw [HSt.out, HE.out]; go_num, by rw [HSt.out, HE.out], by rw [HSt.out, HE.out]; exact HL1.out, HB.out.trans (HK1.out.mono hwr)⟩
              · cases xdd
                · have HE : Hid (gcStep tsM ddM ts (l, true, G) (⟨⟨xts, xtx, false, xval, xks⟩, xva, xvn, xvc, xka, xkn, xkc⟩ : MV) = (l, true, G + 1)) := by
                    have e1 : gcKeep tsM ddM ts true (⟨⟨xts, xtx, false, xval, xks⟩, xva, xvn, xvc, xka, xkn, xkc⟩ : MV) = false := by show (decide (ts < xts) || (!true && !false)) = _; rw [decide_eq_false h1]; rfl
                    have e2 : (true || decide (tsM (⟨⟨xts, xtx, false, xval, xks⟩, xva, xvn, xvc, xka, xkn, xkc⟩ : MV) ≤ ts)) = true := by show (true || decide (xts ≤ ts)) = _; rw [decide_eq_true (by omega : xts ≤ ts)]; rfl
                    show gcStep tsM ddM ts (l, true, G) (⟨⟨xts, xtx, false, xval, xks⟩, xva, xvn, xvc, xka, xkn, xkc⟩ : MV) = _
                    unfold gcStep; dsimp only; rw [e1, e2]; rfl
                  have h2 : xts ≤ ts := by omega
                  go_wp2
                  rw [← hva]
                  go_roundg (m.vn - (j + 1))
                  case measure => omega
                  case rel => exact ⟨j + 1, rfl, by go_num, by omega, by rw [HSt.out, HE.out]; go_num, by rw [HSt.out, HE.out], by rw [HSt.out, HE.out]; exact HL1.out, HB.out.trans (HK1.out.mono hwr)⟩
                · have HE : Hid (gcStep tsM ddM ts (l, true, G) (⟨⟨xts, xtx, true, xval, xks⟩, xva, xvn, xvc, xka, xkn, xkc⟩ : MV) = (l, true, G + 1)) := by
                    have e1 : gcKeep tsM ddM ts true (⟨⟨xts, xtx, true, xval, xks⟩, xva, xvn, xvc, xka, xkn, xkc⟩ : MV) = false := by show (decide (ts < xts) || (!true && !true)) = _; rw [decide_eq_false h1]; rfl
                    have e2 : (true || decide (tsM (⟨⟨xts, xtx, true, xval, xks⟩, xva, xvn, xvc, xka, xkn, xkc⟩ : MV) ≤ ts)) = true := by show (true || decide (xts ≤ ts)) = _; rw [decide_eq_true (by omega : xts ≤ ts)]; rfl
                    show gcStep tsM ddM ts (l, true, G) (⟨⟨xts, xtx, true, xval, xks⟩, xva, xvn, xvc, xka, xkn, xkc⟩ : MV) = _
                    unfold gcStep; dsimp only; rw [e1, e2]; rfl
                  have h2 : xts ≤ ts := by omega
                  go_wp2
                  rw [← hva]
                  go_roundg (m.vn - (j + 1))
                  case measure => omega
                  case rel => exact ⟨j + 1, rfl, by go_num, by omega, by rw [HSt.out, HE.out]; go_num, by rw [HSt.out, HE.out], by rw [HSt.out, HE.out]; exact HL1.out, HB.out.trans (HK1.out.mono hwr)⟩
          · have hjI : ¬ (j : Int) < (m.vn : Int) := by omega
            have ej : m.vs.take j = m.vs := List.take_of_length_le (by omega)
            rw [ej] at HL ⊢
            have HL' : Hid (OwnY layV wr wq.heap.size (.slice la ln lc) (gcFold tsM ddM ts m.vs).1) := HL.out
            go_wp2
            go_meet
            exact ⟨rfl, HL'.out, HB.out⟩
      case rest =>
        obtain ⟨rfl, hL, hB⟩ := hcut
        obtain ⟨la, ln, lc, rfl⟩ := hL.any3
        have HL := hide hL
        have HB := hide hB
        have HI := hide (HPr.out.is.keep hB)
        have cp2 := HI.out.c
        obtain ⟨gq, cq, eq, hgq, _, _, hrq, hfq⟩ := HI.out.at hm
        cases eq
        have dq : wc.cell? ⟨g, k * 7 + 1, none⟩ = some (.slice m.va m.vn m.vc) := hrq 1 _ rfl
        have fq := hfq (k * 7 + 1)
        have HFin := hide (CellPost.setVs (Below.refl _ _) (CellPost.same HPr.out.is (Below.refl _ _)) hm (by rw [List.getElem?_map, hm]; rfl) rfl (gcV ts) rfl hB la ln lc _ hL HM1.out (fun v hv => by rcases HMem.out v hv with h1 | h1; (cases h1); (exact HVo.out v h1)) (k * 7 + 1) rfl)
        have HGN : Hid ((gcFold tsM ddM ts m.vs).2.2 = gcN ts c.vs) := by show _ = _; rw [HM2.out, ← HMc.out]; rfl
        have hGb : (gcFold tsM ddM ts m.vs).2.2 ≤ 100000 := by
          have h1 : (gcFold tsM ddM ts m.vs).1.length + (gcFold tsM ddM ts m.vs).2.2 = 0 + 0 + m.vs.length := hgl
          omega
        generalize (gcFold tsM ddM ts m.vs).2.2 = G at *
        clear hL hB hrq hfq hgl
        go_wp2
        go_roundg (msr.length - (k + 1))
        case measure => omega
        case rel =>
          have hfin := HPr.out.trans HFin.out
          rw [HPr.out.eq, ← HS1.out] at hfin
          exact ⟨k + 1, N + G, _, rfl, by go_num, by omega, by go_num, by rw [HS2.out, ← HN.out, HGN.out], by rw [Nat.add_mul]; omega, hfin⟩
    · have hltI : ¬ (k : Int) < (cn : Int) := by omega
      have ek : st.take k = st := List.take_of_length_le (by have := HSl.out; omega)
      have HG1 : Hid (gcTo ts k st = gcC ts st) := by
        show _ = _
        unfold gcTo gcC
        rw [ek, List.drop_eq_nil_of_le (by have := HSl.out; omega), List.append_nil]
      rw [ek] at HN
      go_wp2
      go_ret
      exact ⟨by rw [← HN.out]; rfl, _, _, by rw [← HG1.out]; exact HPr.out⟩

end Go.Proofs.Ytfldiapdfpkdaaa
