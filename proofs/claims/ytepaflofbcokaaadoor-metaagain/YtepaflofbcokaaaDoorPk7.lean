/- The program's table: inTheWay: whose locks stand in the way. -/
import Derived.Test.YtepaflofbcokaaaDoorPk6
import Derived.Test.YtepaflofbcokaaaDoorWtL
namespace Go.Proofs.YtepaflofbcokaaaDoor
open Go.RowKit NumMath Go.ChangeShapes Go.WideShapes Go.Deep
set_option linter.unusedVariables false
set_option maxRecDepth 100000

/-- each number once -/
def whoW (acc : List Int) (x : Int) : List Int := if x ∈ acc then acc else acc ++ [x]

def whoL (l : List Int) : List Int := l.foldl whoW []

/-- whose locks of a list stand in the way of x, behind those that are known -/
def whoM (acc : List Int) (ls : List ML) (x : ML) : List Int := ((ls.filter (fun m => standsL x.l m.l)).map (fun m => m.l.tx)).foldl whoW acc

theorem whoM_more {acc : List Int} {ls : List ML} {x m : ML} {k : Nat} (h : ls[k]? = some m) : whoM acc (ls.take (k + 1)) x = if standsL x.l m.l = true then whoW (whoM acc (ls.take k) x) m.l.tx else whoM acc (ls.take k) x := by
  unfold whoM
  rw [filter_more _ h]
  by_cases e : standsL x.l m.l = true
  · rw [if_pos e, if_pos e, List.map_append, List.foldl_append]; rfl
  · rw [if_neg e, if_neg e, List.append_nil]

theorem whoW_len (acc : List Int) (x : Int) : (whoW acc x).length ≤ acc.length + 1 := by
  unfold whoW
  split
  · omega
  · simp

theorem who_len : ∀ (l acc : List Int), (l.foldl whoW acc).length ≤ acc.length + l.length := by
  intro l
  induction l with
  | nil => intro acc; simp
  | cons x r ih =>
    intro acc
    have h1 := ih (whoW acc x)
    have h2 := whoW_len acc x
    rw [List.foldl_cons, List.length_cons]; omega

theorem whoM_len (acc : List Int) (ls : List ML) (x : ML) : (whoM acc ls x).length ≤ acc.length + ls.length := by
  unfold whoM
  have h1 := who_len ((ls.filter (fun m => standsL x.l m.l)).map (fun m => m.l.tx)) acc
  rw [List.length_map] at h1
  have h2 := List.length_filter_le (fun m : ML => standsL x.l m.l) ls
  omega

theorem way_two (hs ws : List ML) (x : ML) : whoL ((wayM hs ws x).map (fun m => m.l.tx)) = whoM (whoM [] hs x) (if holdsL (hs.map ML.l) x.l = true then [] else ws) x := by
  unfold whoL wayM whoM
  rw [List.map_append, List.foldl_append]
  congr 2
  split <;> rfl

theorem mem_no {acc : List Int} {x : Int} (h : acc.all (fun t => !(t == x)) = true) : x ∉ acc := by
  intro hx
  have := List.all_eq_true.1 h x hx
  simp at this

theorem all_moreU {p : Int → Bool} {l : List Int} {k : Nat} {m : Int} (h : l[k]? = some m) : (l.take (k + 1)).all p = ((l.take k).all p && p m) := by
  rw [List.take_add_one, h, List.all_append]
  simp

theorem cellU_at {w : World} {base g n c : Nat} {l : List Int} (h : OwnY layU w base (.slice (some ⟨g, 0, none⟩) n c) l) {k : Nat} {t : Int} (hk : l[k]? = some t) : w.cell? ⟨g, k, none⟩ = some (.int .u64 t) := by
  obtain ⟨g', off, e, _, hC⟩ := h.is.at (j := k) (by have := (List.getElem?_eq_some_iff.1 hk).1; have := h.len.1; omega)
  cases e
  have := hC k t hk 0 _ rfl
  simpa [layU] using this

set_option maxHeartbeats 8000000 in
theorem pway_any (w : World) (p : Nat) (ha : Option Addr) (hn hc : Nat) (wa : Option Addr) (wn wc : Nat) (hs ws : List ML) (h : TpA w p ha hn hc wa wn wc hs ws) (x : ML) (hx : x.ok w) (j : Nat) (hj : j ≤ wn) (hb1 : hn ≤ 100000) (hb2 : wn ≤ 100000) :
    Calls Tryd.prog 60 #[.pointer (some ⟨p, 0, none⟩), .agg #[.int .u64 x.l.tx, .int .i64 x.l.lv, .int .i64 x.l.md, .slice x.la x.ln x.lc, .slice x.ha x.hn x.hc], .int .i64 j] w fun e w' => ∃ v, e = .returned v ∧ OwnY layU w' w.heap.size v (whoL ((wayM hs (ws.take j) x).map (fun m => m.l.tx))) ∧ Below w.heap.size w w' := by
  obtain ⟨w1, hw1⟩ : ∃ w1, w1 = w.alloc (.cells #[.int .u64 x.l.tx, .int .i64 x.l.lv, .int .i64 x.l.md, .slice x.la x.ln x.lc, .slice x.ha x.hn x.hc] 32) := ⟨_, rfl⟩
  have hb : Below w.heap.size w w1 := by rw [hw1]; exact new_below _ _
  have hs1 : w1.heap.size = w.heap.size + 1 := by rw [hw1]; simp
  have HX1 : Hid (At5 w1 w.heap.size 0 x) := by rw [hw1]; exact at5_new w x
  have h1 := h.keep hb
  have HAh := hide (pahead_any w1.drew p ha hn hc wa wn wc hs ws (h1.keep (Below.refl _ w1).drew) x ((hx.keep hb).keep (Below.refl _ w1).drew) j hj)
  have H1 := hide h1
  have HXo := hide (hx.keep hb)
  have HB := hide hb
  have HTw := hide (way_two hs (ws.take j) x)
  obtain ⟨rs, hrs⟩ : ∃ rs, (if holdsL (hs.map ML.l) x.l = true then [] else ws.take j) = rs := ⟨_, rfl⟩
  rw [hrs] at HAh HTw
  have HRs : Hid (rs.length ≤ 100000 ∧ ∀ m ∈ rs, m ∈ ws) := by
    rw [← hrs]
    constructor
    · split
      · simp
      · rw [List.length_take]; have := h.wt.1; omega
    · intro m hm
      split at hm
      · cases hm
      · exact List.mem_of_mem_take hm
  clear h hx hb h1 hrs
  have HHl := hide H1.out.h.1
  have hml : (hn : Int) ≤ 9223372036854775807 := by omega
  have hpl : p < w.heap.size + 1 := by have := H1.out.lt; omega
  go_enter Tryd.func60, Tryd.ntmps60
  go_upto_region 2 with fail
  rw [← hw1]
  clear hw1
  have HV : Hid (∀ V, Below w1.drew.heap.size w1.drew V → V.cell? ⟨p, 1, none⟩ = some (.slice ha hn hc) ∧ V.cell? ⟨w.heap.size, 0, none⟩ = some (.int .u64 x.l.tx) ∧ V.cell? ⟨w.heap.size, 1, none⟩ = some (.int .i64 x.l.lv) ∧ V.cell? ⟨w.heap.size, 2, none⟩ = some (.int .i64 x.l.md) ∧ V.cell? ⟨w.heap.size, 3, none⟩ = some (.slice x.la x.ln x.lc) ∧ V.cell? ⟨w.heap.size, 4, none⟩ = some (.slice x.ha x.hn x.hc)) := fun V hV =>
    ⟨(H1.out.keep (below_undrew hV)).c1, (HX1.out.same ((below_undrew hV).block w.heap.size (by omega))).zero⟩
  refine startE (fun _ => false) (by kernel_rfl) ?_
  refine' takeE (i := 0) (v := _) rfl (by kernel_rfl) (by kernel_rfl) (by kernel_rfl) (by kernel_rfl) (fun _ _ _ h => h) (by rfl) (Below.refl _ _) ?_ ?_; rotate_left
  · (intro V hSV; obtain ⟨t1, x0, x1, x2, x3, x4⟩ := HV.out V hSV; go_simp; all_goals (with_reducible rfl))
  (try simp only [Act.put, List.setIfInBounds_toArray, List.set_cons_zero, List.set_cons_succ])
  refine' takeE (i := 1) (v := _) rfl (by kernel_rfl) (by kernel_rfl) (by kernel_rfl) (by kernel_rfl) (fun _ _ _ h => h) (by rfl) (Below.refl _ _) ?_ ?_; rotate_left
  · (intro V hSV; obtain ⟨t1, x0, x1, x2, x3, x4⟩ := HV.out V hSV; go_simp; all_goals (with_reducible rfl))
  (try simp only [Act.put, List.setIfInBounds_toArray, List.set_cons_zero, List.set_cons_succ])
  refine' takeE (i := 2) (v := _) rfl (by kernel_rfl) (by kernel_rfl) (by kernel_rfl) (by kernel_rfl) (fun _ _ _ h => h) (by rfl) (Below.refl _ _) ?_ ?_; rotate_left
  · (intro V hSV; obtain ⟨t1, x0, x1, x2, x3, x4⟩ := HV.out V hSV; go_simp; all_goals (with_reducible rfl))
  (try simp only [Act.put, List.setIfInBounds_toArray, List.set_cons_zero, List.set_cons_succ])
  refine' takeE (i := 3) (v := _) rfl (by kernel_rfl) (by kernel_rfl) (by kernel_rfl) (by kernel_rfl) (fun _ _ _ h => h) (by rfl) (Below.refl _ _) ?_ ?_; rotate_left
  · (intro V hSV; obtain ⟨t1, x0, x1, x2, x3, x4⟩ := HV.out V hSV; go_simp; all_goals (with_reducible rfl))
  (try simp only [Act.put, List.setIfInBounds_toArray, List.set_cons_zero, List.set_cons_succ])
  refine' takeE (i := 4) (v := _) rfl (by kernel_rfl) (by kernel_rfl) (by kernel_rfl) (by kernel_rfl) (fun _ _ _ h => h) (by rfl) (Below.refl _ _) ?_ ?_; rotate_left
  · (intro V hSV; obtain ⟨t1, x0, x1, x2, x3, x4⟩ := HV.out V hSV; go_simp; all_goals (with_reducible rfl))
  (try simp only [Act.put, List.setIfInBounds_toArray, List.set_cons_zero, List.set_cons_succ])
  refine' takeE (i := 5) (v := _) rfl (by kernel_rfl) (by kernel_rfl) (by kernel_rfl) (by kernel_rfl) (fun _ _ _ h => h) (by rfl) (Below.refl _ _) ?_ ?_; rotate_left
  · (intro V hSV; obtain ⟨t1, x0, x1, x2, x3, x4⟩ := HV.out V hSV; go_simp; all_goals (with_reducible rfl))
  (try simp only [Act.put, List.setIfInBounds_toArray, List.set_cons_zero, List.set_cons_succ])
  refine' takeE (i := 6) (v := _) rfl (by kernel_rfl) (by kernel_rfl) (by kernel_rfl) (by kernel_rfl) (fun _ _ _ h => h) (by rfl) (Below.refl _ _) ?_ ?_; rotate_left
  · (intro V hSV; obtain ⟨t1, x0, x1, x2, x3, x4⟩ := HV.out V hSV; go_simp; all_goals (with_reducible rfl))
  (try simp only [Act.put, List.setIfInBounds_toArray, List.set_cons_zero, List.set_cons_succ])
  refine' takeE (i := 9) (v := _) rfl (by kernel_rfl) (by kernel_rfl) (by kernel_rfl) (by kernel_rfl) (fun _ _ _ h => h) (by rfl) (Below.refl _ _) ?_ ?_; rotate_left
  · (intro V hSV; obtain ⟨t1, x0, x1, x2, x3, x4⟩ := HV.out V hSV; go_simp; all_goals (with_reducible rfl))
  (try simp only [Act.put, List.setIfInBounds_toArray, List.set_cons_zero, List.set_cons_succ])
  refine callE (i := 7) rfl (by kernel_rfl) (fun K hK => ?_)
  go_simp
  refine HAh.out.mono ?_
  rintro e w2 ⟨ra, rn, rc, rfl, hyr, hb2⟩
  have HYr := hide hyr
  have HB2 := hide (below_undrew hb2)
  refine hK.out _ _ (fun _ => hb2) ?_
  clear hyr
  clear hK K
  (try simp only [Act.put, List.setIfInBounds_toArray, List.set_cons_zero, List.set_cons_succ])
  refine callE (i := 8) rfl (by kernel_rfl) (fun K hK => ?_)
  go_simp
  refine hK.out _ _ (fun _ => hb2) ?_
  clear hK K
  (try simp only [Act.put, List.setIfInBounds_toArray, List.set_cons_zero, List.set_cons_succ])
  refine doneE (by kernel_rfl) ?_ _
  obtain ⟨ACC, hACC⟩ : ∃ A : Nat → List Int, A 0 = [] ∧ A 1 = whoM [] hs x ∧ A 2 = whoM (whoM [] hs x) rs x := ⟨fun q => if q = 0 then [] else if q = 1 then whoM [] hs x else whoM (whoM [] hs x) rs x, rfl, rfl, rfl⟩
  have HACC := hide hACC
  clear hACC hb2 HAh HV
  have HS2 := hide HB2.out.size
  have i0 : ∀ W : World, (Instr.index 127 (.agg #[.slice ha hn hc, .slice ra rn rc]) (.int .i64 0)).run Tryd.prog W = .ok (.slice ha hn hc) W := fun _ => by kernel_rfl
  have i1 : ∀ W : World, (Instr.index 127 (.agg #[.slice ha hn hc, .slice ra rn rc]) (.int .i64 1)).run Tryd.prog W = .ok (.slice ra rn rc) W := fun _ => by kernel_rfl
  go_wp2
  go_loopg [23, 7] 2 (fun gk i v wr => ∃ q : Nat, gk = 2 - q ∧ i = .int .i64 q ∧ q ≤ 2 ∧ OwnY layU wr w2.heap.size v (ACC q) ∧ Below w2.heap.size w2 wr)
  case atStart => exact ⟨0, rfl, rfl, by omega, by rw [HACC.out.1]; exact ownY_nil _ _, Below.refl _ _⟩
  case round =>
    obtain ⟨q, rfl, rfl, hq, hO, hB⟩ := hrel
    obtain ⟨wo, hwo⟩ : ∃ wo, wo = wr := ⟨_, rfl⟩
    subst hwo
    have HO := hide hO
    have HBo := hide hB
    have hq3 : q = 0 ∨ q = 1 ∨ q = 2 := by omega
    obtain ⟨ua, un, uc, rfl⟩ := hO.any3
    clear hO hB hq
    rcases hq3 with rfl | rfl | rfl
    · rw [HACC.out.1] at HO
      have HIS := hide (H1.out.h.keep HB2.out)
      have HOKs := hide (fun m hm => (H1.out.ho m hm).keep HB2.out)
      have HLs : Hid (hs.length ≤ 100000) := by show _ ≤ _; have := HHl.out; omega
      go_wp2
      go_step3
      go_wp2
      go_step3
      go_wp2
      go_loopg [28, 7] hn (fun gk i v wr2 => ∃ k : Nat, gk = hn - k ∧ i = .int .i64 k ∧ k ≤ hn ∧ OwnY layU wr2 w2.heap.size v (whoM [] (hs.take k) x) ∧ Below w2.heap.size w2 wr2)
      case atStart => exact ⟨0, rfl, rfl, Nat.zero_le _, HO.out, HBo.out⟩
      case round =>
        obtain ⟨k, rfl, rfl, hk, hO2, hB2r⟩ := hrel
        obtain ⟨va, vn, vc, rfl⟩ := hO2.any3
        have HO2 := hide hO2
        have HB2r := hide hB2r
        have hsw := hB2r.size
        clear hO2
        by_cases hlt : k < hn
        · have hlt' : (k : Int) < (hn : Int) := by omega
          obtain ⟨m, hmk⟩ := ml_at (hs := hs) (k := k) (by have := HIS.out.1; omega)
          obtain ⟨g, off, rfl, hg, hC⟩ := HIS.out.at hlt
          obtain ⟨d0, d1, d2, d3, d4⟩ := at5_list (hC.same (hB2r.block g hg)) hmk
          have hbN := new_below wr (.cells #[.int .u64 m.l.tx, .int .i64 m.l.lv, .int .i64 m.l.md, .slice m.la m.ln m.lc, .slice m.ha m.hn m.hc] 32)
          have hb2N := hB2r.trans (hbN.mono hsw)
          have hb1N := HB2.out.trans (hb2N.mono HS2.out)
          have HXN := hide (fun V (hV : Below (wr.heap.size + 1) (wr.alloc (.cells #[.int .u64 m.l.tx, .int .i64 m.l.lv, .int .i64 m.l.md, .slice m.la m.ln m.lc, .slice m.ha m.hn m.hc] 32)) V) => And.intro ((at5_new wr m).same (hV.block _ (by omega))).zero (HX1.out.same ((hV.block w.heap.size (by have := HS2.out; omega)).trans (hb1N.block w.heap.size (by omega)))).zero)
          obtain ⟨-, x0, x1, x2, x3, x4⟩ := HXN.out _ (Below.refl _ _)
          have HAp := hide (papart_any m x _ ((HOKs.out m (List.mem_of_getElem? hmk)).keep hb2N) (HXo.out.keep hb1N))
          have HFt := hide (fun V (hV : Below (wr.heap.size + 1) (wr.alloc (.cells #[.int .u64 m.l.tx, .int .i64 m.l.lv, .int .i64 m.l.md, .slice m.la m.ln m.lc, .slice m.ha m.hn m.hc] 32)) V) => pfits_any m.l.md x.l.md V ((H1.out.ft.keep hb1N).keep (by simpa using hV)))
          have HMo := hide (whoM_more (acc := []) (x := x) hmk)
          have HBN := hide hbN
          have HLa := hide (whoM_len [] (hs.take k) x)
          clear hC hmk hB2r hbN hb1N hb2N
          cases hap : apartL m.l x.l with
          | true =>
            rw [hap] at HAp
            rw [show standsL x.l m.l = false by unfold standsL; rw [hap]; rfl] at HMo
            clear hap
            go_wp2_with (first
              | (go_at_call 80; go_must (refine HAp.out.mono ?_); rintro e w3 ⟨rfl, hb3⟩; have HB3 := hide hb3; clear hb3))
            go_roundg (hn - (k + 1))
            case measure => omega
            case rel =>
              have hbb := HBN.out.trans (HB3.out.mono (by simp))
              exact ⟨k + 1, rfl, by go_num, by omega, by rw [HMo.out]; exact HO2.out.keep hbb, HB2r.out.trans (hbb.mono hsw)⟩
          | false =>
            rw [hap] at HAp
            obtain ⟨zf, hzf⟩ : ∃ z, fitsL m.l.md x.l.md = z := ⟨_, rfl⟩
            rw [hzf] at HFt
            rw [show standsL x.l m.l = !zf by unfold standsL; rw [hap, hzf]; rfl] at HMo
            clear hap hzf
            cases zf with
            | true =>
              go_wp2_with (first
                | (go_at_call 81; go_must (refine (HFt.out _ (by exact HB3.out)).mono ?_); rintro e w4 ⟨rfl, hw⟩; have hw := hw.symm; subst hw)
                | (go_at_call 80; go_must (refine HAp.out.mono ?_); rintro e w3 ⟨rfl, hb3⟩; have HB3 : Hid (Below (wr.heap.size + 1) (wr.alloc (.cells #[.int .u64 m.l.tx, .int .i64 m.l.lv, .int .i64 m.l.md, .slice m.la m.ln m.lc, .slice m.ha m.hn m.hc] 32)) w3) := hide (hb3.mono (by simp)); obtain ⟨⟨y0, y1, y2, y3, y4⟩, z0, z1, z2, z3, z4⟩ := HXN.out w3 HB3.out; clear hb3))
              go_roundg (hn - (k + 1))
              case measure => omega
              case rel =>
                have hbb := HBN.out.trans (HB3.out.mono (by simp))
                exact ⟨k + 1, rfl, by go_num, by omega, by rw [HMo.out]; exact HO2.out.keep hbb, HB2r.out.trans (hbb.mono hsw)⟩
            | false =>
              go_wp2_with (first
                | (go_at_call 81; go_must (refine (HFt.out _ (by exact HB3.out)).mono ?_); rintro e w4 ⟨rfl, hw⟩; have hw := hw.symm; subst hw)
                | (go_at_call 80; go_must (refine HAp.out.mono ?_); rintro e w3 ⟨rfl, hb3⟩; have HB3 : Hid (Below (wr.heap.size + 1) (wr.alloc (.cells #[.int .u64 m.l.tx, .int .i64 m.l.lv, .int .i64 m.l.md, .slice m.la m.ln m.lc, .slice m.ha m.hn m.hc] 32)) w3) := hide (hb3.mono (by simp)); obtain ⟨⟨y0, y1, y2, y3, y4⟩, z0, z1, z2, z3, z4⟩ := HXN.out w3 HB3.out; clear hb3))
              have HO3 := hide (HO2.out.keep (HBN.out.trans (HB3.out.mono (by simp))))
              have HB23 := hide (HB2r.out.trans ((HBN.out.trans (HB3.out.mono (by simp))).mono hsw))
              have HM0 := hide (fun V (hV : Below w3.heap.size w3 V) => (HXN.out V (HB3.out.trans (hV.mono (by have := HB3.out.size; simpa using this)))).1.1)
              have hvl := HO3.out.len
              have hvm : (vn : Int) ≤ 9223372036854775807 := by have := hvl.2.1; have := hvl.2.2; unfold maxLen at this; omega
              have HVl := hide hvl.1
              have hb13 : w2.heap.size ≤ w3.heap.size := HB23.out.size
              obtain ⟨acc, hacc⟩ : ∃ acc, whoM [] (hs.take k) x = acc := ⟨_, rfl⟩
              rw [hacc] at HO3 HVl HMo HLa
              have hkt : (hs.take k).length ≤ 100000 := by rw [List.length_take]; have := HLs.out; omega
              have HLb : Hid (acc.length ≤ 500000) := by show _ ≤ _; have := HLa.out; have h2 := whoM_len [] hs x; have := HHl.out; simp only [List.length_nil] at *; omega
              clear hacc hvl HO2 y0 y1 y2 y3 y4 z0 z1 z2 z3 z4 x0 x1 x2 x3 x4 d0 d1 d2 d3 d4 hkt
              obtain ⟨wi, hwi⟩ : ∃ wi, wi = wr := ⟨_, rfl⟩
              subst hwi
              go_loopg [44] vn (fun gk i wq => ∃ q : Nat, gk = vn - q ∧ i = .int .i64 q ∧ q ≤ vn ∧ (acc.take q).all (fun t => !(t == m.l.tx)) = true ∧ wq = w3)
              case atStart => exact ⟨0, rfl, rfl, Nat.zero_le _, rfl, rfl⟩
              case round =>
                obtain ⟨q, rfl, rfl, hq, hA, hw⟩ := hrel
                subst hw
                have HA := hide hA
                clear hA
                have m0 := HM0.out wr (Below.refl _ _)
                by_cases hql : q < vn
                · have hql' : (q : Int) < (vn : Int) := by omega
                  obtain ⟨t, hqt⟩ : ∃ t, acc[q]? = some t := ⟨_, List.getElem?_eq_getElem (by have := HVl.out; omega)⟩
                  obtain ⟨g2, off2, rfl, -, hC2⟩ := HO3.out.is.at hql
                  have t0 : wr.cell? ⟨g2, off2 + q, none⟩ = some (.int .u64 t) := by have := hC2 q t hqt 0 _ rfl; simpa [layU] using this
                  have HQt := hide hqt
                  have HAm := hide (all_moreU (p := fun t => !(t == m.l.tx)) hqt)
                  rw [HA.out] at HAm
                  clear hC2 hqt
                  by_cases hte : t = m.l.tx
                  · have hte' : (t == m.l.tx) = true := by simpa using hte
                    have HMe : Hid (whoM [] (hs.take (k + 1)) x = acc) := by
                      show _ = _
                      rw [HMo.out, if_pos (by decide)]
                      unfold whoW
                      rw [if_pos (by rw [← hte]; exact List.mem_of_getElem? HQt.out)]
                    clear hte
                    go_wp2
                    go_roundg (hn - (k + 1))
                    case measure => omega
                    case rel => exact ⟨k + 1, rfl, by go_num, by omega, by rw [HMe.out]; exact HO3.out, HB23.out⟩
                  · have hte' : (t == m.l.tx) = false := by simpa using hte
                    rw [hte'] at HAm
                    clear hte
                    go_wp2
                    go_roundg (vn - (q + 1))
                    case measure => omega
                    case rel => exact ⟨q + 1, rfl, by go_num, by omega, by rw [HAm.out]; rfl, rfl⟩
                · obtain rfl : q = vn := by omega
                  have HMe : Hid (whoM [] (hs.take (k + 1)) x = acc ++ [m.l.tx]) := by
                    show _ = _
                    rw [HMo.out, if_pos (by decide)]
                    unfold whoW
                    have hA := HA.out
                    rw [List.take_of_length_le (by have := HVl.out; omega)] at hA
                    rw [if_neg (mem_no hA)]
                  have HS1 : Hid (OwnY layU (wr.alloc (.cells #[.int .u64 m.l.tx] 28)) wr.heap.size (.slice (some ⟨wr.heap.size, 0, none⟩) 1 1) [m.l.tx]) := ownY_one (L := layU) wr wr.heap.size #[.int .u64 m.l.tx] m.l.tx (Nat.le_refl _) rfl
                  have HO4 := hide (HO3.out.keep (new_below wr (.cells #[.int .u64 m.l.tx] 28)))
                  have HBig : Hid (acc.length + [m.l.tx].length ≤ 1000000000) := by show _ ≤ _; have := HLb.out; simp only [List.length_singleton]; omega
                  go_wp2_with (first
                    | (at_builtin; go_must (refine wp_joinY layU _ rfl (.tmp 53) (.tmp 56) rfl w2.heap.size _ acc rfl HO4.out (some ⟨wr.heap.size, 0, none⟩) 1 1 [m.l.tx] rfl HS1.out.is.src HBig.out (by simp; omega) ?_); intro v5 w5 hown5 hg5 hat5; have HO5 := hide hown5; have HB5 := hide (HO4.out.grown hg5 (by simp; omega)); have HG5 := hide hg5; obtain ⟨xa, xn, xc, rfl⟩ := hown5.any3; clear hown5 hg5 hat5))
                  go_roundg (hn - (k + 1))
                  case measure => omega
                  case rel => exact ⟨k + 1, rfl, by go_num, by omega, by rw [HMe.out]; exact HO5.out, (HB23.out.trans ((new_below wr _).mono HB23.out.size)).trans HB5.out⟩
        · obtain rfl : k = hn := by omega
          have ek : hs.take k = hs := List.take_of_length_le (by have := HIS.out.1; omega)
          rw [ek] at HO2
          go_wp2
          rw [Exit.noGoto_normal]
          go_wp2
          go_roundg (2 - (0 + 1))
          case measure => omega
          case rel => exact ⟨0 + 1, rfl, by go_num, by omega, by rw [HACC.out.2.1]; exact HO2.out, HB2r.out⟩
    · rw [HACC.out.2.1] at HO
      have HIS := HYr
      have HOKs := hide (fun m hm => (H1.out.wo m (HRs.out.2 m hm)).keep HB2.out)
      have HLs : Hid (rs.length ≤ 100000) := HRs.out.1
      have hml2 : (rn : Int) ≤ 9223372036854775807 := by have := HYr.out.1; have := HRs.out.1; omega
      go_wp2
      go_step3
      go_wp2
      go_step3
      go_wp2
      go_loopg [28, 7] rn (fun gk i v wr2 => ∃ k : Nat, gk = rn - k ∧ i = .int .i64 k ∧ k ≤ rn ∧ OwnY layU wr2 w2.heap.size v (whoM (whoM [] hs x) (rs.take k) x) ∧ Below w2.heap.size w2 wr2)
      case atStart => exact ⟨0, rfl, rfl, Nat.zero_le _, HO.out, HBo.out⟩
      case round =>
        obtain ⟨k, rfl, rfl, hk, hO2, hB2r⟩ := hrel
        obtain ⟨va, vn, vc, rfl⟩ := hO2.any3
        have HO2 := hide hO2
        have HB2r := hide hB2r
        have hsw := hB2r.size
        clear hO2
        by_cases hlt : k < rn
        · have hlt' : (k : Int) < (rn : Int) := by omega
          obtain ⟨m, hmk⟩ := ml_at (hs := rs) (k := k) (by have := HIS.out.1; omega)
          obtain ⟨g, off, rfl, hg, hC⟩ := HIS.out.at hlt
          obtain ⟨d0, d1, d2, d3, d4⟩ := at5_list (hC.same (hB2r.block g hg)) hmk
          have hbN := new_below wr (.cells #[.int .u64 m.l.tx, .int .i64 m.l.lv, .int .i64 m.l.md, .slice m.la m.ln m.lc, .slice m.ha m.hn m.hc] 32)
          have hb2N := hB2r.trans (hbN.mono hsw)
          have hb1N := HB2.out.trans (hb2N.mono HS2.out)
          have HXN := hide (fun V (hV : Below (wr.heap.size + 1) (wr.alloc (.cells #[.int .u64 m.l.tx, .int .i64 m.l.lv, .int .i64 m.l.md, .slice m.la m.ln m.lc, .slice m.ha m.hn m.hc] 32)) V) => And.intro ((at5_new wr m).same (hV.block _ (by omega))).zero (HX1.out.same ((hV.block w.heap.size (by have := HS2.out; omega)).trans (hb1N.block w.heap.size (by omega)))).zero)
          obtain ⟨-, x0, x1, x2, x3, x4⟩ := HXN.out _ (Below.refl _ _)
          have HAp := hide (papart_any m x _ ((HOKs.out m (List.mem_of_getElem? hmk)).keep hb2N) (HXo.out.keep hb1N))
          have HFt := hide (fun V (hV : Below (wr.heap.size + 1) (wr.alloc (.cells #[.int .u64 m.l.tx, .int .i64 m.l.lv, .int .i64 m.l.md, .slice m.la m.ln m.lc, .slice m.ha m.hn m.hc] 32)) V) => pfits_any m.l.md x.l.md V ((H1.out.ft.keep hb1N).keep (by simpa using hV)))
          have HMo := hide (whoM_more (acc := (whoM [] hs x)) (x := x) hmk)
          have HBN := hide hbN
          have HLa := hide (whoM_len (whoM [] hs x) (rs.take k) x)
          clear hC hmk hB2r hbN hb1N hb2N
          cases hap : apartL m.l x.l with
          | true =>
            rw [hap] at HAp
            rw [show standsL x.l m.l = false by unfold standsL; rw [hap]; rfl] at HMo
            clear hap
            go_wp2_with (first
              | (go_at_call 80; go_must (refine HAp.out.mono ?_); rintro e w3 ⟨rfl, hb3⟩; have HB3 := hide hb3; clear hb3))
            go_roundg (rn - (k + 1))
            case measure => omega
            case rel =>
              have hbb := HBN.out.trans (HB3.out.mono (by simp))
              exact ⟨k + 1, rfl, by go_num, by omega, by rw [HMo.out]; exact HO2.out.keep hbb, HB2r.out.trans (hbb.mono hsw)⟩
          | false =>
            rw [hap] at HAp
            obtain ⟨zf, hzf⟩ : ∃ z, fitsL m.l.md x.l.md = z := ⟨_, rfl⟩
            rw [hzf] at HFt
            rw [show standsL x.l m.l = !zf by unfold standsL; rw [hap, hzf]; rfl] at HMo
            clear hap hzf
            cases zf with
            | true =>
              go_wp2_with (first
                | (go_at_call 81; go_must (refine (HFt.out _ (by exact HB3.out)).mono ?_); rintro e w4 ⟨rfl, hw⟩; have hw := hw.symm; subst hw)
                | (go_at_call 80; go_must (refine HAp.out.mono ?_); rintro e w3 ⟨rfl, hb3⟩; have HB3 : Hid (Below (wr.heap.size + 1) (wr.alloc (.cells #[.int .u64 m.l.tx, .int .i64 m.l.lv, .int .i64 m.l.md, .slice m.la m.ln m.lc, .slice m.ha m.hn m.hc] 32)) w3) := hide (hb3.mono (by simp)); obtain ⟨⟨y0, y1, y2, y3, y4⟩, z0, z1, z2, z3, z4⟩ := HXN.out w3 HB3.out; clear hb3))
              go_roundg (rn - (k + 1))
              case measure => omega
              case rel =>
                have hbb := HBN.out.trans (HB3.out.mono (by simp))
                exact ⟨k + 1, rfl, by go_num, by omega, by rw [HMo.out]; exact HO2.out.keep hbb, HB2r.out.trans (hbb.mono hsw)⟩
            | false =>
              go_wp2_with (first
                | (go_at_call 81; go_must (refine (HFt.out _ (by exact HB3.out)).mono ?_); rintro e w4 ⟨rfl, hw⟩; have hw := hw.symm; subst hw)
                | (go_at_call 80; go_must (refine HAp.out.mono ?_); rintro e w3 ⟨rfl, hb3⟩; have HB3 : Hid (Below (wr.heap.size + 1) (wr.alloc (.cells #[.int .u64 m.l.tx, .int .i64 m.l.lv, .int .i64 m.l.md, .slice m.la m.ln m.lc, .slice m.ha m.hn m.hc] 32)) w3) := hide (hb3.mono (by simp)); obtain ⟨⟨y0, y1, y2, y3, y4⟩, z0, z1, z2, z3, z4⟩ := HXN.out w3 HB3.out; clear hb3))
              have HO3 := hide (HO2.out.keep (HBN.out.trans (HB3.out.mono (by simp))))
              have HB23 := hide (HB2r.out.trans ((HBN.out.trans (HB3.out.mono (by simp))).mono hsw))
              have HM0 := hide (fun V (hV : Below w3.heap.size w3 V) => (HXN.out V (HB3.out.trans (hV.mono (by have := HB3.out.size; simpa using this)))).1.1)
              have hvl := HO3.out.len
              have hvm : (vn : Int) ≤ 9223372036854775807 := by have := hvl.2.1; have := hvl.2.2; unfold maxLen at this; omega
              have HVl := hide hvl.1
              have hb13 : w2.heap.size ≤ w3.heap.size := HB23.out.size
              obtain ⟨acc, hacc⟩ : ∃ acc, whoM (whoM [] hs x) (rs.take k) x = acc := ⟨_, rfl⟩
              rw [hacc] at HO3 HVl HMo HLa
              have hkt : (rs.take k).length ≤ 100000 := by rw [List.length_take]; have := HLs.out; omega
              have HLb : Hid (acc.length ≤ 500000) := by show _ ≤ _; have := HLa.out; have h2 := whoM_len [] hs x; have := HHl.out; simp only [List.length_nil] at *; omega
              clear hacc hvl HO2 y0 y1 y2 y3 y4 z0 z1 z2 z3 z4 x0 x1 x2 x3 x4 d0 d1 d2 d3 d4 hkt
              obtain ⟨wi, hwi⟩ : ∃ wi, wi = wr := ⟨_, rfl⟩
              subst hwi
              go_loopg [44] vn (fun gk i wq => ∃ q : Nat, gk = vn - q ∧ i = .int .i64 q ∧ q ≤ vn ∧ (acc.take q).all (fun t => !(t == m.l.tx)) = true ∧ wq = w3)
              case atStart => exact ⟨0, rfl, rfl, Nat.zero_le _, rfl, rfl⟩
              case round =>
                obtain ⟨q, rfl, rfl, hq, hA, hw⟩ := hrel
                subst hw
                have HA := hide hA
                clear hA
                have m0 := HM0.out wr (Below.refl _ _)
                by_cases hql : q < vn
                · have hql' : (q : Int) < (vn : Int) := by omega
                  obtain ⟨t, hqt⟩ : ∃ t, acc[q]? = some t := ⟨_, List.getElem?_eq_getElem (by have := HVl.out; omega)⟩
                  obtain ⟨g2, off2, rfl, -, hC2⟩ := HO3.out.is.at hql
                  have t0 : wr.cell? ⟨g2, off2 + q, none⟩ = some (.int .u64 t) := by have := hC2 q t hqt 0 _ rfl; simpa [layU] using this
                  have HQt := hide hqt
                  have HAm := hide (all_moreU (p := fun t => !(t == m.l.tx)) hqt)
                  rw [HA.out] at HAm
                  clear hC2 hqt
                  by_cases hte : t = m.l.tx
                  · have hte' : (t == m.l.tx) = true := by simpa using hte
                    have HMe : Hid (whoM (whoM [] hs x) (rs.take (k + 1)) x = acc) := by
                      show _ = _
                      rw [HMo.out, if_pos (by decide)]
                      unfold whoW
                      rw [if_pos (by rw [← hte]; exact List.mem_of_getElem? HQt.out)]
                    clear hte
                    go_wp2
                    go_roundg (rn - (k + 1))
                    case measure => omega
                    case rel => exact ⟨k + 1, rfl, by go_num, by omega, by rw [HMe.out]; exact HO3.out, HB23.out⟩
                  · have hte' : (t == m.l.tx) = false := by simpa using hte
                    rw [hte'] at HAm
                    clear hte
                    go_wp2
                    go_roundg (vn - (q + 1))
                    case measure => omega
                    case rel => exact ⟨q + 1, rfl, by go_num, by omega, by rw [HAm.out]; rfl, rfl⟩
                · obtain rfl : q = vn := by omega
                  have HMe : Hid (whoM (whoM [] hs x) (rs.take (k + 1)) x = acc ++ [m.l.tx]) := by
                    show _ = _
                    rw [HMo.out, if_pos (by decide)]
                    unfold whoW
                    have hA := HA.out
                    rw [List.take_of_length_le (by have := HVl.out; omega)] at hA
                    rw [if_neg (mem_no hA)]
                  have HS1 : Hid (OwnY layU (wr.alloc (.cells #[.int .u64 m.l.tx] 28)) wr.heap.size (.slice (some ⟨wr.heap.size, 0, none⟩) 1 1) [m.l.tx]) := ownY_one (L := layU) wr wr.heap.size #[.int .u64 m.l.tx] m.l.tx (Nat.le_refl _) rfl
                  have HO4 := hide (HO3.out.keep (new_below wr (.cells #[.int .u64 m.l.tx] 28)))
                  have HBig : Hid (acc.length + [m.l.tx].length ≤ 1000000000) := by show _ ≤ _; have := HLb.out; simp only [List.length_singleton]; omega
                  go_wp2_with (first
                    | (at_builtin; go_must (refine wp_joinY layU _ rfl (.tmp 53) (.tmp 56) rfl w2.heap.size _ acc rfl HO4.out (some ⟨wr.heap.size, 0, none⟩) 1 1 [m.l.tx] rfl HS1.out.is.src HBig.out (by simp; omega) ?_); intro v5 w5 hown5 hg5 hat5; have HO5 := hide hown5; have HB5 := hide (HO4.out.grown hg5 (by simp; omega)); have HG5 := hide hg5; obtain ⟨xa, xn, xc, rfl⟩ := hown5.any3; clear hown5 hg5 hat5))
                  go_roundg (rn - (k + 1))
                  case measure => omega
                  case rel => exact ⟨k + 1, rfl, by go_num, by omega, by rw [HMe.out]; exact HO5.out, (HB23.out.trans ((new_below wr _).mono HB23.out.size)).trans HB5.out⟩
        · obtain rfl : k = rn := by omega
          have ek : rs.take k = rs := List.take_of_length_le (by have := HIS.out.1; omega)
          rw [ek] at HO2
          go_wp2
          rw [Exit.noGoto_normal]
          go_wp2
          go_roundg (2 - (1 + 1))
          case measure => omega
          case rel => exact ⟨1 + 1, rfl, by go_num, by omega, by rw [HACC.out.2.2]; exact HO2.out, HB2r.out⟩
    · rw [HACC.out.2.2] at HO
      go_wp2
      go_ret
      refine ⟨_, rfl, ?_, HB.out.trans ((HB2.out.trans (HBo.out.mono HS2.out)).mono (by omega))⟩
      rw [HTw.out]
      exact HO.out.mono (by have := HS2.out; omega)

end Go.Proofs.YtepaflofbcokaaaDoor
