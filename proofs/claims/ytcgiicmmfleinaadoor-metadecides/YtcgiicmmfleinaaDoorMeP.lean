/- The law MetaDecides. Printed by part/gen_mep.py. -/
import Derived.Test.YtcgiicmmfleinaaDoorMfL
import Derived.Test.YtcgiicmmfleinaaDoorDrA
import Derived.Test.YtcgiicmmfleinaaDoorTx
import Derived.Deep.QuietTactic
import Derived.BigQuiet
namespace Go.Proofs.YtcgiicmmfleinaaDoor
open Go.RowKit NumMath Go.ChangeShapes Go.WideShapes Go.Deep
set_option linter.unusedVariables false
set_option maxRecDepth 100000

theorem MB.handed.keep {m : MB} {w w' : World} (h : m.handed w) (hb : Below w.heap.size w w') : m.handed w' := ⟨h.1.keep hb, h.2⟩

theorem MCmd.handed.keep {m : MCmd} {w w' : World} (h : m.handed w) (hb : Below w.heap.size w w') : m.handed w' :=
  ⟨h.cl, h.sq, h.kd, h.tx, h.ts, ⟨⟨h.lk.1.1.keep hb, h.lk.1.2⟩, h.lk.2⟩, h.lo.keep hb, h.hi.keep hb, h.txs.keep hb, h.txr, h.ws.keep hb, fun x hx => ⟨(h.wok x hx).1.keep hb, (h.wok x hx).2.keep hb⟩, h.ks.keep hb, fun x hx => (h.kok x hx).keep hb, ⟨h.tb.1.keep hb, h.tb.2⟩⟩

/-- a list of commands that a law is handed -/
def IsCmL (w : World) (a : Option Addr) (n c : Nat) (xs : List MCmd) : Prop := IsY layCm w a n c xs ∧ (∀ m ∈ xs, m.handed w) ∧ n * 320 ≤ 140737488355328

def allN (k : Nat) : List Int := (List.range k).map (fun (j : Nat) => (j : Int) + 1)

theorem allN_more (k : Nat) : allN (k + 1) = allN k ++ [(k : Int) + 1] := by
  unfold allN
  rw [List.range_succ, List.map_append]
  rfl

theorem allN_len (k : Nat) : (allN k).length = k := by simp [allN]

theorem allN_at {k i : Nat} (h : i < k) : (allN k)[i]? = some ((i : Int) + 1) := by
  unfold allN
  rw [List.getElem?_map, List.getElem?_range h]
  rfl

def nowL (S : Mac) : List Sta := (allN 45).map (staM S.ss)

theorem nowL_len (S : Mac) : (nowL S).length = 45 := by unfold nowL; rw [List.length_map, allN_len]

theorem nowL_at {S : Mac} {i : Nat} {s : Sta} (h : (nowL S)[i]? = some s) : s = staM S.ss ((i : Int) + 1) ∧ i < 45 := by
  have hi : i < 45 := by
    have := (List.getElem?_eq_some_iff.1 h).1
    rwa [nowL_len] at this
  unfold nowL at h
  rw [List.getElem?_map, allN_at hi] at h
  exact ⟨(Option.some.inj h).symm, hi⟩

/-- the machine behind the first k commands -/
def stM (ms : List MCmd) (k : Nat) : Mac := (ms.take k).foldl (fun S m => (doM S m.c).2) mac0

theorem stM_more {ms : List MCmd} {k : Nat} {m : MCmd} (h : ms[k]? = some m) : stM ms (k + 1) = (doM (stM ms k) m.c).2 := by
  unfold stM
  rw [List.take_add_one, h, List.foldl_append]
  rfl

theorem decI_all {ms : List MCmd} (hf : ∀ m ∈ ms, m.c.Few) : ∀ k, DecI (stM ms k)
  | 0 => by
    have e : stM ms 0 = mac0 := by unfold stM; rw [List.take_zero]; rfl
    rw [e]; exact decI_new
  | k + 1 => by
    cases hm : ms[k]? with
    | none =>
      have e : stM ms (k + 1) = stM ms k := by unfold stM; rw [List.take_add_one, hm]; simp
      rw [e]; exact decI_all hf k
    | some m =>
      rw [stM_more hm]
      exact (do_dec (decI_all hf k) (hf m (List.mem_of_getElem? hm))).1

/-- what was told ahead -/
def wasL (ms : List MCmd) : Nat → List Sta
  | 0 => List.replicate 45 ⟨0, 0, 0⟩
  | k + 1 => nowL (stM ms (k + 1))

theorem wasL_len (ms : List MCmd) (k : Nat) : (wasL ms k).length = 45 := by
  cases k with
  | zero => simp [wasL]
  | succ k => exact nowL_len _

theorem was_now {ms : List MCmd} (hf : ∀ m ∈ ms, m.c.Few) {k i : Nat} {m : MCmd} {x s : Sta} (hm : ms[k]? = some m) (hx : (wasL ms k)[i]? = some x) (hs : (nowL (stM ms (k + 1)))[i]? = some s) (hd : x.st ≠ 0) : x = s := by
  obtain ⟨es, hi⟩ := nowL_at hs
  cases k with
  | zero =>
    unfold wasL at hx
    rw [List.getElem?_replicate, if_pos hi] at hx
    cases hx
    exact absurd rfl hd
  | succ k =>
    obtain ⟨ex, -⟩ := nowL_at (show (nowL (stM ms (k + 1)))[i]? = some x from hx)
    rw [es, stM_more hm, ex]
    rw [ex] at hd
    exact ((do_dec (decI_all hf (k + 1)) (hf m (List.mem_of_getElem? hm))).2 _ (by omega) hd).symm

theorem now_apart {ms : List MCmd} (hf : ∀ m ∈ ms, m.c.Few) {k i j : Nat} {s t : Sta} (hij : j < i) (hs : (nowL (stM ms k))[i]? = some s) (ht : (nowL (stM ms k))[j]? = some t) (h1 : s.st = 1) (h2 : t.st = 1) : s.ts ≠ t.ts := by
  obtain ⟨es, -⟩ := nowL_at hs
  obtain ⟨et, -⟩ := nowL_at ht
  rw [es] at h1 ⊢
  rw [et] at h2 ⊢
  exact dec_apart (decI_all hf k) (by omega) (by omega) (by omega) h1 h2

theorem pdoP_any {F : Nat → Prop} {base : Nat} {a : Mm} {z : Nat} {S : Mac} {w : World} (h : IsMm F base w a z S) (m : MCmd) (p : Nat) (hp : a.p = p) (hc : Foot (fun k => a.X k ∨ F k) w (fun V => m.ok V)) (hf : m.c.Few) (hz : z ≤ 159) :
    Calls Tryd.prog 7 #[.pointer (some ⟨p, 0, none⟩), .agg #[.int .u64 m.cl, .int .u64 m.sq, .int .i64 m.kd, .int .u64 m.tx, .int .u64 m.ts, .bool m.fl, .int .u64 m.lk.l.tx, .int .i64 m.lk.l.lv, .int .i64 m.lk.l.md, .slice m.lk.la m.lk.ln m.lk.lc, .slice m.lk.ha m.lk.hn m.lk.hc, .slice m.lo.a m.lo.n m.lo.c, .slice m.hi.a m.hi.n m.hi.c, .slice m.txs.a m.txs.n m.txs.c, .slice m.ws.a m.ws.n m.ws.c, .slice m.ks.a m.ks.n m.ks.c, .int .i64 m.tb.id, .string (strB m.tb.nm), .slice m.tb.cs.a m.tb.cs.n m.tb.cs.c, .int .i64 m.tb.ky, .slice m.tb.ix.a m.tb.ix.n m.tb.ix.c]] w (RsPost F base w a (z + 2) (doM S m.c)) := by
  subst hp
  exact pdo_any h m hc hf hz

/-- a question for all of them -/
def cmS (a : Option Addr) (n c : Nat) : MCmd := { cmK 3 with txs := ⟨a, n, c, allN 45⟩ }

theorem cmS_few (a : Option Addr) (n c : Nat) : (cmS a n c).c.Few :=
  ⟨u64_zero, u64_zero, u64_zero, fun x hx => by
    have hx : x ∈ allN 45 := hx
    unfold allN at hx
    obtain ⟨j, hj, rfl⟩ := List.mem_map.1 hx
    have := List.mem_range.1 hj
    exact ⟨by omega, by omega⟩, by show (allN 45).length ≤ 1000; rw [allN_len]; omega, by simp [cmS, cmK, MCmd.c], by simp [cmS, cmK, MCmd.c], by simp [cmS, cmK, MCmd.c, MTb.t], by simp [cmS, cmK, MCmd.c, MTb.t]⟩

theorem pdoS_any {F : Nat → Prop} {base : Nat} {a : Mm} {z : Nat} {S : Mac} {w : World} (h : IsMm F base w a z S) (ta : Option Addr) (n c : Nat) (p : Nat) (hp : a.p = p) (ht : Foot (fun k => a.X k ∨ F k) w (fun V => IsY layU V ta n c (allN 45))) (hz : z ≤ 159) :
    Calls Tryd.prog 7 #[.pointer (some ⟨p, 0, none⟩), .agg #[.int .u64 0, .int .u64 0, .int .i64 3, .int .u64 0, .int .u64 0, .bool false, .int .u64 0, .int .i64 0, .int .i64 0, .slice none 0 0, .slice none 0 0, .slice none 0 0, .slice none 0 0, .slice ta n c, .slice none 0 0, .slice none 0 0, .int .i64 0, .string ⟨#[]⟩, .slice none 0 0, .int .i64 0, .slice none 0 0]] w (RsPost F base w a (z + 2) ({ res0 with ss := nowL S }, S)) := by
  subst hp
  exact pdo_any h (cmS ta n c) (ht.imp (fun V hV => ⟨⟨isBn V, isBn V⟩, isBn V, isBn V, hV, isY_nil V, by simp [cmS, cmK], isY_nil V, by simp [cmS, cmK], ⟨isY_nil V, isY_nil V⟩⟩)) (cmS_few ta n c) hz

theorem sta_at {l : List Sta} {k : Nat} (h : k < l.length) : ∃ x, l[k]? = some x := ⟨_, List.getElem?_eq_getElem h⟩

set_option maxHeartbeats 8000000 in
theorem mdecides_any (a : Option Addr) (n c : Nat) (ms : List MCmd) (w : World) (h : IsY layCm w a n c ms) (hh : ∀ m ∈ ms, m.handed w) (hn : n * 320 ≤ 140737488355328) (hF : FitW w) :
    Calls Tryd.prog 3 #[.slice a n c] w fun e w' => e = .returned (.bool true) ∧ Below w.heap.size w w' := by
  have HAw := hide (awake15_any w hF)
  have HSm0 := hide (fun w1 (hb : Below w.heap.size w w1) => small_any a n c ms w1 (h.keep hb) (fun m hm => (hh m hm).keep hb) hn)
  have HNw := hide (fun w2 (hb : Below w.heap.size w w2) => pnewM_any (F := fun _ => False) w2 (hF.keep hb) (fun _ h => h.elim) (fun h => h))
  have HY := hide h
  have HH := hide hh
  have hm : (n : Int) ≤ 9223372036854775807 := by omega
  clear h hh hF hn
  go_enter Tryd.func3, Tryd.ntmps3
  go_upto_region 3 with (first
    | (go_at_call 4; go_must (refine HAw.out.mono ?_); rintro e w1 ⟨rfl, hb1⟩; have HB1 := hide hb1; have HSm := hide (HSm0.out w1 hb1); clear hb1))
  go_upto_region 6 with (first
    | (go_at_call 6; go_must (refine (HNw.out w2 HB02.out).mono ?_); rintro e w3 ⟨M, hv, wv, rfl, hi3, hm3, hb3⟩; have HI3 := hide hi3; have HM3 := hide hm3; have HB3 := hide hb3; clear hi3 hm3 hb3)
    | (go_at_call 5; go_must (refine HSm.out.mono ?_); rintro e w2 ⟨zs, rfl, hsm, hb2⟩; have HSmall := hide hsm; have HB02 := hide (HB1.out.trans (hb2.mono HB1.out.size)); clear hsm hb2; cases zs))
  · go_ret
    exact ⟨rfl, HB02.out⟩
  have hsmall := HSmall.out trivial
  have HSml := hide hsmall.1
  have h40 := hsmall.2
  have HFe : Hid (∀ m ∈ ms, m.c.Few) := fun m hm => few_of (HH.out m hm) (hsmall.1 m hm)
  clear HSmall hsmall
  go_wp2
  go_loopg [4, 5] 45 (fun gk v i wr => ∃ k : Nat, gk = 45 - k ∧ i = .int .u64 ((k : Int) + 1) ∧ k ≤ 45 ∧ OwnY layU wr w3.heap.size v (allN k) ∧ Below w3.heap.size w3 wr)
  case atStart => exact ⟨0, rfl, rfl, Nat.zero_le _, ownY_nil _ _, Below.refl _ _⟩
  case round =>
    obtain ⟨k, rfl, rfl, hk, hO, hB⟩ := hrel
    obtain ⟨la, ln, lc, rfl⟩ := hO.any3
    have hll := hO.len.1
    rw [allN_len] at hll
    have HLL := hide hll
    clear hll
    have HO := hide hO
    have HB := hide hB
    have hsw := hB.size
    by_cases hlt : k < 45
    · have hlt' : (k : Int) + 1 ≤ 45 := by omega
      obtain ⟨W5, hW5⟩ : ∃ W5, W5 = wr.alloc (.cells #[.int .u64 ((k : Int) + 1)] 28) := ⟨_, rfl⟩
      have hb5 : Below wr.heap.size wr W5 := by rw [hW5]; exact new_below _ _
      have HO5 := hide (hO.keep hb5)
      have HX5 : Hid (SrcY layU W5 (some ⟨wr.heap.size, 0, none⟩) 1 [(k : Int) + 1]) := by
        show SrcY _ _ _ _ _
        rw [hW5]
        exact (ownY_one (L := layU) wr wr.heap.size #[.int .u64 ((k : Int) + 1)] ((k : Int) + 1) (Nat.le_refl _) rfl).is.src
      have HBig : Hid ((allN k).length + [(k : Int) + 1].length ≤ 1000000000) := by show _ ≤ _; rw [allN_len]; simp; omega
      have HBl : Hid (w3.heap.size ≤ W5.heap.size) := Nat.le_trans hsw hb5.size
      have HB5 := hide hb5
      have HW5 := hide hW5
      clear hO hB hb5 hW5
      go_wp2_with (first
        | (at_builtin; (try rw [← HW5.out]); go_must (refine wp_joinY layU _ rfl (.tmp 24) (.tmp 26) rfl w3.heap.size _ _ rfl HO5.out (some ⟨wr.heap.size, 0, none⟩) 1 1 [(k : Int) + 1] rfl HX5.out HBig.out HBl.out ?_); intro v6 w6 hown6 hg6 hat6; obtain ⟨va, vn, vc, rfl⟩ := hown6.any3; have HO6 := hide hown6; have HG6 := hide (HO5.out.grown hg6 HBl.out); clear hown6 hg6 hat6))
      go_roundg (45 - (k + 1))
      case measure => omega
      case rel => exact ⟨k + 1, rfl, by go_num, by omega, by rw [allN_more]; exact HO6.out, (HB.out.trans (HB5.out.mono HB.out.size)).trans HG6.out⟩
    · obtain rfl : k = 45 := by omega
      have hll' : (ln : Int) = 45 := by have := HLL.out; omega
      obtain ⟨w5, hmk, hO5, hb5⟩ := madeSt wr
      have h45 := HLL.out
      subst h45
      have hxl := HI3.out.xl
      have HI5 : Hid (IsMm (fun _ => False) w2.heap.size w5 (mm0 w2.heap.size M hv wv) 0 mac0) := (HI3.out.keep hB).keep hb5
      have HFa : Hid (Foot (fun k => (mm0 w2.heap.size M hv wv).X k ∨ False) w5 (fun V => IsY layU V la 45 lc (allN 45))) :=
        foot_ownY (hO.keep hb5) (fun k hk => hk.elim (fun h => (hxl k h).2) False.elim)
      have HFw : Hid (Foot (fun k => (mm0 w2.heap.size M hv wv).X k ∨ False) w5 (fun V => IsY laySt V (some ⟨wr.heap.size, 0, none⟩) 45 45 (wasL ms 0))) :=
        foot_ownY hO5 (fun k hk => hk.elim (fun h => Nat.lt_of_lt_of_le (hxl k h).2 hsw) False.elim)
      have HB5 : Hid (Below w.heap.size w w5) := by
        have b2 := HB02.out.size
        have b3 := HB3.out.size
        exact ((HB02.out.trans (HB3.out.mono b2)).trans (hB.mono (Nat.le_trans b2 b3))).trans (hb5.mono (Nat.le_trans (Nat.le_trans b2 b3) hsw))
      have HBB : Hid (w.heap.size ≤ w2.heap.size) := HB02.out.size
      clear hO hB hO5 hb5 hxl HO HLL HI3 HM3 HB3 HAw HSm0 HNw HB1 HSm HB02 HB
      go_wp2
      go_loopg [6, 31] n (fun gk v ix wr => ∃ (k : Nat) (a' : Mm) (va : Option Addr) (vn vc : Nat), gk = n - k ∧ v = .slice va vn vc ∧ ix = .int .i64 k ∧ k ≤ n ∧ IsMm (fun _ => False) w2.heap.size wr a' (4 * k) (stM ms k) ∧ a'.p = M + 1 ∧ Foot (fun j => a'.X j ∨ False) wr (fun V => IsY layU V la 45 lc (allN 45)) ∧ Foot (fun j => a'.X j ∨ False) wr (fun V => IsY laySt V va vn vc (wasL ms k)) ∧ Below w.heap.size w wr)
      case atStart => exact ⟨0, _, _, _, _, rfl, rfl, rfl, Nat.zero_le _, HI5.out, rfl, HFa.out, HFw.out, HB5.out⟩
      case round =>
        clear HI5 HFa HFw HB5 hmk
        obtain ⟨k, a', va, vn, vc, rfl, rfl, rfl, hk, hi, hp, hfa, hfw, hb⟩ := hrel
        have HI := hide hi
        have HP := hide hp
        have HFa := hide hfa
        have HFw := hide hfw
        have HB := hide hb
        clear hi hp hfa hfw hb
        obtain ⟨wo, hwo⟩ : ∃ wo, wo = wr := ⟨_, rfl⟩
        subst hwo
        by_cases hlt : k < n
        · have hlt' : (k : Int) < (n : Int) := by omega
          obtain ⟨m, hm⟩ := at_of HY.out.1 hlt
          obtain ⟨g, off, rfl, hg, hC⟩ := (HY.out.keep HB.out).at hlt
          have HM := hide hm
          obtain ⟨W2, hW2⟩ : ∃ W2, W2 = wo.alloc (.cells #[.int .u64 m.cl, .int .u64 m.sq, .int .i64 m.kd, .int .u64 m.tx, .int .u64 m.ts, .bool m.fl, .int .u64 m.lk.l.tx, .int .i64 m.lk.l.lv, .int .i64 m.lk.l.md, .slice m.lk.la m.lk.ln m.lk.lc, .slice m.lk.ha m.lk.hn m.lk.hc, .slice m.lo.a m.lo.n m.lo.c, .slice m.hi.a m.hi.n m.hi.c, .slice m.txs.a m.txs.n m.txs.c, .slice m.ws.a m.ws.n m.ws.c, .slice m.ks.a m.ks.n m.ks.c, .int .i64 m.tb.id, .string (strB m.tb.nm), .slice m.tb.cs.a m.tb.cs.n m.tb.cs.c, .int .i64 m.tb.ky, .slice m.tb.ix.a m.tb.ix.n m.tb.ix.c] 40) := ⟨_, rfl⟩
          have HBn : Hid (Below wo.heap.size wo W2) := by subst hW2; exact new_below _ _
          have HR0 : Hid (wo.rangeAt g (off + k * 21) (layCm.cells m)) := hC k _ hm
          have HR1 : Hid (W2.rangeAt wo.heap.size 0 (layCm.cells m)) := by subst hW2; exact rangeY_new wo wo.heap.size _ _ rfl
          have hbW := HB.out.trans (HBn.out.mono HB.out.size)
          have HIX : Hid (∀ j, a'.X j → w.heap.size ≤ j) := fun j hj => Nat.le_trans HBB.out (HI.out.xl j hj).1
          have HDo := hide (pdoP_any (HI.out.keep HBn.out) m (M + 1) HP.out (foot_cmd (HH.out m (List.mem_of_getElem? hm)).ok hbW (fun j hj => hj.elim (HIX.out j) False.elim)) (HFe.out m (List.mem_of_getElem? hm)) (by omega))
          have HW2e := hide hW2
          clear hW2 hC hm hbW
          go_upto_region 15 with (first
            | (refine wp_loadY layCm _ _ Tryd.underlying40 rfl rfl (.tmp 33) rfl g (off + k * 21) m #[.int .u64 m.cl, .int .u64 m.sq, .int .i64 m.kd, .int .u64 m.tx, .int .u64 m.ts, .bool m.fl, .int .u64 m.lk.l.tx, .int .i64 m.lk.l.lv, .int .i64 m.lk.l.md, .slice m.lk.la m.lk.ln m.lk.lc, .slice m.lk.ha m.lk.hn m.lk.hc, .slice m.lo.a m.lo.n m.lo.c, .slice m.hi.a m.hi.n m.hi.c, .slice m.txs.a m.txs.n m.txs.c, .slice m.ws.a m.ws.n m.ws.c, .slice m.ks.a m.ks.n m.ks.c, .int .i64 m.tb.id, .string (strB m.tb.nm), .slice m.tb.cs.a m.tb.cs.n m.tb.cs.c, .int .i64 m.tb.ky, .slice m.tb.ix.a m.tb.ix.n m.tb.ix.c] rfl rfl HR0.out ?_)
            | (refine wp_newL layCm wo 40 rfl m #[.int .u64 m.cl, .int .u64 m.sq, .int .i64 m.kd, .int .u64 m.tx, .int .u64 m.ts, .bool m.fl, .int .u64 m.lk.l.tx, .int .i64 m.lk.l.lv, .int .i64 m.lk.l.md, .slice m.lk.la m.lk.ln m.lk.lc, .slice m.lk.ha m.lk.hn m.lk.hc, .slice m.lo.a m.lo.n m.lo.c, .slice m.hi.a m.hi.n m.hi.c, .slice m.txs.a m.txs.n m.txs.c, .slice m.ws.a m.ws.n m.ws.c, .slice m.ks.a m.ks.n m.ks.c, .int .i64 m.tb.id, .string (strB m.tb.nm), .slice m.tb.cs.a m.tb.cs.n m.tb.cs.c, .int .i64 m.tb.ky, .slice m.tb.ix.a m.tb.ix.n m.tb.ix.c] rfl _ rfl rfl (.tmp 8) (.tmp 34) rfl rfl rfl ?_))
          rw [← HW2e.out]
          go_upto_region 16 with (first
            | (refine wp_loadY layCm _ _ Tryd.underlying40 rfl rfl (.tmp 8) rfl wo.heap.size 0 m #[.int .u64 m.cl, .int .u64 m.sq, .int .i64 m.kd, .int .u64 m.tx, .int .u64 m.ts, .bool m.fl, .int .u64 m.lk.l.tx, .int .i64 m.lk.l.lv, .int .i64 m.lk.l.md, .slice m.lk.la m.lk.ln m.lk.lc, .slice m.lk.ha m.lk.hn m.lk.hc, .slice m.lo.a m.lo.n m.lo.c, .slice m.hi.a m.hi.n m.hi.c, .slice m.txs.a m.txs.n m.txs.c, .slice m.ws.a m.ws.n m.ws.c, .slice m.ks.a m.ks.n m.ks.c, .int .i64 m.tb.id, .string (strB m.tb.nm), .slice m.tb.cs.a m.tb.cs.n m.tb.cs.c, .int .i64 m.tb.ky, .slice m.tb.ix.a m.tb.ix.n m.tb.ix.c] rfl rfl HR1.out ?_)
            | (go_at_call 7; go_must (refine HDo.out.mono ?_); rintro e w6 ⟨a1, m1, rfl, -, -, hi6, hs6⟩; have HI6 := hide hi6; have HS6 := hide hs6; clear hi6 hs6))
          have HB6 : Hid (Below w.heap.size w w6) := mstep_kp HS6.out HIX.out (by have := HB.out.size; have := HBn.out.size; omega) (HB.out.trans (HBn.out.mono HB.out.size))
          have HFa6 := hide (HS6.out.foot (HFa.out.keep HBn.out))
          have HFw6 := hide (HS6.out.foot (HFw.out.keep HBn.out))
          have HP6 : Hid (a1.p = M + 1) := HS6.out.p.trans HP.out
          have HI6' : Hid (IsMm (fun _ => False) w2.heap.size w6 a1 (4 * k + 2) (stM ms (k + 1))) := by
            show IsMm _ _ _ _ _ _
            rw [stM_more HM.out]; exact HI6.out
          have HIX6 : Hid (∀ j, a1.X j → w.heap.size ≤ j) := fun j hj => Nat.le_trans HBB.out (HI6.out.xl j hj).1
          have HDs := hide (pdoS_any HI6'.out la 45 lc (M + 1) HP6.out HFa6.out (by omega))
          clear HI6 HS6 HDo HR0 HR1 HI HFa HFw HIX HP
          have hfR := field4R
          go_upto_region 17 with (first
            | (go_at_call 7; go_must (refine HDs.out.mono ?_); rintro e w7 ⟨a2, m2, rfl, hr7, hok7, hi7, hs7⟩; obtain ⟨er7, tx7, ts7, fl7, sa, sn, sc, ss7, ta7, tn7, tc7, tb7⟩ := m2; simp only [MRes.v]; have HR7 := hide hr7; have HO7 := hide hok7; have HI7 := hide hi7; have HS7 := hide hs7; clear hr7 hok7 hi7 hs7))
          have hss : ss7 = nowL (stM ms (k + 1)) := congrArg Res.ss HR7.out
          subst hss
          have HSt : Hid (Foot (fun j => a2.X j ∨ False) w7 (fun V => IsY laySt V sa sn sc (nowL (stM ms (k + 1))))) := HO7.out.imp (fun V h => h.s)
          have HFa7 : Hid (Foot (fun j => a2.X j ∨ False) w7 (fun V => IsY layU V la 45 lc (allN 45))) := HS7.out.foot HFa6.out
          have HFw7 : Hid (Foot (fun j => a2.X j ∨ False) w7 (fun V => IsY laySt V va vn vc (wasL ms k))) := HS7.out.foot HFw6.out
          have HB7 : Hid (Below w.heap.size w w7) := mstep_kp HS7.out HIX6.out HB6.out.size HB6.out
          have HP7 : Hid (a2.p = M + 1) := HS7.out.p.trans HP6.out
          have HSy : Hid (IsY laySt w7 sa sn sc (nowL (stM ms (k + 1)))) := HSt.out.now
          have HWy : Hid (IsY laySt w7 va vn vc (wasL ms k)) := HFw7.out.now
          have hsn := HSy.out.1
          rw [nowL_len] at hsn
          have hvn := HWy.out.1
          rw [wasL_len] at hvn
          subst hsn hvn
          clear HR7 HO7 HS7 HFa6 HFw6 HFw7 HB6 HP6 HDs HI6' HIX6 hfR HBn HW2e
          go_wp2
          go_loopg [48] 45 (fun gi iv wq => ∃ i : Nat, gi = 45 - i ∧ iv = .int .i64 i ∧ i ≤ 45 ∧ Below w7.heap.size w7 wq)
          case atStart => exact ⟨0, rfl, rfl, Nat.zero_le _, Below.refl _ _⟩
          case round =>
            obtain ⟨i, rfl, rfl, hi, hB3⟩ := hrel
            have HBq := hide hB3
            clear hB3
            obtain ⟨wq, hwq⟩ : ∃ wq, wq = wr := ⟨_, rfl⟩
            subst hwq
            by_cases hli : i < 45
            · have hli' : (i : Int) < 45 := by omega
              obtain ⟨s, hs⟩ := sta_at (l := nowL (stM ms (k + 1))) (k := i) (by rw [nowL_len]; exact hli)
              obtain ⟨x, hx⟩ := sta_at (l := wasL ms k) (k := i) (by rw [wasL_len]; exact hli)
              obtain ⟨b, hcut, hcy⟩ := isY_cut laySt (HSy.out.keep HBq.out) i (by omega)
              have HCY := hide hcy
              have hcut' : ∀ W, (Instr.sliceAt 29 (.slice sa 45 sc) none (some (.int .i64 (i : Int))) none).run Tryd.prog W = .ok (.slice b i sc) W := hcut
              clear hcut
              obtain ⟨g1, o1, rfl, hg1, hC1⟩ := (HSy.out.keep HBq.out).at hli
              obtain ⟨g2, o2, rfl, hg2, hC2⟩ := (HWy.out.keep HBq.out).at hli
              have e0 : wq.cell? ⟨g1, o1 + i * 3, none⟩ = some (.int .u64 s.tx) := hC1 i s hs 0 _ rfl
              have e1 : wq.cell? ⟨g1, o1 + i * 3 + 1, none⟩ = some (.int .i64 s.st) := hC1 i s hs 1 _ rfl
              have e2 : wq.cell? ⟨g1, o1 + i * 3 + 2, none⟩ = some (.int .u64 s.ts) := hC1 i s hs 2 _ rfl
              have f0 : ∀ o, (wq.alloc o).cell? ⟨g2, o2 + i * 3, none⟩ = some (.int .u64 x.tx) := fun o => (World.cell?_of_block (a := ⟨g2, _, none⟩) ((new_below wq o).block g2 hg2)).trans (hC2 i x hx 0 _ rfl)
              have f1 : ∀ o, (wq.alloc o).cell? ⟨g2, o2 + i * 3 + 1, none⟩ = some (.int .i64 x.st) := fun o => (World.cell?_of_block (a := ⟨g2, _, none⟩) ((new_below wq o).block g2 hg2)).trans (hC2 i x hx 1 _ rfl)
              have f2 : ∀ o, (wq.alloc o).cell? ⟨g2, o2 + i * 3 + 2, none⟩ = some (.int .u64 x.ts) := fun o => (World.cell?_of_block (a := ⟨g2, _, none⟩) ((new_below wq o).block g2 hg2)).trans (hC2 i x hx 2 _ rfl)
              have HEq : Hid (x.st ≠ 0 → x = s) := was_now HFe.out HM.out hx hs
              have HS := hide hs
              obtain ⟨W8, hW8⟩ : ∃ W8, W8 = wq.alloc (.cells #[.int .u64 s.tx, .int .i64 s.st, .int .u64 s.ts] 48) := ⟨_, rfl⟩
              have HB8 : Hid (Below wq.heap.size wq W8) := by subst hW8; exact new_below _ _
              have HQ8 : Hid (∀ V, Below W8.heap.size W8 V → V.rangeAt wq.heap.size 0 (laySt.cells s)) := by
                subst hW8
                exact fun V hb => rangeY_same (rangeY_new wq wq.heap.size _ _ rfl) (hb.block wq.heap.size ((Array.getElem?_eq_some_iff.1 (heap_alloc_new _ _)).1))
              have HW8 := hide hW8
              clear hW8 hcy hC1 hC2 hs hx
              have HD : Hid ((x.st = 0 ∧ True) ∨ (x.st ≠ 0 ∧ x = s)) := by
                show _ ∨ _
                by_cases h0 : x.st = 0
                · exact .inl ⟨h0, trivial⟩
                · exact .inr ⟨h0, HEq.out h0⟩
              have hcond : (x.st = 0) ∨ (x.st ≠ 0 ∧ x = s) := by
                rcases HD.out with ⟨h, -⟩ | ⟨h, e⟩
                · exact .inl h
                · exact .inr ⟨h, e⟩
              clear HD
              rcases hcond with hc1 | ⟨hc1, hxs⟩
              · rw [hc1] at f1
                clear hc1 HEq
                go_wp2
                go_quiet (fail)
                clear f0 f1 f2 e0 e1 e2
                go_wp2
                obtain ⟨w9, hw9⟩ : ∃ w9, w9 = wq := ⟨_, rfl⟩
                go_loopg [71] i (fun gj jv wj => ∃ j : Nat, gj = i - j ∧ jv = .int .i64 j ∧ j ≤ i ∧ Below W8.heap.size W8 wj)
                case atStart => exact ⟨0, rfl, rfl, Nat.zero_le _, by rw [HW8.out]; exact below_drewN (Below.refl _ _) _⟩
                case round =>
                  obtain ⟨j, rfl, rfl, hj, hB4⟩ := hrel
                  have HBj := hide hB4
                  clear hB4 hw9
                  obtain ⟨wj, hwj⟩ : ∃ wj, wj = wr := ⟨_, rfl⟩
                  subst hwj
                  by_cases hlj : j < i
                  · have hlj' : (j : Int) < (i : Int) := by omega
                    obtain ⟨t, ht⟩ := sta_at (l := nowL (stM ms (k + 1))) (k := j) (by rw [nowL_len]; omega)
                    have hbj := HB8.out.trans (HBj.out.mono HB8.out.size)
                    obtain ⟨g3, o3, rfl, hg3, hC3⟩ := (HCY.out.keep hbj).at hlj
                    have ht' : ((nowL (stM ms (k + 1))).take i)[j]? = some t := by rw [List.getElem?_take, if_pos hlj]; exact ht
                    have v0 : wj.cell? ⟨g3, o3 + j * 3, none⟩ = some (.int .u64 t.tx) := hC3 j t ht' 0 _ rfl
                    have v1 : wj.cell? ⟨g3, o3 + j * 3 + 1, none⟩ = some (.int .i64 t.st) := hC3 j t ht' 1 _ rfl
                    have v2 : wj.cell? ⟨g3, o3 + j * 3 + 2, none⟩ = some (.int .u64 t.ts) := hC3 j t ht' 2 _ rfl
                    have s1 : ∀ o, (wj.alloc o).cell? ⟨wq.heap.size, 1, none⟩ = some (.int .i64 s.st) := fun o => HQ8.out _ (HBj.out.trans ((new_below wj o).mono HBj.out.size)) 1 _ rfl
                    have s2 : ∀ o, (wj.alloc o).cell? ⟨wq.heap.size, 2, none⟩ = some (.int .u64 s.ts) := fun o => HQ8.out _ (HBj.out.trans ((new_below wj o).mono HBj.out.size)) 2 _ rfl
                    have HAp : Hid (s.st = 1 → t.st = 1 → s.ts ≠ t.ts) := fun h1 h2 => now_apart HFe.out hlj HS.out ht h1 h2
                    have HNb := hide (fun o => HBj.out.trans ((new_below wj o).mono HBj.out.size))
                    clear ht ht' hC3 hbj
                    by_cases hs1 : s.st = 1
                    · by_cases ht1 : t.st = 1
                      · have hts := HAp.out hs1 ht1
                        have d5 : decide (s.ts = t.ts) = false := by simpa using hts
                        have d6 : (s.ts == t.ts) = false := by simpa using hts
                        rw [ht1] at v1
                        simp only [hs1] at s1
                        go_wp2
                        go_roundg (i - (j + 1))
                        case measure => omega
                        case rel => exact ⟨j + 1, rfl, by go_num, hlj, HNb.out _⟩
                      · have d5 : decide (t.st = 1) = false := by simpa using ht1
                        have d6 : (t.st == 1) = false := by simpa using ht1
                        simp only [hs1] at s1
                        go_wp2
                        go_roundg (i - (j + 1))
                        case measure => omega
                        case rel => exact ⟨j + 1, rfl, by go_num, hlj, HNb.out _⟩
                    · have d5 : decide (s.st = 1) = false := by simpa using hs1
                      have d6 : (s.st == 1) = false := by simpa using hs1
                      go_wp2
                      go_roundg (i - (j + 1))
                      case measure => omega
                      case rel => exact ⟨j + 1, rfl, by go_num, hlj, HNb.out _⟩
                  · obtain rfl : j = i := by omega
                    go_wp2
                    go_roundg (45 - (j + 1))
                    case measure => omega
                    case rel => exact ⟨j + 1, rfl, by go_num, hli, HBq.out.trans ((HB8.out.trans (HBj.out.mono HB8.out.size)).mono HBq.out.size)⟩
              · subst hxs
                have d1 : decide (x.st = 0) = false := by simpa using hc1
                have d2 : decide (x.st ≠ 0) = true := by simpa using hc1
                have d3 : (x.st == 0) = false := by simpa using hc1
                have d4 : (x.st != 0) = true := by simpa using hc1
                have hne : ∀ W, (binOp .neq 48 (.agg #[.int .u64 x.tx, .int .i64 x.st, .int .u64 x.ts]) (.agg #[.int .u64 x.tx, .int .i64 x.st, .int .u64 x.ts])).run Tryd.prog W = .ok (.bool false) W := fun W => by rw [neSt]; simp
                clear HEq
                go_wp2
                go_quiet (fail)
                clear f0 f1 f2 e0 e1 e2 hne d1 d2 d3 d4 hc1
                go_wp2
                obtain ⟨w9, hw9⟩ : ∃ w9, w9 = wq := ⟨_, rfl⟩
                go_loopg [71] i (fun gj jv wj => ∃ j : Nat, gj = i - j ∧ jv = .int .i64 j ∧ j ≤ i ∧ Below W8.heap.size W8 wj)
                case atStart => exact ⟨0, rfl, rfl, Nat.zero_le _, by rw [HW8.out]; exact below_drewN (Below.refl _ _) _⟩
                case round =>
                  obtain ⟨j, rfl, rfl, hj, hB4⟩ := hrel
                  have HBj := hide hB4
                  clear hB4 hw9
                  obtain ⟨wj, hwj⟩ : ∃ wj, wj = wr := ⟨_, rfl⟩
                  subst hwj
                  by_cases hlj : j < i
                  · have hlj' : (j : Int) < (i : Int) := by omega
                    obtain ⟨t, ht⟩ := sta_at (l := nowL (stM ms (k + 1))) (k := j) (by rw [nowL_len]; omega)
                    have hbj := HB8.out.trans (HBj.out.mono HB8.out.size)
                    obtain ⟨g3, o3, rfl, hg3, hC3⟩ := (HCY.out.keep hbj).at hlj
                    have ht' : ((nowL (stM ms (k + 1))).take i)[j]? = some t := by rw [List.getElem?_take, if_pos hlj]; exact ht
                    have v0 : wj.cell? ⟨g3, o3 + j * 3, none⟩ = some (.int .u64 t.tx) := hC3 j t ht' 0 _ rfl
                    have v1 : wj.cell? ⟨g3, o3 + j * 3 + 1, none⟩ = some (.int .i64 t.st) := hC3 j t ht' 1 _ rfl
                    have v2 : wj.cell? ⟨g3, o3 + j * 3 + 2, none⟩ = some (.int .u64 t.ts) := hC3 j t ht' 2 _ rfl
                    have s1 : ∀ o, (wj.alloc o).cell? ⟨wq.heap.size, 1, none⟩ = some (.int .i64 x.st) := fun o => HQ8.out _ (HBj.out.trans ((new_below wj o).mono HBj.out.size)) 1 _ rfl
                    have s2 : ∀ o, (wj.alloc o).cell? ⟨wq.heap.size, 2, none⟩ = some (.int .u64 x.ts) := fun o => HQ8.out _ (HBj.out.trans ((new_below wj o).mono HBj.out.size)) 2 _ rfl
                    have HAp : Hid (x.st = 1 → t.st = 1 → x.ts ≠ t.ts) := fun h1 h2 => now_apart HFe.out hlj HS.out ht h1 h2
                    have HNb := hide (fun o => HBj.out.trans ((new_below wj o).mono HBj.out.size))
                    clear ht ht' hC3 hbj
                    by_cases hs1 : x.st = 1
                    · by_cases ht1 : t.st = 1
                      · have hts := HAp.out hs1 ht1
                        have d5 : decide (x.ts = t.ts) = false := by simpa using hts
                        have d6 : (x.ts == t.ts) = false := by simpa using hts
                        rw [ht1] at v1
                        simp only [hs1] at s1
                        go_wp2
                        go_roundg (i - (j + 1))
                        case measure => omega
                        case rel => exact ⟨j + 1, rfl, by go_num, hlj, HNb.out _⟩
                      · have d5 : decide (t.st = 1) = false := by simpa using ht1
                        have d6 : (t.st == 1) = false := by simpa using ht1
                        simp only [hs1] at s1
                        go_wp2
                        go_roundg (i - (j + 1))
                        case measure => omega
                        case rel => exact ⟨j + 1, rfl, by go_num, hlj, HNb.out _⟩
                    · have d5 : decide (x.st = 1) = false := by simpa using hs1
                      have d6 : (x.st == 1) = false := by simpa using hs1
                      go_wp2
                      go_roundg (i - (j + 1))
                      case measure => omega
                      case rel => exact ⟨j + 1, rfl, by go_num, hlj, HNb.out _⟩
                  · obtain rfl : j = i := by omega
                    go_wp2
                    go_roundg (45 - (j + 1))
                    case measure => omega
                    case rel => exact ⟨j + 1, rfl, by go_num, hli, HBq.out.trans ((HB8.out.trans (HBj.out.mono HB8.out.size)).mono HBq.out.size)⟩
            · obtain rfl : i = 45 := by omega
              go_wp2
              go_roundg (n - (k + 1))
              case measure => omega
              case rel => exact ⟨k + 1, a2, sa, 45, sc, rfl, rfl, by go_num, hlt, (HI7.out.more (by omega)).keep HBq.out, HP7.out, HFa7.out.keep HBq.out, HSt.out.keep HBq.out, HB7.out.trans (HBq.out.mono HB7.out.size)⟩
        · obtain rfl : k = n := by omega
          go_wp2
          go_ret
          exact ⟨rfl, HB.out⟩
end Go.Proofs.YtcgiicmmfleinaaDoor
