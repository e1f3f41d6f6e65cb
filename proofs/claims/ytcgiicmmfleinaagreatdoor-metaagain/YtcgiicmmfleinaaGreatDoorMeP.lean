/- The law MetaDecides. Printed by part/gen_mep.py. -/
import Derived.Test.YtcgiicmmfleinaaGreatDoorMfL
import Derived.Test.YtcgiicmmfleinaaGreatDoorDrA
import Derived.Test.YtcgiicmmfleinaaGreatDoorTx
import Derived.Deep.QuietTactic
import Derived.BigQuiet
namespace Go.Proofs.YtcgiicmmfleinaaGreatDoor
open Go.RowKit NumMath Go.ChangeShapes Go.WideShapes Go.Deep
set_option linter.unusedVariables false
set_option maxRecDepth 100000

theorem MB.handed.keep {m : MB} {w w' : World} (h : m.handed w) (hb : Below w.heap.size w w') : m.handed w' := ⟨h.1.keep hb, h.2⟩

theorem MCmd.handed.keep {m : MCmd} {w w' : World} (h : m.handed w) (hb : Below w.heap.size w w') : m.handed w' :=
  ⟨h.cl, h.sq, h.kd, h.tx, h.ts, ⟨⟨h.lk.1.1.keep hb, h.lk.1.2⟩, h.lk.2⟩, h.lo.keep hb, h.hi.keep hb, h.txs.keep hb, h.txr, h.ws.keep hb, fun x hx => ⟨(h.wok x hx).1.keep hb, (h.wok x hx).2.keep hb⟩, h.ks.keep hb, fun x hx => (h.kok x hx).keep hb, ⟨h.tb.1.keep hb, h.tb.2⟩⟩

/-- a list of commands that a law is handed -/
def IsCmL (w : World) (a : Option Addr) (n c : Nat) (xs : List MCmd) : Prop := IsY layCm w a n c xs ∧ (∀ m ∈ xs, m.handed w) ∧ n * 320 ≤ 140737488355328

def allN (k : Nat) : List Int := (List.range k).map (fun (j : Nat) => (j : Int) + 1)

theorem allN_more (k : Nat) : allN (k + 1) = allN k ++ [(k : Int) + 1] := by
  unfold allN
  rw [List.range_succ, List.map_append]
  rfl

theorem allN_len (k : Nat) : (allN k).length = k := by simp [allN]

theorem allN_at {k i : Nat} (h : i < k) : (allN k)[i]? = some ((i : Int) + 1) := by
  unfold allN
  rw [List.getElem?_map, List.getElem?_range h]
  rfl

def nowL (S : Mac) : List Sta := (allN 45).map (staM S.ss)

theorem nowL_len (S : Mac) : (nowL S).length = 45 := by unfold nowL; rw [List.length_map, allN_len]

theorem nowL_at {S : Mac} {i : Nat} {s : Sta} (h : (nowL S)[i]? = some s) : s = staM S.ss ((i : Int) + 1) ∧ i < 45 := by
  have hi : i < 45 := by
    have := (List.getElem?_eq_some_iff.1 h).1
    rwa [nowL_len] at this
  unfold nowL at h
  rw [List.getElem?_map, allN_at hi] at h
  exact ⟨(Option.some.inj h).symm, hi⟩

/-- the machine behind the first k commands -/
def stM (ms : List MCmd) (k : Nat) : Mac := (ms.take k).foldl (fun S m => (doM S m.c).2) mac0

theorem stM_more {ms : List MCmd} {k : Nat} {m : MCmd} (h : ms[k]? = some m) : stM ms (k + 1) = (doM (stM ms k) m.c).2 := by
  unfold stM
  rw [List.take_add_one, h, List.foldl_append]
  rfl

theorem decI_all {ms : List MCmd} (hf : ∀ m ∈ ms, m.c.Few) : ∀ k, DecI (stM ms k)
  | 0 => by
    have e : stM ms 0 = mac0 := by unfold stM; rw [List.take_zero]; rfl
    rw [e]; exact decI_new
  | k + 1 => by
    cases hm : ms[k]? with
    | none =>
      have e : stM ms (k + 1) = stM ms k := by unfold stM; rw [List.take_add_one, hm]; simp
      rw [e]; exact decI_all hf k
    | some m =>
      rw [stM_more hm]
      exact (do_dec (decI_all hf k) (hf m (List.mem_of_getElem? hm))).1

/-- what was told ahead -/
def wasL (ms : List MCmd) : Nat → List Sta
  | 0 => List.replicate 45 ⟨0, 0, 0⟩
  | k + 1 => nowL (stM ms (k + 1))

theorem wasL_len (ms : List MCmd) (k : Nat) : (wasL ms k).length = 45 := by
  cases k with
  | zero => simp [wasL]
  | succ k => exact nowL_len _

theorem was_now {ms : List MCmd} (hf : ∀ m ∈ ms, m.c.Few) {k i : Nat} {m : MCmd} {x s : Sta} (hm : ms[k]? = some m) (hx : (wasL ms k)[i]? = some x) (hs : (nowL (stM ms (k + 1)))[i]? = some s) (hd : x.st ≠ 0) : x = s := by
  obtain ⟨es, hi⟩ := nowL_at hs
  cases k with
  | zero =>
    unfold wasL at hx
    rw [List.getElem?_replicate, if_pos hi] at hx
    cases hx
    exact absurd rfl hd
  | succ k =>
    obtain ⟨ex, -⟩ := nowL_at (show (nowL (stM ms (k + 1)))[i]? = some x from hx)
    rw [es, stM_more hm, ex]
    rw [ex] at hd
    exact ((do_dec (decI_all hf (k + 1)) (hf m (List.mem_of_getElem? hm))).2 _ (by omega) hd).symm

theorem now_apart {ms : List MCmd} (hf : ∀ m ∈ ms, m.c.Few) {k i j : Nat} {s t : Sta} (hij : j < i) (hs : (nowL (stM ms k))[i]? = some s) (ht : (nowL (stM ms k))[j]? = some t) (h1 : s.st = 1) (h2 : t.st = 1) : s.ts ≠ t.ts := by
  obtain ⟨es, -⟩ := nowL_at hs
  obtain ⟨et, -⟩ := nowL_at ht
  rw [es] at h1 ⊢
  rw [et] at h2 ⊢
  exact dec_apart (decI_all hf k) (by omega) (by omega) (by omega) h1 h2

theorem pdoP_any {F : Nat → Prop} {base : Nat} {a : Mm} {z : Nat} {S : Mac} {w : World} (h : IsMm F base w a z S) (m : MCmd) (p : Nat) (hp : a.p = p) (hc : Foot (fun k => a.X k ∨ F k) w (fun V => m.ok V)) (hf : m.c.Few) (hz : z ≤ 159) :
    Calls Tryz.prog 10 #[.pointer (some ⟨p, 0, none⟩), .agg #[.int .u64 m.cl, .int .u64 m.sq, .int .i64 m.kd, .int .u64 m.tx, .int .u64 m.ts, .bool m.fl, .int .u64 m.lk.l.tx, .int .i64 m.lk.l.lv, .int .i64 m.lk.l.md, .slice m.lk.la m.lk.ln m.lk.lc, .slice m.lk.ha m.lk.hn m.lk.hc, .slice m.lo.a m.lo.n m.lo.c, .slice m.hi.a m.hi.n m.hi.c, .slice m.txs.a m.txs.n m.txs.c, .slice m.ws.a m.ws.n m.ws.c, .slice m.ks.a m.ks.n m.ks.c, .int .i64 m.tb.id, .string (strB m.tb.nm), .slice m.tb.cs.a m.tb.cs.n m.tb.cs.c, .int .i64 m.tb.ky, .slice m.tb.ix.a m.tb.ix.n m.tb.ix.c]] w (RsPost F base w a (z + 2) (doM S m.c)) := by
  subst hp
  exact pdo_any h m hc hf hz

/-- a question for all of them -/
def cmS (a : Option Addr) (n c : Nat) : MCmd := { cmK 3 with txs := ⟨a, n, c, allN 45⟩ }

theorem cmS_few (a : Option Addr) (n c : Nat) : (cmS a n c).c.Few :=
  ⟨u64_zero, u64_zero, u64_zero, fun x hx => by
    have hx : x ∈ allN 45 := hx
    unfold allN at hx
    obtain ⟨j, hj, rfl⟩ := List.mem_map.1 hx
    have := List.mem_range.1 hj
    exact ⟨by omega, by omega⟩, by show (allN 45).length ≤ 1000; rw [allN_len]; omega, by simp [cmS, cmK, MCmd.c], by simp [cmS, cmK, MCmd.c], by simp [cmS, cmK, MCmd.c, MTb.t], by simp [cmS, cmK, MCmd.c, MTb.t]⟩

theorem pdoS_any {F : Nat → Prop} {base : Nat} {a : Mm} {z : Nat} {S : Mac} {w : World} (h : IsMm F base w a z S) (ta : Option Addr) (n c : Nat) (p : Nat) (hp : a.p = p) (ht : Foot (fun k => a.X k ∨ F k) w (fun V => IsY layU V ta n c (allN 45))) (hz : z ≤ 159) :
    Calls Tryz.prog 10 #[.pointer (some ⟨p, 0, none⟩), .agg #[.int .u64 0, .int .u64 0, .int .i64 3, .int .u64 0, .int .u64 0, .bool false, .int .u64 0, .int .i64 0, .int .i64 0, .slice none 0 0, .slice none 0 0, .slice none 0 0, .slice none 0 0, .slice ta n c, .slice none 0 0, .slice none 0 0, .int .i64 0, .string ⟨#[]⟩, .slice none 0 0, .int .i64 0, .slice none 0 0]] w (RsPost F base w a (z + 2) ({ res0 with ss := nowL S }, S)) := by
  subst hp
  exact pdo_any h (cmS ta n c) (ht.imp (fun V hV => ⟨⟨isBn V, isBn V⟩, isBn V, isBn V, hV, isY_nil V, by simp [cmS, cmK], isY_nil V, by simp [cmS, cmK], ⟨isY_nil V, isY_nil V⟩⟩)) (cmS_few ta n c) hz

theorem sta_at {l : List Sta} {k : Nat} (h : k < l.length) : ∃ x, l[k]? = some x := ⟨_, List.getElem?_eq_getElem h⟩