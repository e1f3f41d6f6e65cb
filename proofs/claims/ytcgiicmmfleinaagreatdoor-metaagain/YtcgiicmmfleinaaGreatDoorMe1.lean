/- The machine of numbers, decisions, locks and tables as plain values: what a command makes of it; what holds of it all along. -/
import Derived.Test.YtcgiicmmfleinaaGreatDoorCmA
import Derived.Test.YtcgiicmmfleinaaGreatDoorMpV
namespace Go.Proofs.YtcgiicmmfleinaaGreatDoor
open NumMath
set_option linter.unusedVariables false

/-- what became of a transaction -/
structure Sta where
  tx : Int
  st : Int
  ts : Int
deriving DecidableEq

def sta0 (n : Int) : Sta := ⟨n, 0, 0⟩

/-- what a command comes to -/
structure Res where
  er : Int
  tx : Int
  ts : Int
  fl : Bool
  ss : List Sta
  tbs : List Tbl
deriving DecidableEq

def res0 : Res := ⟨0, 0, 0, false, [], []⟩
def errR (e : Int) : Res := ⟨e, 0, 0, false, [], []⟩

structure Mac where
  ck : Int
  ss : List Sta
  tab : Tab
  tbs : List Tbl
  la : Int → Option (Int × Res)

def mac0 : Mac := ⟨0, [], ⟨[], []⟩, [], fun _ => none⟩

def hasM (ss : List Sta) (n : Int) : Bool := n != 0 && decide (n ≤ (ss.length : Int))
def staM (ss : List Sta) (n : Int) : Sta := if hasM ss n = true then ss.getD (n.toNat - 1) (sta0 n) else sta0 n
def openM (ss : List Sta) (n : Int) : Bool := hasM ss n && (staM ss n).st == 0

/-- what becomes of a transaction that is open -/
def settleM (S : Mac) (n : Int) (fl : Bool) : Mac :=
  if fl = true then { S with ck := S.ck + 1, ss := S.ss.set (n.toNat - 1) ⟨(staM S.ss n).tx, 1, S.ck + 1⟩ }
  else { S with ss := S.ss.set (n.toNat - 1) ⟨(staM S.ss n).tx, 2, (staM S.ss n).ts⟩ }

def decideM (S : Mac) (n : Int) (fl : Bool) : Mac := if openM S.ss n = true then settleM S n fl else S

/-- whether names are alike, and whether one is none -/
def eqN (a b : List Int) : Bool := (strB a).toList == (strB b).toList
def noN (a : List Int) : Bool := (strB a).toList.isEmpty

/-- which columns a table may have -/
def colsB (l : List Colm) : Bool := !l.isEmpty && decide (l.length ≤ 12) && (List.range l.length).all (fun i => match l[i]? with
  | some c => !(noN c.n || (l.take i).any (fun x => eqN x.n c.n) || (c.k != 1 && c.k != 2))
  | none => true)

def placeB (k : Int) (l : List Colm) : Bool := decide (0 ≤ k) && decide (k < (l.length : Int))

def ixsB (l : List Int) (cs : List Colm) : Bool := decide (l.length ≤ 4) && (List.range l.length).all (fun i => match l[i]? with
  | some k => !(!placeB k cs || (l.take i).any (fun x => x == k))
  | none => true)

def mayB (t : Tbl) : Bool := !noN t.nm && colsB t.cs && placeB t.ky t.cs && ixsB t.ix t.cs

def namedB (l : List Tbl) (nm : List Int) : Bool := l.any (fun t => eqN t.nm nm)

def takesB (l : List Tbl) (t : Tbl) : Bool := mayB t && !namedB l t.nm && decide (l.length < 40)

/-- a table as it is kept -/
def keptT (n : Nat) (t : Tbl) : Tbl := { t with id := (n : Int) + 1, cs := t.cs.modify t.ky.toNat (fun c => { c with nn := true }) }

def tableM (S : Mac) (t : Tbl) : Res × Mac :=
  if takesB S.tbs t = true then ({ res0 with tbs := [keptT S.tbs.length t] }, { S with tbs := S.tbs ++ [keptT S.tbs.length t] }) else (errR 151, S)

def oneM (S : Mac) (c : Cmd) : Res × Mac :=
  if c.kd = 1 then (⟨0, (S.ss.length : Int) + 1, S.ck, false, [], []⟩, { S with ss := S.ss ++ [sta0 ((S.ss.length : Int) + 1)] })
  else if c.kd = 2 then (if hasM S.ss c.tx = true then ({ res0 with ss := [staM (decideM S c.tx c.fl).ss c.tx] }, decideM S c.tx c.fl) else (errR 150, S))
  else if c.kd = 3 then ({ res0 with ss := c.txs.map (staM S.ss) }, S)
  else if c.kd = 4 then (if openM S.ss c.tx = true then (⟨(askL S.tab { c.lk with tx := c.tx }).2.2, 0, 0, (askL S.tab { c.lk with tx := c.tx }).2.1, [], []⟩, { S with tab := (askL S.tab { c.lk with tx := c.tx }).1 }) else (errR 150, S))
  else if c.kd = 5 then (res0, { S with tab := (freeL S.tab c.tx).1 })
  else if c.kd = 6 then tableM S c.tb
  else if c.kd = 7 then ({ res0 with tbs := S.tbs }, S)
  else (errR 1, S)

/-- a client's last answer -/
def noteM (c : Cmd) (x : Res × Mac) : Res × Mac := (x.1, { x.2 with la := fun k => if k = c.cl then some (c.sq, x.1) else x.2.la k })

def doM (S : Mac) (c : Cmd) : Res × Mac :=
  if c.cl = 0 then oneM S c
  else match S.la c.cl with
    | none => noteM c (oneM S c)
    | some x => if x.1 = c.sq then (x.2, S) else if c.sq < x.1 then (errR 1, S) else noteM c (oneM S c)

/-- few parts -/
structure Res.Few (r : Res) : Prop where
  ss : r.ss.length ≤ 1000
  tbs : r.tbs.length ≤ 1000
  tl : ∀ t ∈ r.tbs, t.cs.length ≤ 20 ∧ t.ix.length ≤ 20

structure Cmd.Few (c : Cmd) : Prop where
  cl : U64 c.cl
  sq : U64 c.sq
  tx : U64 c.tx
  txu : ∀ n ∈ c.txs, U64 n
  txs : c.txs.length ≤ 1000
  lo : c.lk.lo.length ≤ 200
  hi : c.lk.hi.length ≤ 200
  cs : c.tb.cs.length ≤ 20
  ix : c.tb.ix.length ≤ 20

/-- what holds of a machine all along, behind z commands at the most -/
structure MacI (z : Nat) (S : Mac) : Prop where
  ti : TabI S.tab
  tu : ∀ x ∈ S.tab.held ++ S.tab.wait, U64 x.tx ∧ x.lo.length ≤ 200 ∧ x.hi.length ≤ 200
  nh : S.tab.held.length ≤ z
  nw : S.tab.wait.length ≤ z
  ns : S.ss.length ≤ z
  nx : ∀ (i : Nat) (s : Sta), S.ss[i]? = some s → s.tx = (i : Int) + 1
  ck : 0 ≤ S.ck ∧ S.ck ≤ (z : Int)
  nt : S.tbs.length ≤ z
  nt40 : S.tbs.length ≤ 40
  tl : ∀ t ∈ S.tbs, t.cs.length ≤ 20 ∧ t.ix.length ≤ 20
  fr : ∀ c x, S.la c = some x → x.2.Few ∧ U64 x.1

theorem macI_new : MacI 0 mac0 := ⟨tabI_new, by simp [mac0], by simp [mac0], by simp [mac0], by simp [mac0], by simp [mac0], by simp [mac0], by simp [mac0], by simp [mac0], by simp [mac0], by simp [mac0]⟩

theorem MacI.mono {z y : Nat} {S : Mac} (h : MacI z S) (hz : z ≤ y) : MacI y S :=
  ⟨h.ti, h.tu, Nat.le_trans h.nh hz, Nat.le_trans h.nw hz, Nat.le_trans h.ns hz, h.nx, ⟨h.ck.1, by have := h.ck.2; omega⟩, Nat.le_trans h.nt hz, h.nt40, h.tl, h.fr⟩

theorem has_at {ss : List Sta} {n : Int} (h0 : 0 ≤ n) (h : hasM ss n = true) : ∃ m : Nat, n = (m : Int) + 1 ∧ m < ss.length ∧ ∃ s, ss[m]? = some s ∧ staM ss n = s := by
  have h' := h
  unfold hasM at h
  simp only [Bool.and_eq_true, bne_iff_ne, decide_eq_true_eq] at h
  refine ⟨n.toNat - 1, by omega, by omega, ss[n.toNat - 1]'(by omega), List.getElem?_eq_getElem (by omega), ?_⟩
  unfold staM
  rw [if_pos h', List.getD_eq_getElem?_getD, List.getElem?_eq_getElem (by omega)]
  rfl

theorem has_no {ss : List Sta} {n : Int} (h : hasM ss n = false) : staM ss n = sta0 n := by
  unfold staM
  rw [if_neg (by rw [h]; simp)]

theorem set_tx {z : Nat} {S : Mac} (h : MacI z S) {n : Int} (h0 : 0 ≤ n) (hh : hasM S.ss n = true) (t : Sta) (ht : t.tx = (staM S.ss n).tx) : ∀ (i : Nat) (s : Sta), (S.ss.set (n.toNat - 1) t)[i]? = some s → s.tx = (i : Int) + 1 := by
  intro i s hs
  obtain ⟨m, rfl, hm, s0, hs0, e⟩ := has_at h0 hh
  rw [List.getElem?_set] at hs
  split at hs
  · rename_i he
    split at hs
    · cases hs
      rw [ht, e, h.nx m s0 hs0]
      omega
    · cases hs
  · exact h.nx i s hs

theorem MacI.settle {z : Nat} {S : Mac} (h : MacI z S) {n : Int} (h0 : 0 ≤ n) (hh : hasM S.ss n = true) (fl : Bool) : MacI (z + 1) (settleM S n fl) := by
  have a1 := h.nh
  have a2 := h.nw
  have a3 := h.ns
  have a4 := h.nt
  have a5 := h.ck
  unfold settleM
  cases fl
  · rw [if_neg (by simp)]
    exact ⟨h.ti, h.tu, Nat.le_succ_of_le h.nh, Nat.le_succ_of_le h.nw, by show (List.set ..).length ≤ _; rw [List.length_set]; omega, set_tx h h0 hh _ rfl, ⟨h.ck.1, by show S.ck ≤ _; omega⟩, Nat.le_succ_of_le h.nt, h.nt40, h.tl, h.fr⟩
  · rw [if_pos rfl]
    exact ⟨h.ti, h.tu, Nat.le_succ_of_le h.nh, Nat.le_succ_of_le h.nw, by show (List.set ..).length ≤ _; rw [List.length_set]; omega, set_tx h h0 hh _ rfl, ⟨by show 0 ≤ S.ck + 1; omega, by show S.ck + 1 ≤ _; omega⟩, Nat.le_succ_of_le h.nt, h.nt40, h.tl, h.fr⟩

theorem open_has {ss : List Sta} {n : Int} (h : openM ss n = true) : hasM ss n = true := by
  unfold openM at h
  rw [Bool.and_eq_true] at h
  exact h.1

theorem MacI.decided {z : Nat} {S : Mac} (h : MacI z S) {n : Int} (h0 : 0 ≤ n) (fl : Bool) : MacI (z + 1) (decideM S n fl) := by
  unfold decideM
  split
  · rename_i e; exact h.settle h0 (open_has e) fl
  · exact h.mono (Nat.le_succ _)

theorem keptT_len (n : Nat) (t : Tbl) : (keptT n t).cs.length = t.cs.length := by
  unfold keptT
  simp

theorem MacI.table {z : Nat} {S : Mac} (h : MacI z S) {t : Tbl} (h1 : t.cs.length ≤ 20) (h2 : t.ix.length ≤ 20) : MacI (z + 1) (tableM S t).2 ∧ (tableM S t).1.Few := by
  unfold tableM
  split
  · rename_i ht
    unfold takesB at ht
    simp only [Bool.and_eq_true, decide_eq_true_eq] at ht
    have a4 := h.nt
    refine ⟨⟨h.ti, h.tu, Nat.le_succ_of_le h.nh, Nat.le_succ_of_le h.nw, Nat.le_succ_of_le h.ns, h.nx, ⟨h.ck.1, by have := h.ck.2; show S.ck ≤ _; omega⟩, by show (S.tbs ++ _).length ≤ _; simp; omega, by show (S.tbs ++ _).length ≤ _; have := ht.2; simp; omega, ?_, h.fr⟩, ⟨by simp [res0], by simp, ?_⟩⟩
    · intro u hu
      rcases List.mem_append.1 hu with hu | hu
      · exact h.tl u hu
      · rw [List.mem_singleton.1 hu]
        exact ⟨by rw [keptT_len]; exact h1, h2⟩
    · intro u hu
      have hu : u ∈ [keptT S.tbs.length t] := hu
      rw [List.mem_singleton.1 hu]
      exact ⟨by rw [keptT_len]; exact h1, h2⟩
  · exact ⟨h.mono (Nat.le_succ _), ⟨by simp [errR], by simp [errR], by simp [errR]⟩⟩

theorem few_err (e : Int) : (errR e).Few := ⟨by simp [errR], by simp [errR], by simp [errR]⟩

theorem ask_memM {t : Tab} {x y : Lck} (h : y ∈ (askL t x).1.held ++ (askL t x).1.wait) : y ∈ t.held ++ t.wait ∨ y = x := by
  unfold askL at h
  split at h
  · exact .inl h
  · split at h
    · exact .inl h
    · dsimp only at h
      have lv : ∀ {L : List Lck} {b : Lck}, y ∈ leaveL L x.tx b → y ∈ L := fun hy => (mem_leave.1 hy).1
      have qv : ∀ {L : List Lck}, y ∈ queuedL L x → y ∈ L ∨ y = x := fun {L} hy => by
        unfold queuedL at hy
        split at hy
        · exact .inl hy
        · rcases List.mem_append.1 hy with hy | hy
          · exact .inl hy
          · exact .inr (List.mem_singleton.1 hy)
      split at h
      · split at h
        · rcases List.mem_append.1 h with h | h
          · exact .inl (List.mem_append_left _ h)
          · exact .inl (List.mem_append_right _ (lv (lv h)))
        · rcases List.mem_append.1 h with h | h
          · rcases List.mem_append.1 h with h | h
            · exact .inl (List.mem_append_left _ h)
            · exact .inr (List.mem_singleton.1 h)
          · exact .inl (List.mem_append_right _ (lv (lv h)))
      · split at h
        · rcases List.mem_append.1 h with h | h
          · exact .inl (List.mem_append_left _ h)
          · rcases qv h with h | h
            · exact .inl (List.mem_append_right _ (lv h))
            · exact .inr h
        · rcases List.mem_append.1 h with h | h
          · exact .inl (List.mem_append_left _ h)
          · rcases qv (lv h) with h | h
            · exact .inl (List.mem_append_right _ (lv h))
            · exact .inr h

theorem leave_lenM (L : List Lck) (tx : Int) (b : Lck) : (leaveL L tx b).length ≤ L.length := List.length_filter_le _ _

theorem queued_lenM (L : List Lck) (x : Lck) : (queuedL L x).length ≤ L.length + 1 := by
  unfold queuedL
  split
  · omega
  · simp

theorem ask_lenM (t : Tab) (x : Lck) : (askL t x).1.held.length ≤ t.held.length + 1 ∧ (askL t x).1.wait.length ≤ t.wait.length + 1 := by
  have a1 := leave_lenM t.wait x.tx x
  have a2 := leave_lenM (leaveL t.wait x.tx x) x.tx lck0
  have a3 := queued_lenM (leaveL t.wait x.tx x) x
  have a4 := leave_lenM (queuedL (leaveL t.wait x.tx x) x) x.tx lck0
  unfold askL
  split
  · exact ⟨Nat.le_succ _, Nat.le_succ _⟩
  · split
    · exact ⟨Nat.le_succ _, Nat.le_succ _⟩
    · dsimp only
      split
      · split
        · exact ⟨by dsimp only; omega, by dsimp only; omega⟩
        · exact ⟨by dsimp only; simp, by dsimp only; omega⟩
      · split
        · exact ⟨by dsimp only; omega, by dsimp only; omega⟩
        · exact ⟨by dsimp only; omega, by dsimp only; omega⟩

theorem MacI.asked {z : Nat} {S : Mac} (h : MacI z S) {x : Lck} (hu : U64 x.tx) (h1 : x.lo.length ≤ 200) (h2 : x.hi.length ≤ 200) : MacI (z + 1) { S with tab := (askL S.tab x).1 } := by
  have a1 := h.nh
  have a2 := h.nw
  have a3 := ask_lenM S.tab x
  refine ⟨h.ti.ask x, fun y hy => ?_, by show (askL S.tab x).1.held.length ≤ _; omega, by show (askL S.tab x).1.wait.length ≤ _; omega, Nat.le_succ_of_le h.ns, h.nx, ⟨h.ck.1, by have := h.ck.2; show S.ck ≤ _; omega⟩, Nat.le_succ_of_le h.nt, h.nt40, h.tl, h.fr⟩
  rcases ask_memM hy with hy | hy
  · exact h.tu y hy
  · subst hy
    exact ⟨hu, h1, h2⟩

theorem MacI.freed {z : Nat} {S : Mac} (h : MacI z S) (tx : Int) : MacI z { S with tab := (freeL S.tab tx).1 } := by
  refine ⟨h.ti.free tx, fun y hy => h.tu y ?_, Nat.le_trans (List.length_filter_le _ _) h.nh, Nat.le_trans (leave_lenM _ _ _) h.nw, h.ns, h.nx, h.ck, h.nt, h.nt40, h.tl, h.fr⟩
  rcases List.mem_append.1 hy with hy | hy
  · exact List.mem_append_left _ (List.mem_filter.1 hy).1
  · exact List.mem_append_right _ (mem_leave.1 hy).1

theorem MacI.begun {z : Nat} {S : Mac} (h : MacI z S) : MacI (z + 1) { S with ss := S.ss ++ [sta0 ((S.ss.length : Int) + 1)] } := by
  refine ⟨h.ti, h.tu, Nat.le_succ_of_le h.nh, Nat.le_succ_of_le h.nw, by have := h.ns; show (S.ss ++ _).length ≤ _; simp; omega, ?_, ⟨h.ck.1, by have := h.ck.2; show S.ck ≤ _; omega⟩, Nat.le_succ_of_le h.nt, h.nt40, h.tl, h.fr⟩
  intro i s hs
  have hs : (S.ss ++ [sta0 ((S.ss.length : Int) + 1)])[i]? = some s := hs
  rw [List.getElem?_append] at hs
  split at hs
  · exact h.nx i s hs
  · rename_i hi
    rw [List.getElem?_singleton] at hs
    split at hs
    · cases hs
      show (S.ss.length : Int) + 1 = _
      omega
    · cases hs

theorem MacI.one {z : Nat} {S : Mac} (h : MacI z S) {c : Cmd} (hc : c.Few) : MacI (z + 1) (oneM S c).2 ∧ (oneM S c).1.Few := by
  unfold oneM
  split
  · exact ⟨h.begun, ⟨by simp, by simp, by simp⟩⟩
  · split
    · split
      · exact ⟨h.decided hc.tx.1 _, ⟨by simp, by simp [res0], by simp [res0]⟩⟩
      · exact ⟨h.mono (Nat.le_succ _), few_err _⟩
    · split
      · exact ⟨h.mono (Nat.le_succ _), ⟨by simpa [res0] using hc.txs, by simp [res0], by simp [res0]⟩⟩
      · split
        · split
          · exact ⟨h.asked (x := { c.lk with tx := c.tx }) hc.tx hc.lo hc.hi, ⟨by simp, by simp, by simp⟩⟩
          · exact ⟨h.mono (Nat.le_succ _), few_err _⟩
        · split
          · exact ⟨(h.freed c.tx).mono (Nat.le_succ _), few_err 0⟩
          · split
            · exact h.table hc.cs hc.ix
            · split
              · exact ⟨h.mono (Nat.le_succ _), ⟨by simp [res0], by show S.tbs.length ≤ _; have := h.nt40; omega, h.tl⟩⟩
              · exact ⟨h.mono (Nat.le_succ _), few_err _⟩

theorem MacI.noted {z : Nat} {c : Cmd} {x : Res × Mac} (h : MacI z x.2) (hf : x.1.Few) (hu : U64 c.sq) : MacI z (noteM c x).2 ∧ (noteM c x).1.Few := by
  refine ⟨⟨h.ti, h.tu, h.nh, h.nw, h.ns, h.nx, h.ck, h.nt, h.nt40, h.tl, ?_⟩, hf⟩
  intro k y hy
  have hy : (if k = c.cl then some (c.sq, x.1) else x.2.la k) = some y := hy
  split at hy
  · cases hy; exact ⟨hf, hu⟩
  · exact h.fr k y hy

theorem MacI.done {z : Nat} {S : Mac} (h : MacI z S) {c : Cmd} (hc : c.Few) : MacI (z + 1) (doM S c).2 ∧ (doM S c).1.Few := by
  have h1 := h.one hc
  unfold doM
  split
  · exact h1
  · split
    · exact h1.1.noted h1.2 hc.sq
    · rename_i x hx
      split
      · exact ⟨h.mono (Nat.le_succ _), (h.fr _ x hx).1⟩
      · split
        · exact ⟨h.mono (Nat.le_succ _), few_err _⟩
        · exact h1.1.noted h1.2 hc.sq

end Go.Proofs.YtcgiicmmfleinaaGreatDoor
