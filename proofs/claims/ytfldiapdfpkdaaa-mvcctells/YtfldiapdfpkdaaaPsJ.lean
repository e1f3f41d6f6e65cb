/- The program's store: which cells are wanted: anyCell, intentOf. -/
import Derived.Test.YtfldiapdfpkdaaaQw1
import Derived.Lib.ConvBytes
namespace Go.Proofs.Ytfldiapdfpkdaaa
open Go.RowKit NumMath Go.ChangeShapes Go.WideShapes Go.Deep
set_option linter.unusedVariables false
set_option maxRecDepth 100000

theorem anyCell_any (s b : Value) (w : World) :
    Calls Try.prog 44 #[s, b] w fun e w' => e = .returned (.bool true) ∧ Below w.heap.size w w' := by
  go_enter Try.func44, Try.ntmps44
  go_wp2
  go_ret
  exact ⟨rfl, Below.refl _ _⟩

theorem intentOf_any (txn : Int) (w : World) :
    Calls Try.prog 43 #[.int .u64 txn] w fun e w' => e = .returned (.func (.func 59) #[] #[.pointer (some ⟨w.heap.size, 0, none⟩)]) ∧ w' = w.alloc (.cells #[.int .u64 txn] 24) := by
  have hmf : ∀ (fn : Fn) (first cap : Array Value) (w : World), (Instr.makeFunc fn first cap).run Try.prog w = .ok (.func fn first cap) w := fun _ _ _ _ => rfl
  go_enter Try.func43, Try.ntmps43
  go_wp2
  go_ret
  exact ⟨rfl, rfl⟩

set_option maxHeartbeats 1000000 in
theorem intentOf1_any (base : Nat) (w : World) (m : PC) (h : m.is base w) (s : Value) (txn : Int) (B : Nat) (hB : w.cell? ⟨B, 0, none⟩ = some (.int .u64 txn)) :
    Calls Try.prog 59 #[s, .pointer (some ⟨m.b, 0, none⟩), .pointer (some ⟨B, 0, none⟩)] w fun e w' => e = .returned (.bool (m.it.v.tx != 0 && m.it.v.tx == txn)) ∧ Below w.heap.size w w' := by
  have HI : Hid (∀ nd, Calls Try.prog 35 #[.pointer (some ⟨m.b, 0, none⟩)] (w.drewN nd) fun e w' => e = .returned (.bool (m.it.v.tx != 0)) ∧ w' = w.drewN nd) := fun nd => pintended_any base (w.drewN nd) m (h.keep (below_drewN (Below.refl _ w) nd))
  have c2 := h.x.2.2.1
  clear h
  obtain ⟨z, hz⟩ : ∃ z : Bool, (m.it.v.tx != 0) = z := ⟨_, rfl⟩
  rw [hz] at HI ⊢
  clear hz
  generalize m.b = mb at *
  cases z
  · go_enter Try.func59, Try.ntmps59
    go_wp2
    go_quiet (first
      | (go_at_call 35; refine Calls.quiet_of_same (HI.out _)))
    go_wp2
    go_ret
    exact ⟨rfl, below_drewN (Below.refl _ _) _⟩
  · go_enter Try.func59, Try.ntmps59
    go_wp2
    go_quiet (first
      | (go_at_call 35; refine Calls.quiet_of_same (HI.out _)))
    go_wp2
    go_ret
    exact ⟨rfl, below_drewN (Below.refl _ _) _⟩

/-- the order of bytes -/
theorem lt_bytes : ∀ (x y : List UInt8), lessL (nb x) (nb y) = true → x < y := by
  intro x
  induction x with
  | nil =>
    intro y h
    cases y with
    | nil => simp [nb, lessL] at h
    | cons b t => exact List.nil_lt_cons _ _
  | cons a r ih =>
    intro y h
    cases y with
    | nil => simp [nb, lessL] at h
    | cons b t =>
      simp only [nb, List.map_cons, lessL, Bool.or_eq_true, decide_eq_true_eq, Bool.and_eq_true] at h
      rw [List.cons_lt_cons_iff]
      rcases h with h | ⟨h1, h2⟩
      · left
        rw [UInt8.lt_iff_toNat_lt]
        omega
      · right
        exact ⟨UInt8.toNat_inj.1 (by omega), ih t h2⟩

/-- lists without twins and with the same things in them, put in order -/
theorem sort_same (ss ks : List (List UInt8)) (h1 : ss.Nodup) (h2 : ks.Pairwise (fun a b => a < b)) (h : ∀ x, x ∈ ss ↔ x ∈ ks) : ss.mergeSort leB = ks := by
  have hn : ks.Nodup := h2.imp (fun {a b} hab e => by subst e; exact List.lt_irrefl _ hab)
  have hp : ss.Perm ks := (List.perm_ext_iff_of_nodup h1 hn).2 h
  have tr : ∀ a b c : List UInt8, leB a b = true → leB b c = true → leB a c = true := fun a b c h1 h2 => by simp only [leB, decide_eq_true_eq] at *; exact List.le_trans h1 h2
  have tot : ∀ a b : List UInt8, (leB a b || leB b a) = true := fun a b => by simp only [leB, Bool.or_eq_true, decide_eq_true_eq]; exact List.le_total a b
  refine List.Perm.eq_of_pairwise (le := fun a b => leB a b = true) (fun a b _ _ h1 h2 => ?_) (List.pairwise_mergeSort tr tot ss) (h2.imp (fun {a b} hab => by simp only [leB, decide_eq_true_eq]; exact List.le_of_lt hab)) ((List.mergeSort_perm ss leB).trans hp)
  simp only [leB, decide_eq_true_eq] at h1 h2
  exact List.le_antisymm h1 h2

/-- the keys of the wanted cells -/
def keysP (Pd : PC → Bool) (cs : List PC) : List (List UInt8) := (cs.filter Pd).map (fun m => kb m.key)

theorem keysP_sort {cs : List PC} {z : Nat} (hs : SortC (cs.map PC.c)) (hg : ∀ m ∈ cs, m.good z) (Pd : PC → Bool) : (keysP Pd cs).Pairwise (fun a b => a < b) := by
  unfold keysP
  rw [List.pairwise_map]
  unfold SortC at hs
  rw [List.pairwise_map] at hs
  refine (hs.sublist List.filter_sublist).imp_of_mem (fun {a b} ha hb h => ?_)
  have ha' := (hg a (List.mem_filter.1 ha).1).key
  have hb' := (hg b (List.mem_filter.1 hb).1).key
  apply lt_bytes
  rw [nb_kb ha', nb_kb hb']
  exact h

end Go.Proofs.Ytfldiapdfpkdaaa
