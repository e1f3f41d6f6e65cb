/- Bytes in memory: a slice of them that lies anywhere, one that the call owns, what append does to it, its string; what a call leaves as it was. Bytes in memory, cut by indexes; cloned; made. A struct in memory with one slice: its blocks; what a call leaves that changes these alone; two such structs side by side. A region that draws its order, walked by hand: one row an operation; what stood is kept, and more is kept behind each call. -/
import Derived.Test.YtcgiicmmfleinaaGreatDoorRows
import Derived.WalkKit
import Derived.WalkSpells
import Derived.WalkLawsBesides
import Derived.Below
import Derived.Handy
import Derived.ProofKit
import Derived.OpenShut
import Derived.ShutString
import Derived.ChangeOld
import Derived.Deep.Slices
import Derived.Deep.Strs
import Derived.Deep.AppendLies
import Derived.Laws.OwnMore
import Derived.Lib.SliceRun
import Derived.Lib.ConvBytes
import Derived.Lib.SlBytesConst
import Derived.Test.YtcgiicmmfleinaaGreatDoorNmA
import Derived.Laws.MakeOwn
import Derived.Laws.Slices
import Derived.Deep.RegionHeld
namespace Go.Proofs.YtcgiicmmfleinaaGreatDoor
open Go.RowKit NumMath Go.ChangeShapes Go.WideShapes Go.Deep
set_option linter.unusedVariables false

theorem hide {p : Prop} (h : p) : Hid p := h

theorem below_undrew {w w1 : World} (h : Below w.drew.heap.size w.drew w1) : Below w.heap.size w w1 := ⟨h.os, h.tape, h.output, h.size, h.block⟩

/-- block g holds the bytes xs, from its head on -/
def Bytes (w : World) (g : Nat) (xs : List Int) : Prop := ∀ i, i < xs.length → w.cell? ⟨g, i, none⟩ = some (.int .u8 (xs.getD i 0))

theorem Bytes.below {w w' : World} {B g : Nat} {xs : List Int} (h : Bytes w g xs) (hb : Below B w w') (hg : g < B) : Bytes w' g xs :=
  fun i hi => by rw [hb.cell (p := ⟨g, i, none⟩) hg]; exact h i hi

theorem conv_bytes (W : World) (g n c : Nat) (xs : List Int) (hn : xs.length = n) (h : Bytes W g xs) :
    (convert 39 9 (.slice (some ⟨g, 0, none⟩) n c)).run Tryz.prog W = .ok (.string (strB xs)) W :=
  run_convert_bytes_arg W 39 5 Tryz.underlying39 Tryz.underlying5 g 0 n c xs hn (fun i hi => by rw [Nat.zero_add]; exact h i (by omega)) 9 Tryz.underlying9

/-- in the world w the slice v holds the bytes xs -/
def HoldsB (w : World) (v : Value) (xs : List Int) : Prop :=
  (v = .slice none 0 0 ∧ xs = []) ∨ ∃ g n cap, v = .slice (some ⟨g, 0, none⟩) n cap ∧ xs.length = n ∧ n ≤ cap ∧ cap ≤ maxLen ∧ g < w.heap.size ∧ Bytes w g xs

theorem HoldsB.keep {w w' : World} {v : Value} {xs : List Int} (h : HoldsB w v xs) (hb : Below w.heap.size w w') : HoldsB w' v xs := by
  rcases h with h | ⟨g, n, cap, hv, hl, hc, hm, hg, hB⟩
  · exact .inl h
  · exact .inr ⟨g, n, cap, hv, hl, hc, hm, Nat.lt_of_lt_of_le hg hb.size, hB.below hb hg⟩

theorem HoldsB.conv {w : World} {v : Value} {xs : List Int} (h : HoldsB w v xs) : (convert 39 9 v).run Tryz.prog w = .ok (.string (strB xs)) w := by
  rcases h with ⟨rfl, rfl⟩ | ⟨g, n, cap, rfl, hl, hc, hm, hg, hB⟩
  · exact run_convert_bytes_nil w 39 5 Tryz.underlying39 Tryz.underlying5 0 0 9 Tryz.underlying9
  · exact conv_bytes w g n cap xs hl hB

theorem bytes_of_owns {w : World} {B g n cap : Nat} {xs : List Int} (h : w.ownsRow B 5 1 (.slice (some ⟨g, 0, none⟩) n cap) n (xs.map (Value.int .u8))) : Bytes w g xs := by
  intro i hi
  have h1 := h.cells (g := g) rfl i (.int .u8 (xs.getD i 0)) (by simp [List.getD, List.getElem?_eq_getElem hi])
  have h2 : (⟨g, 0, none⟩ : Addr).add i = ⟨g, i, none⟩ := by unfold Addr.add; split <;> simp_all
  rw [h2] at h1
  exact h1

/-- the slice v holds the bytes bs, in a block of the call's own (from base on), or is nil -/
def OwnB (w : World) (base : Nat) (v : Value) (bs : List Int) : Prop := w.ownsRow base 5 1 v bs.length (bs.map (Value.int .u8))

theorem ownB_nil (w : World) (base : Nat) : OwnB w base (.slice none 0 0) [] := World.ownsRow_nil _ _ _ _

theorem OwnB.alloc {w : World} {base : Nat} {v : Value} {bs : List Int} (h : OwnB w base v bs) (o : Obj) : OwnB (w.alloc o) base v bs := World.ownsRow.alloc h o

theorem infoU8 : (Tryz.prog.info? 5).map (fun i => (i.zero, i.size, i.bytes)) = some (some (.int .u8 0), 1, 1) := by kernel_rfl

theorem OwnB.holds {w : World} {base : Nat} {v : Value} {bs : List Int} (h : OwnB w base v bs) : HoldsB w v bs := by
  rcases h.2 with ⟨rfl, h0⟩ | ⟨g, cap, cur, rfl, hg, hh, hn, hm, _, _⟩
  · exact .inl ⟨rfl, List.length_eq_zero_iff.1 h0⟩
  · exact .inr ⟨g, bs.length, cap, rfl, rfl, hn, hm, (World.ownsRow.lt h g rfl).2, bytes_of_owns h⟩

theorem OwnB.form {w : World} {base : Nat} {v : Value} {bs : List Int} (h : OwnB w base v bs) : (v = .slice none 0 0 ∧ bs = []) ∨ ∃ g cap, v = .slice (some ⟨g, 0, none⟩) bs.length cap ∧ base ≤ g ∧ g < w.heap.size ∧ bs.length ≤ cap ∧ cap ≤ maxLen ∧ Bytes w g bs := by
  rcases h.2 with ⟨rfl, h0⟩ | ⟨g, cap, cur, rfl, hg, hh, hn, hm, _, _⟩
  · exact .inl ⟨rfl, List.length_eq_zero_iff.1 h0⟩
  · exact .inr ⟨g, cap, rfl, hg, (World.ownsRow.lt h g rfl).2, hn, hm, bytes_of_owns h⟩

theorem OwnB.keep {w w' : World} {base : Nat} {v : Value} {bs : List Int} (h : OwnB w base v bs) (hb : Below w.heap.size w w') : OwnB w' base v bs := by
  refine ⟨h.1, ?_⟩
  rcases h.2 with h0 | ⟨g, cap, cur, hv, hg, hh, hr⟩
  · exact .inl h0
  · refine .inr ⟨g, cap, cur, hv, hg, ?_, hr⟩
    rw [hb.block g (by rw [hv] at h; exact (World.ownsRow.lt h g rfl).2)]
    exact hh

theorem OwnB.mono {w : World} {base base' : Nat} {v : Value} {bs : List Int} (h : OwnB w base v bs) (hb : base' ≤ base) : OwnB w base' v bs := by
  refine ⟨h.1, ?_⟩
  rcases h.2 with h0 | ⟨g, cap, cur, hv, hg, hr⟩
  · exact .inl h0
  · exact .inr ⟨g, cap, cur, hv, Nat.le_trans hb hg, hr⟩

theorem u8_one (ys : List Int) : ∀ u ∈ ys.map (Value.int .u8), u.oneCell' = true := by
  intro u hu
  obtain ⟨c, _, rfl⟩ := List.mem_map.1 hu
  rfl

theorem OwnB.grown {w w' : World} {base : Nat} {v : Value} {bs : List Int} (h : OwnB w base v bs) (hg : w.grownBy w' v.ownBlock) (hb : base ≤ w.heap.size) : Below base w w' :=
  (Below.refl _ _).grown hg hb (fun k hk => (World.ownsRow.lt h k hk).1)

def BytesAt (w : World) (g off : Nat) (xs : List Int) : Prop := ∀ i, i < xs.length → w.cell? ⟨g, off + i, none⟩ = some (.int .u8 (xs.getD i 0))

theorem BytesAt.below {w w' : World} {B g off : Nat} {xs : List Int} (h : BytesAt w g off xs) (hb : Below B w w') (hg : g < B) : BytesAt w' g off xs :=
  fun i hi => (hb.cell (p := ⟨g, off + i, none⟩) hg).trans (h i hi)

/-- the slice's elements are the bytes xs, wherever they lie -/
def IsBytes (w : World) (a : Option Addr) (len cap : Nat) (xs : List Int) : Prop :=
  xs.length = len ∧ len ≤ cap ∧ cap ≤ maxLen ∧ (∀ c ∈ xs, 0 ≤ c ∧ c < 256) ∧ (len = 0 ∨ ∃ g off, a = some ⟨g, off, none⟩ ∧ g < w.heap.size ∧ BytesAt w g off xs)

theorem IsBytes.keep {w w' : World} {a : Option Addr} {len cap : Nat} {xs : List Int} (h : IsBytes w a len cap xs) (hb : Below w.heap.size w w') : IsBytes w' a len cap xs := by
  obtain ⟨h1, h2, h3, h4, h5⟩ := h
  refine ⟨h1, h2, h3, h4, ?_⟩
  rcases h5 with h5 | ⟨g, off, ha, hg, hc⟩
  · exact .inl h5
  · exact .inr ⟨g, off, ha, Nat.lt_of_lt_of_le hg hb.size, hc.below hb hg⟩

theorem IsBytes.at {w : World} {a : Option Addr} {len cap : Nat} {xs : List Int} (h : IsBytes w a len cap xs) {k : Nat} (hk : k < len) : ∃ g off, a = some ⟨g, off, none⟩ ∧ g < w.heap.size ∧ BytesAt w g off xs := by
  obtain ⟨h1, h2, h3, h4, h5⟩ := h
  rcases h5 with h5 | h5
  · omega
  · exact h5

theorem OwnB.is {w : World} {base : Nat} {v : Value} {bs : List Int} (h : OwnB w base v bs) (hr : ∀ c ∈ bs, 0 ≤ c ∧ c < 256) : ∃ a cap, v = .slice a bs.length cap ∧ IsBytes w a bs.length cap bs := by
  rcases h.form with ⟨rfl, rfl⟩ | ⟨g, cap, rfl, hg1, hg2, hc, hm, hB⟩
  · exact ⟨none, 0, rfl, rfl, Nat.le_refl _, by unfold maxLen; omega, hr, .inl rfl⟩
  · exact ⟨_, cap, rfl, rfl, hc, hm, hr, .inr ⟨g, 0, rfl, hg2, fun i hi => by rw [Nat.zero_add]; exact hB i hi⟩⟩

theorem bytesAt_add {w : World} {g off : Nat} {ys : List Int} (hB : BytesAt w g off ys) : ∀ j u, (ys.map (Value.int .u8))[j]? = some u → w.cell? ((⟨g, off, none⟩ : Addr).add j) = some u := by
  intro j u hu
  have h2 : (⟨g, off, none⟩ : Addr).add j = ⟨g, off + j, none⟩ := by unfold Addr.add; split <;> simp_all
  rw [h2]
  rw [List.getElem?_map, Option.map_eq_some_iff] at hu
  obtain ⟨c, hc, rfl⟩ := hu
  obtain ⟨hj, rfl⟩ := List.getElem?_eq_some_iff.1 hc
  have := hB j hj
  simpa [List.getD, List.getElem?_eq_getElem hj] using this

/-- an empty slice that was made -/
theorem ownB_empty (w : World) (base : Nat) (hb : base ≤ w.heap.size) : OwnB (w.alloc (.cells #[] 5)) base (.slice (some ⟨w.heap.size, 0, none⟩) 0 0) [] := by
  exact ⟨by simp, .inr ⟨w.heap.size, 0, #[], rfl, hb, heap_alloc_new w _, Nat.le_refl _, by unfold maxLen; omega, rfl, rfl⟩⟩

theorem OwnB.at {w : World} {base : Nat} {v : Value} {bs : List Int} (h : OwnB w base v bs) (hr : ∀ c ∈ bs, 0 ≤ c ∧ c < 256) : ∃ a n cap, v = .slice a n cap ∧ IsBytes w a n cap bs := by
  obtain ⟨a, cap, e, hi⟩ := h.is hr
  exact ⟨a, _, cap, e, hi⟩

theorem conv_none (w : World) (a : Option Addr) (cap : Nat) : (convert 39 9 (.slice a 0 cap)).run Tryz.prog w = .ok (.string ByteArray.empty) w := by
  cases a with
  | none => exact run_convert_bytes_nil w 39 5 Tryz.underlying39 Tryz.underlying5 0 cap 9 Tryz.underlying9
  | some x =>
    rw [run_convert_bytes_string w 39 9 5 (some x) 0 cap Tryz.underlying39 Tryz.underlying5 Tryz.underlying9]
    simp [Conv.bytesToString, loadCells, loadCellsFrom]

theorem IsBytes.conv {w : World} {a : Option Addr} {len cap : Nat} {xs : List Int} (h : IsBytes w a len cap xs) : (convert 39 9 (.slice a len cap)).run Tryz.prog w = .ok (.string (strB xs)) w := by
  obtain ⟨h1, h2, h3, h4, h5⟩ := h
  rcases h5 with h5 | ⟨g, off, rfl, hg, hB⟩
  · subst h5
    have : xs = [] := List.length_eq_zero_iff.1 h1
    subst this
    exact conv_none w a cap
  · exact run_convert_bytes_arg w 39 5 Tryz.underlying39 Tryz.underlying5 g off len cap xs h1 (fun i hi => hB i (by omega)) 9 Tryz.underlying9

theorem wf_byte {n : Int} (h : (Lit.int .u8 n).wf = true) : 0 ≤ n ∧ n < 256 := by
  simp [Lit.wf, IntKind.min, IntKind.max, IntKind.signed, IntKind.bits] at h
  omega

theorem open_bytes {H : Type} {enc : TypeId × Value → H} {w : World} {base : Nat} {spare : Nat → Bool} {held : Bool} {fuel : Nat} {a : Option Addr} {len cap : Nat} {x : DataW H × List MemPlace}
    (h : DataW.trod enc Tryz.prog w base spare held fuel 39 [.slice a len cap] = some x) : ∃ xs, IsBytes w a len cap xs := by
  rcases open_slice1 Tryz.underlying39 (by kernel_rfl) h with ⟨hcs, _⟩ | ⟨ad, l, c, m, n, V, D, Pl, hcs, hb, hl, hm, hmm, _, hx⟩
  · simp at hcs
    obtain ⟨rfl, rfl, rfl⟩ := hcs
    exact ⟨[], rfl, Nat.le_refl _, Nat.zero_le _, by simp, .inl rfl⟩
  · simp only [List.cons.injEq, Value.slice.injEq, and_true] at hcs
    obtain ⟨rfl, rfl, rfl⟩ := hcs
    have hlm : len ≤ m := by rw [hmm]; split <;> omega
    have each : ∀ i, i < len → ∃ c : Int, (0 ≤ c ∧ c < 256) ∧ w.cell? (ad.add i) = some (.int .u8 c) := by
      intro i hi
      obtain ⟨h1, h2⟩ := hx i (by omega)
      obtain ⟨n0, e0, _, f0⟩ := DataW.trod_int Tryz.underlying5 h2
      simp at e0
      exact ⟨n0, wf_byte f0, by rw [h1, e0]⟩
    obtain ⟨V, hV⟩ := choose_lt each
    have hg : ∀ i, i < len → ((List.range len).map V).getD i 0 = V i := by
      intro i hi
      simp [List.getD, hi]
    refine ⟨(List.range len).map V, by simp, hl, hm, ?_, ?_⟩
    · intro v hv
      simp only [List.mem_map, List.mem_range] at hv
      obtain ⟨i, hi, rfl⟩ := hv
      exact (hV i hi).1
    · by_cases h0 : len = 0
      · exact .inl h0
      · right
        obtain ⟨b, off, spot⟩ := ad
        have hspot : spot = none := by
          have := World.cell?_spot (hV 0 (by omega)).2
          simpa [Addr.add] using this
        subst hspot
        refine ⟨b, off, rfl, ?_, ?_⟩
        · have := World.block_lt_of_cell? _ _ (hV 0 (by omega)).2
          rw [add_plain] at this
          exact this
        · intro i hi
          have hi' : i < len := by simpa using hi
          rw [hg i hi']
          have c0 := (hV i hi').2
          rw [add_plain] at c0
          exact c0

/-- where a slice's array lies behind an append: where it lay, or in a new block -/
def AtB (w : World) (v v' : Value) : Prop := v'.ownBlock = v.ownBlock ∨ ∃ g, v'.ownBlock = some g ∧ w.heap.size ≤ g

theorem run_append_empty (w : World) (base : Nat) (t ty e : TypeId) (i : TypeInfo) (size : Nat) (ht : Tryz.prog.underlying t = some (.slice e)) (hi : Tryz.prog.info? e = some i)
    (v : Value) (n : Nat) (xs : List Value) (hown : w.ownsRow base e size v n xs) (a : Option Addr) (c : Nat) :
    (Builtin.append_ #[t, t] ty #[v, .slice a 0 c]).run Tryz.prog w = .ok v w := by
  cases a with
  | none =>
    rcases hown.2 with ⟨rfl, rfl⟩ | ⟨g, cap, cur, rfl, _, _, hnc, _⟩
    · simp [Builtin.append_, run_underlying ht, sizeOf, typeInfo, hi, Builtin.lenOf, Builtin.firstCells]
    · simp [Builtin.append_, run_underlying ht, sizeOf, typeInfo, hi, Builtin.lenOf, Builtin.firstCells, hnc, storeCells]
  | some x =>
    have hf : ∀ k, (Builtin.firstCells k 0 (.slice (some x) 0 c)).run Tryz.prog w = .ok #[] w := fun k => run_firstCells_some w k 0 x 0 c [] (by simp) (by simp)
    rcases hown.2 with ⟨rfl, rfl⟩ | ⟨g, cap, cur, rfl, _, _, hnc, _⟩
    · simp [Builtin.append_, run_underlying ht, sizeOf, typeInfo, hi, Builtin.lenOf, hf]
    · simp [Builtin.append_, run_underlying ht, sizeOf, typeInfo, hi, Builtin.lenOf, hf, hnc, storeCells]

/-- the world w' is as w was but for the blocks M, and new ones -/
structure Keeps (M : Nat → Prop) (w w' : World) : Prop where
  os : w'.os = w.os
  tape : w'.tape = w.tape
  output : w'.output = w.output
  size : w.heap.size ≤ w'.heap.size
  block : ∀ k, k < w.heap.size → ¬ M k → w'.heap[k]? = w.heap[k]?

theorem Keeps.cell {M : Nat → Prop} {w w' : World} (h : Keeps M w w') {g i : Nat} (hg : g < w.heap.size) (hm : ¬ M g) : w'.cell? ⟨g, i, none⟩ = w.cell? ⟨g, i, none⟩ :=
  World.cell?_of_block (a := ⟨g, i, none⟩) (h.block g hg hm)

theorem Keeps.below {M : Nat → Prop} {w w' : World} {B : Nat} (h : Keeps M w w') (hB : B ≤ w.heap.size) (hm : ∀ k, M k → B ≤ k) : Below B w w' :=
  ⟨h.os, h.tape, h.output, h.size, fun k hk => h.block k (by omega) (fun x => by have := hm k x; omega)⟩

theorem Below.keeps {w w' : World} (h : Below w.heap.size w w') (M : Nat → Prop) : Keeps M w w' := ⟨h.os, h.tape, h.output, h.size, fun k hk _ => h.block k hk⟩

theorem OwnB.lies {w w' : World} {base : Nat} {v : Value} {bs : List Int} (h : OwnB w base v bs) (hb : ∀ g, v.ownBlock = some g → w'.heap[g]? = w.heap[g]?) : OwnB w' base v bs := by
  refine ⟨h.1, ?_⟩
  rcases h.2 with h0 | ⟨g, cap, cur, hv, hg, hh, hr⟩
  · exact .inl h0
  · refine .inr ⟨g, cap, cur, hv, hg, ?_, hr⟩
    rw [hb g (by rw [hv]; rfl)]
    exact hh

/-- a slice's elements are the bytes xs, wherever they lie -/
def SrcB (w : World) (a : Option Addr) (len : Nat) (xs : List Int) : Prop := xs.length = len ∧ (len = 0 ∨ ∃ g off, a = some ⟨g, off, none⟩ ∧ g < w.heap.size ∧ BytesAt w g off xs)

theorem IsBytes.src {w : World} {a : Option Addr} {len cap : Nat} {xs : List Int} (h : IsBytes w a len cap xs) : SrcB w a len xs := ⟨h.1, h.2.2.2.2⟩

/-- none of the slice's elements lies in a block of M -/
def OffB (a : Option Addr) (M : Nat → Prop) : Prop := ∀ x, a = some x → ¬ M x.block

theorem SrcB.lies {w w' : World} {a : Option Addr} {len : Nat} {xs : List Int} {M : Nat → Prop} (h : SrcB w a len xs) (hk : Keeps M w w') (ho : OffB a M) : SrcB w' a len xs := by
  refine ⟨h.1, ?_⟩
  rcases h.2 with h0 | ⟨g, off, rfl, hg, hB⟩
  · exact .inl h0
  · exact .inr ⟨g, off, rfl, Nat.lt_of_lt_of_le hg hk.size, fun i hi => (hk.cell hg (ho _ rfl)).trans (hB i hi)⟩

theorem SrcB.liesO {w w' : World} {a : Option Addr} {len : Nat} {xs : List Int} {M : Nat → Prop} (h : SrcB w a len xs) (hk : Keeps M w w') (ho : OffB a M ∨ len = 0) : SrcB w' a len xs := by
  rcases ho with ho | h0
  · exact h.lies hk ho
  · exact ⟨h.1, .inl h0⟩

theorem SrcB.keep {w w' : World} {a : Option Addr} {len : Nat} {xs : List Int} (h : SrcB w a len xs) (hb : Below w.heap.size w w') : SrcB w' a len xs :=
  h.lies (Below.keeps hb (fun _ => False)) (fun _ _ h => h)

theorem OwnB.src {w : World} {base : Nat} {v : Value} {bs : List Int} (h : OwnB w base v bs) : ∃ a cap, v = .slice a bs.length cap ∧ SrcB w a bs.length bs ∧ ∀ x, a = some x → v.ownBlock = some x.block := by
  rcases h.form with ⟨rfl, rfl⟩ | ⟨g, cap, rfl, hg1, hg2, hc, hm, hB⟩
  · exact ⟨none, 0, rfl, ⟨rfl, .inl rfl⟩, by intro x hx; cases hx⟩
  · exact ⟨_, cap, rfl, ⟨rfl, .inr ⟨g, 0, rfl, hg2, fun i hi => by rw [Nat.zero_add]; exact hB i hi⟩⟩, by intro x hx; cases hx; rfl⟩

theorem OwnB.any {w : World} {base : Nat} {v : Value} {bs : List Int} (h : OwnB w base v bs) : ∃ a n cap, v = .slice a n cap ∧ SrcB w a n bs := by
  obtain ⟨a, cap, e, hs, _⟩ := h.src
  exact ⟨a, _, cap, e, hs⟩

/-- append of bytes, wherever they lie, as it runs -/
theorem run_joinB (w : World) (ty : TypeId) (base : Nat) (v : Value) (bs : List Int) (hown : OwnB w base v bs) (sa : Option Addr) (m c : Nat) (ys : List Int) (hB : SrcB w sa m ys) (hbig : bs.length + ys.length ≤ 1099511627776) (hbase : base ≤ w.heap.size) :
    ∃ v' w', (Builtin.append_ #[39, 39] ty #[v, .slice sa m c]).run Tryz.prog w = .ok v' w' ∧ OwnB w' base v' (bs ++ ys) ∧ w.grownBy w' v.ownBlock ∧ AtB w v v' := by
  obtain ⟨i0, hi, hz0, hz1, hz2⟩ := info_parts infoU8
  by_cases h0 : m = 0
  · subst h0
    have hy : ys = [] := List.length_eq_zero_iff.1 hB.1
    subst hy
    exact ⟨v, w, run_append_empty w base 39 ty 5 i0 1 Tryz.underlying39 hi v bs.length _ hown sa c, by rw [List.append_nil]; exact hown, ⟨rfl, rfl, rfl, Nat.le_refl _, fun _ _ _ => rfl⟩, .inl rfl⟩
  · rcases hB.2 with h1 | ⟨g, off, rfl, hg, hb⟩
    · exact absurd h1 h0
    · have hl := hB.1
      obtain ⟨v', w', hr, h2, h3, _, h5⟩ := run_append_own_at (P := Tryz.prog) w base 39 ty 5 i0 (.int .u8 0) 1 1 Tryz.underlying39 hi hz0 hz1 hz2 rfl (by decide) v bs.length _ hown ⟨g, off, none⟩ m c (ys.map (Value.int .u8)) (by simp [hl]) (bytesAt_add hb) (u8_one ys) (by unfold maxLen; omega) (by omega) hbase
      refine ⟨v', w', hr, ?_, h3, ?_⟩
      · unfold OwnB
        rw [List.length_append, List.map_append, hl]
        exact h2
      · rcases h5 with h5 | h5
        · exact .inl h5
        · exact .inr ⟨_, h5, Nat.le_refl _⟩

/-- the same at a step of a region that draws its order -/
theorem step_joinB {ops : Array Oper} {o : Oper} {a : Act} {K : Act → World → Prop} {Q : Exit → Act → World → Prop} {E : Prop} (w : World) (hgd : Region.wanted o (yielded ops a.tmps) = true) (s x : Operand)
    (ho : o.op = .call { callee := .builtin .append, args := #[s, x], argTypes := #[39, 39] }) (base : Nat) (v : Value) (bs : List Int) (hs : a.eval s = v) (hown : OwnB w base v bs)
    (sa : Option Addr) (m c : Nat) (ys : List Int) (hx : a.eval x = .slice sa m c) (hB : SrcB w sa m ys) (hbig : bs.length + ys.length ≤ 1099511627776) (hbase : base ≤ w.heap.size)
    (h : ∀ v' w', OwnB w' base v' (bs ++ ys) → w.grownBy w' v.ownBlock → AtB w v v' → K (a.put o.dst v') w') :
    if Region.wanted o (yielded ops a.tmps) = true then Oper.wp Tryz.prog o a w K Q else E := by
  rw [if_pos hgd]
  obtain ⟨v', w', hr, h1, h2, h3⟩ := run_joinB w o.type base v bs hown sa m c ys hB hbig hbase
  unfold Oper.wp execOp
  simp only [ho, resolve, invoke, builtin, Sem.run_bind, Sem.run_pure, Result.andThen_ok, List.map_toArray, List.map_cons, List.map_nil, hs, hx, hr]
  exact h v' w' h1 h2 h3

/-- the same in a plain region, at an operation that its guard lets through -/
theorem wp_joinG {ops : Array Oper} {rest : List Oper} {o : Oper} {a : Act} {Q : Exit → Act → World → Prop} (w : World) (hgd : Region.wanted o (yielded ops a.tmps) = true) (s x : Operand)
    (ho : o.op = .call { callee := .builtin .append, args := #[s, x], argTypes := #[39, 39] }) (base : Nat) (v : Value) (bs : List Int) (hs : a.eval s = v) (hown : OwnB w base v bs)
    (sa : Option Addr) (m c : Nat) (ys : List Int) (hx : a.eval x = .slice sa m c) (hB : SrcB w sa m ys) (hbig : bs.length + ys.length ≤ 1099511627776) (hbase : base ≤ w.heap.size)
    (h : ∀ v' w', OwnB w' base v' (bs ++ ys) → w.grownBy w' v.ownBlock → AtB w v v' → wpList Tryz.prog ops Q rest (a.put o.dst v') w') : wpList Tryz.prog ops Q (o :: rest) a w :=
  wpList_step fun K hK => step_joinB w hgd s x ho base v bs hs hown sa m c ys hx hB hbig hbase (fun v' w' h1 h2 h3 => hK _ _ (h v' w' h1 h2 h3))

/-- append of bytes, wherever they lie -/
theorem wp_joinB {ops : Array Oper} {rest : List Oper} {o : Oper} {a : Act} {Q : Exit → Act → World → Prop} (w : World) (hgd : o.guard = none) (s x : Operand)
    (ho : o.op = .call { callee := .builtin .append, args := #[s, x], argTypes := #[39, 39] }) (base : Nat) (v : Value) (bs : List Int) (hs : a.eval s = v) (hown : OwnB w base v bs)
    (sa : Option Addr) (m c : Nat) (ys : List Int) (hx : a.eval x = .slice sa m c) (hB : SrcB w sa m ys) (hbig : bs.length + ys.length ≤ 1099511627776) (hbase : base ≤ w.heap.size)
    (h : ∀ v' w', OwnB w' base v' (bs ++ ys) → w.grownBy w' v.ownBlock → AtB w v v' → wpList Tryz.prog ops Q rest (a.put o.dst v') w') : wpList Tryz.prog ops Q (o :: rest) a w :=
  wp_joinG w (by simp [Region.wanted, hgd]) s x ho base v bs hs hown sa m c ys hx hB hbig hbase h

theorem OwnB.row {w : World} {base : Nat} {v : Value} {bs : List Int} (h : OwnB w base v bs) {n : Nat} (hn : bs.length = n) (h0 : 0 < n) : ∃ g cap, v = .slice (some ⟨g, 0, none⟩) n cap ∧ base ≤ g ∧ g < w.heap.size ∧ n ≤ cap ∧ cap ≤ maxLen := by
  rcases h.form with ⟨rfl, rfl⟩ | ⟨g, cap, rfl, hg1, hg2, hc, hm, hB⟩
  · simp at hn; omega
  · subst hn; exact ⟨g, cap, rfl, hg1, hg2, hc, hm⟩

theorem OwnB.isAt {w : World} {base : Nat} {a : Option Addr} {n c : Nat} {bs : List Int} (h : OwnB w base (.slice a n c) bs) (hr : ∀ c ∈ bs, 0 ≤ c ∧ c < 256) : IsBytes w a n c bs := by
  obtain ⟨a', c', e, hi⟩ := h.is hr
  cases e
  exact hi

theorem new_below (w : World) (o : Obj) : Below w.heap.size w (w.alloc o) := (Below.refl _ _).alloc (Nat.le_refl _) _

end Go.Proofs.YtcgiicmmfleinaaGreatDoor

namespace Go.Proofs.YtcgiicmmfleinaaGreatDoor
open Go.RowKit NumMath
set_option linter.unusedVariables false
set_option maxRecDepth 100000

theorem clone_src (a : Option Addr) (len cap : Nat) (xs : List Int) (w : World) (hs : SrcB w a len xs) (hbig : len ≤ 1000000000) :
    Calls Tryz.prog 88 #[.slice a len cap] w fun e w' => ∃ v, e = .returned v ∧ OwnB w' w.heap.size v xs ∧ Below w.heap.size w w' := by
  have HS := hide hs
  cases a with
  | none =>
    have h0 : len = 0 := by
      rcases hs.2 with h | ⟨g, off, h, _⟩
      · exact h
      · cases h
    have hx : xs = [] := List.length_eq_zero_iff.1 (hs.1.trans h0)
    subst h0 hx
    clear hs
    have hnil : ∀ w, (binOp .eql 39 (.slice none 0 cap) (.slice none 0 0)).run Tryz.prog w = .ok (.bool true) w := fun w => Lib.run_eql_slice_nil w 39 5 none 0 cap 0 0 Tryz.underlying39
    go_enter Tryz.func88, Tryz.ntmps88
    go_wp2
    go_ret
    exact ⟨_, rfl, ownB_nil _ _, Below.refl _ _⟩
  | some x =>
    clear hs
    have hnil : ∀ w, (binOp .eql 39 (.slice (some x) len cap) (.slice none 0 0)).run Tryz.prog w = .ok (.bool false) w := fun w => Lib.run_eql_slice_nil w 39 5 (some x) len cap 0 0 Tryz.underlying39
    go_enter Tryz.func88, Tryz.ntmps88
    go_wp2_with (first
      | (at_builtin; go_must (refine wp_joinB _ rfl (.tmp 5) (.tmp 6) rfl w.heap.size _ [] rfl (ownB_empty w _ (Nat.le_refl _)) (some x) len cap xs rfl (HS.out.keep (new_below _ _)) (by rw [HS.out.1]; simp; omega) (by simp) ?_); intro v1 w1 hown1 hg1 hat1))
    go_ret
    refine ⟨v1, rfl, hown1, ?_⟩
    exact (new_below _ _).trans ((ownB_empty w _ (Nat.le_refl _)).grown hg1 (by simp))

end Go.Proofs.YtcgiicmmfleinaaGreatDoor

namespace Go.Proofs.YtcgiicmmfleinaaGreatDoor
open Go.RowKit NumMath
set_option linter.unusedVariables false

/-- the blocks of the struct at p whose field i is a slice -/
def SB (i : Nat) (w : World) (p k : Nat) : Prop := k = p ∨ ∃ v, w.cell? ⟨p, i, none⟩ = some v ∧ v.ownBlock = some k

/-- what a call leaves that changes the struct at p and its slice alone -/
def SPost (i : Nat) (w : World) (p : Nat) (w' : World) : Prop := Keeps (SB i w p) w w' ∧ ∀ k, SB i w' p k → SB i w p k ∨ w.heap.size ≤ k

theorem SB.at {i : Nat} {w : World} {p : Nat} : SB i w p p := .inl rfl

theorem SB.same {i : Nat} {w w' : World} {p k : Nat} (hp : w'.heap[p]? = w.heap[p]?) (h : SB i w' p k) : SB i w p k := by
  rcases h with rfl | ⟨v, hv, hb⟩
  · exact .inl rfl
  · rw [World.cell?_of_block (a := ⟨p, i, none⟩) hp] at hv
    exact .inr ⟨v, hv, hb⟩

theorem SPost.refl (i : Nat) (w : World) (p : Nat) : SPost i w p w := ⟨⟨rfl, rfl, rfl, Nat.le_refl _, fun _ _ _ => rfl⟩, fun k hk => .inl hk⟩

theorem SPost.size {i : Nat} {w w' : World} {p : Nat} (h : SPost i w p w') : w.heap.size ≤ w'.heap.size := h.1.size

theorem SPost.trans {i : Nat} {w w1 w2 : World} {p : Nat} (h : SPost i w p w1) (k : SPost i w1 p w2) : SPost i w p w2 := by
  obtain ⟨h2, h3⟩ := h
  obtain ⟨k2, k3⟩ := k
  refine ⟨⟨k2.os.trans h2.os, k2.tape.trans h2.tape, k2.output.trans h2.output, Nat.le_trans h2.size k2.size, fun i hi hn => (k2.block i (Nat.lt_of_lt_of_le hi h2.size) ?_).trans (h2.block i hi hn)⟩, ?_⟩
  · intro hx
    rcases h3 i hx with h | h
    · exact hn h
    · omega
  · intro i hi
    rcases k3 i hi with h | h
    · exact h3 i h
    · exact .inr (Nat.le_trans h2.size h)

theorem SPost.of_below {i : Nat} {w w' : World} {p : Nat} (hp : p < w.heap.size) (hb : Below w.heap.size w w') : SPost i w p w' :=
  ⟨Below.keeps hb _, fun k hk => .inl (hk.same (hb.block p hp))⟩

theorem SPost.ahead {i : Nat} {w w1 w2 : World} {p : Nat} (hp : p < w.heap.size) (hb : Below w.heap.size w w1) (k : SPost i w1 p w2) : SPost i w p w2 := (SPost.of_below hp hb).trans k

theorem SPost.below {i : Nat} {w w' : World} {p B : Nat} (h : SPost i w p w') (hB : B ≤ w.heap.size) (h0 : ∀ k, SB i w p k → B ≤ k) : Below B w w' := h.1.below hB h0

theorem SPost.cell {i : Nat} {w w' : World} {p : Nat} (h : SPost i w p w') {g j : Nat} (hg : g < w.heap.size) (hn : ¬ SB i w p g) : w'.cell? ⟨g, j, none⟩ = w.cell? ⟨g, j, none⟩ := h.1.cell hg hn

theorem SPost.drew {i : Nat} {w w' : World} {p : Nat} (h : SPost i w.drew p w') : SPost i w p w' := ⟨⟨h.1.os, h.1.tape, h.1.output, h.1.size, h.1.block⟩, h.2⟩

/-- the two structs have no block in common -/
def Off2 (i j : Nat) (w : World) (p q : Nat) : Prop := ∀ k, SB i w p k → ¬ SB j w q k

theorem Off2.symm {i j : Nat} {w : World} {p q : Nat} (h : Off2 i j w p q) : Off2 j i w q p := fun k hk hk' => h k hk' hk

theorem Off2.keep {i j : Nat} {w w' : World} {p q : Nat} (h : Off2 i j w p q) (hp : p < w.heap.size) (hq : q < w.heap.size) (hb : Below w.heap.size w w') : Off2 i j w' p q :=
  fun k hk hk' => h k (hk.same (hb.block p hp)) (hk'.same (hb.block q hq))

end Go.Proofs.YtcgiicmmfleinaaGreatDoor

namespace Go.Proofs.YtcgiicmmfleinaaGreatDoor
open Go.RowKit NumMath
set_option linter.unusedVariables false
set_option maxRecDepth 100000

theorem anyT_mono {P : Program} {md : Region.Mode} {ops : Array Oper} {Q : Exit → Act → World → Prop} {S S' : World → Prop} (h : ∀ W, S' W → S W) : ∀ (fuel : Nat) (listed : Array Bool) (a : Act) (w : World), wpAnyH P md ops Q S' fuel listed a w → wpAnyH P md ops Q S fuel listed a w
  | 0, _, _, _, h0 => h0
  | fuel + 1, _, _, _, h0 => ⟨h0.1, fun i hi => wpOp_mono (fun a' w' h' => ⟨h _ h'.1, anyT_mono h fuel _ a' w' h'.2⟩) (h0.2 i hi)⟩

/-- one that may come up now is taken first -/
theorem takeT {P : Program} {l : List Oper} {md : Region.Mode} {Q : Exit → Act → World → Prop} {X w : World} {i : Nat} {oi : Oper} {v : Value} {fuel : Nat} {listed : Array Bool} {a : Act} (hi : l[i]? = some oi) (hs : Region.noSelect l.toArray = true) (hf : Region.free md l.toArray listed i = true) (hr : (Region.ready md l.toArray listed).contains i = true)
    (hQ : ∀ c a w, Q (.panic c) (a.put oi.dst v) w → Q (.panic c) a w) (hwt : Region.wanted oi (yielded l.toArray a.tmps) = true) (hX : Below X.heap.size X w) (hy : ∀ W, Below X.heap.size X W → (execOp a.eval oi).run P W = .ok (.value v) W)
    (h : wpAnyH P md l.toArray Q (fun W => Below X.heap.size X W) fuel (listed.setIfInBounds i true) (a.put oi.dst v) w) : wpAnyH P md l.toArray Q (fun W => Below X.heap.size X W) (fuel + 1) listed a w :=
  wpAnyH_take (by simpa using hi) hs hf hr hQ (Or.inl ⟨hwt, hy⟩) hX h

/-- one that its guard passes over -/
theorem skipT {P : Program} {l : List Oper} {md : Region.Mode} {Q : Exit → Act → World → Prop} {X w : World} {i : Nat} {oi : Oper} {fuel : Nat} {listed : Array Bool} {a : Act} (hi : l[i]? = some oi) (hs : Region.noSelect l.toArray = true) (hf : Region.free md l.toArray listed i = true) (hr : (Region.ready md l.toArray listed).contains i = true)
    (hQ : ∀ c a w, Q (.panic c) (a.put oi.dst undef) w → Q (.panic c) a w) (hwt : Region.wanted oi (yielded l.toArray a.tmps) = false) (hX : Below X.heap.size X w)
    (h : wpAnyH P md l.toArray Q (fun W => Below X.heap.size X W) fuel (listed.setIfInBounds i true) (a.put oi.dst undef) w) : wpAnyH P md l.toArray Q (fun W => Below X.heap.size X W) (fuel + 1) listed a w :=
  wpAnyH_take (by simpa using hi) hs hf hr hQ (Or.inr ⟨hwt, rfl⟩) hX h

/-- the one that may come up is a call; behind it all that stands is kept -/
theorem callT {P : Program} {l : List Oper} {md : Region.Mode} {Q : Exit → Act → World → Prop} {X w : World} {i : Nat} {o : Oper} {fuel : Nat} {listed : Array Bool} {a : Act} (hi : l[i]? = some o) (hr : Region.ready md l.toArray listed = [i])
    (h : ∀ K : Act → World → Prop, Shut (∀ a w', Below X.heap.size X w' → wpAnyH P md l.toArray Q (fun W => Below w'.heap.size w' W) fuel (listed.setIfInBounds i true) a w' → K a w') → if Region.wanted o (yielded l.toArray a.tmps) = true then Oper.wp P o a w K Q else K (a.put o.dst undef) w) :
    wpAnyH P md l.toArray Q (fun W => Below X.heap.size X W) (fuel + 1) listed a w :=
  wpAnyH_ready hr (by simp) (AllReadyH.cons (by simpa using hi) (fun K hK => h K (fun a w' hb hw => hK a w' hb (fun _ => anyT_mono (fun W hW => hb.trans (hW.mono hb.size)) _ _ _ _ hw))) AllReadyH.nil)

theorem startT {P : Program} {l : List Oper} {Q : Exit → Act → World → Prop} {id : Nat} {a : Act} {w : World} (hm : P.follows .mixedOrders = true) (h : wpAnyH P .any l.toArray Q (fun W => Below w.drew.heap.size w.drew W) l.toArray.size (Array.replicate l.toArray.size false) a w.drew) : (Code.region id l.toArray true).wp P Q a w :=
  wp_region_held_drew hm (Below.refl _ _) (fun _ => h)

end Go.Proofs.YtcgiicmmfleinaaGreatDoor
