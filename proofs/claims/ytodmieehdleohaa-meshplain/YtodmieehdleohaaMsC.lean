/- A mesh: Cut, Tick. -/
import Derived.Test.YtodmieehdleohaaMs8
import Derived.Laws.CopyOwn
namespace Go.Proofs.Ytodmieehdleohaa
open Go.RowKit NumMath Go.ChangeShapes Go.WideShapes Go.Deep
set_option linter.unusedVariables false
set_option maxRecDepth 100000

/-- who is cut off behind a Cut -/
def cutC (C : Int → Int → Bool) (x y : Int) (c : Bool) : Int → Int → Bool := fun x' y' => if c then C x' y' || (x' == min x y && y' == max x y) else C x' y' && !(x' == min x y && y' == max x y)

set_option maxHeartbeats 4000000 in
theorem cutM_yes (base p z : Nat) (cs : Nat → Value) (F : List (Int × Int)) (C : Int → Int → Bool) (Q : Nat → List MMsg) (x y : Int) (w : World) (h : IsMesh w base p z cs F C Q) (hz : z ≤ 100000) (hx : UU x) (hy : UU y) :
    Calls Try.prog 16 #[.pointer (some ⟨p, 0, none⟩), .int .u64 x, .int .u64 y, .bool true] w fun e w' => e = .returned (.tuple #[]) ∧ MPost w base p (z + 1) cs F (cutC C x y true) Q w' := by
  have H := hide h
  have HMade := hide (madeM_any w base p z cs F C Q h)
  obtain ⟨mb, hmb, hmap⟩ := h.map
  have c1 := h.cell 1 (by decide)
  rw [hmb] at c1
  have hpl := h.pb.2
  have hne : ¬ w.heap.size = p := by omega
  have hne2 : ¬ p = w.heap.size := by omega
  have HU1 : Hid (UU (min x y)) := by show UU _; constructor <;> omega
  have HU2 : Hid (UU (max x y)) := by show UU _; constructor <;> omega
  have HMb := hide hmb
  have HMf := hide (fun W (hW : Below w.heap.size w W) => (mapC_same hmap (hW.block mb (mapC_lt hmap))).put (by omega) HU1.out HU2.out)
  clear h hmap hmb hx hy
  go_enter Try.func16, Try.ntmps16
  go_wp2_with (first
    | (go_at_call 21; go_must (refine HMade.out.mono ?_); rintro e w' ⟨rfl, hw⟩; have hw := hw.symm; subst hw))
  go_region_with (first
    | (go_at_call 23; go_must (refine (pair_any x y _).mono ?_); rintro e w4 ⟨rfl, hw⟩; (have hb4 : Below w.heap.size w w4 := (by rw [hw]; exact (by repeat (first | exact Below.refl _ _ | refine belA ?_ _ | refine Below.drew ?_)))); clear hw; obtain ⟨w5, hr5, hm5, ht5⟩ := HMf.out w4 hb4; have HP := hide ((H.out.keep hb4).turn mb HMb.out hm5 ht5); have HB4 := hide hb4; have c14 := (hb4.cell (p := ⟨p, 1, none⟩) hpl).trans c1; clear hm5 ht5 hb4))
  all_goals
    go_wp2
    go_end0
    exact ⟨rfl, cs, HP.out.1, kpThen (Below.keeps HB4.out _) (fun k hk => .inl hk) HP.out.2, fun k hk => .inl hk⟩

set_option maxHeartbeats 4000000 in
theorem cutM_no (base p z : Nat) (cs : Nat → Value) (F : List (Int × Int)) (C : Int → Int → Bool) (Q : Nat → List MMsg) (x y : Int) (w : World) (h : IsMesh w base p z cs F C Q) (hx : UU x) (hy : UU y) :
    Calls Try.prog 16 #[.pointer (some ⟨p, 0, none⟩), .int .u64 x, .int .u64 y, .bool false] w fun e w' => e = .returned (.tuple #[]) ∧ MPost w base p z cs F (cutC C x y false) Q w' := by
  have H := hide h
  have HMade := hide (madeM_any w base p z cs F C Q h)
  obtain ⟨mb, hmb, hmap⟩ := h.map
  have c1 := h.cell 1 (by decide)
  rw [hmb] at c1
  have hpl := h.pb.2
  have hne : ¬ w.heap.size = p := by omega
  have hne2 : ¬ p = w.heap.size := by omega
  have HU1 : Hid (UU (min x y)) := by show UU _; constructor <;> omega
  have HU2 : Hid (UU (max x y)) := by show UU _; constructor <;> omega
  have HMb := hide hmb
  have HMf := hide (fun W (hW : Below w.heap.size w W) => (mapC_same hmap (hW.block mb (mapC_lt hmap))).del HU1.out HU2.out 0)
  clear h hmap hmb hx hy
  go_enter Try.func16, Try.ntmps16
  go_wp2_with (first
    | (go_at_call 21; go_must (refine HMade.out.mono ?_); rintro e w' ⟨rfl, hw⟩; have hw := hw.symm; subst hw))
  go_region_with (first
    | (go_at_call 23; go_must (refine (pair_any x y _).mono ?_); rintro e w4 ⟨rfl, hw⟩; (have hb4 : Below w.heap.size w w4 := (by rw [hw]; exact (by repeat (first | exact Below.refl _ _ | refine belA ?_ _ | refine Below.drew ?_)))); clear hw; obtain ⟨w5, hr5, hm5, ht5⟩ := HMf.out w4 hb4; have HP := hide ((H.out.keep hb4).turn mb HMb.out hm5 ht5); have HB4 := hide hb4; have c14 := (hb4.cell (p := ⟨p, 1, none⟩) hpl).trans c1; clear hm5 ht5 hb4))
  all_goals
    go_wp2
    go_end0
    exact ⟨rfl, cs, HP.out.1, kpThen (Below.keeps HB4.out _) (fun k hk => .inl hk) HP.out.2, fun k hk => .inl hk⟩

end Go.Proofs.Ytodmieehdleohaa
