/- The laws of layer 14: awake, few; the program's table as a law has it, call by call. -/
import Derived.Test.YtbnojmaknlfphaaDoorDrB
import Derived.Lib.SlBytesConst
namespace Go.Proofs.YtbnojmaknlfphaaDoor
open Go.RowKit NumMath Go.ChangeShapes Go.WideShapes Go.Deep
set_option linter.unusedVariables false
set_option maxRecDepth 100000

def kx1 (B : Nat) : ML := ⟨⟨1, 1, 3, [97], []⟩, some ⟨B, 0, none⟩, 1, 1, none, 0, 0⟩

def kx2 (B : Nat) : ML := ⟨⟨2, 1, 4, [98], [99]⟩, some ⟨B, 0, none⟩, 1, 1, some ⟨B + 1, 0, none⟩, 1, 1⟩

theorem isBn14 (w : World) : IsBytes w none 0 0 [] := ⟨rfl, Nat.le_refl _, Nat.zero_le _, by simp, .inl rfl⟩

theorem kx1_foot {X : Nat → Prop} (w : World) (fr : Nat × Nat) (hX : ∀ k, X k → k < w.heap.size) : Foot X (w.alloc (.cells #[.int .u8 97] 5 fr)) (fun V => (kx1 w.heap.size).ok V) :=
  foot_ok14 ⟨isB_marked w [97] 5 fr (by decide) (by decide), isBn14 _⟩ (.inr (fun y hy hx => by cases hy; have := hX _ hx; simp at this)) (.inl rfl)

theorem kx2_foot {X : Nat → Prop} (w : World) (fr fr2 : Nat × Nat) (hX : ∀ k, X k → k < w.heap.size) : Foot X ((w.alloc (.cells #[.int .u8 98] 5 fr)).alloc (.cells #[.int .u8 99] 5 fr2)) (fun V => (kx2 w.heap.size).ok V) := by
  have h1 : IsBytes (w.alloc (.cells #[.int .u8 98] 5 fr)) (some ⟨w.heap.size, 0, none⟩) 1 1 [98] := isB_marked w [98] 5 fr (by decide) (by decide)
  have h2 : IsBytes ((w.alloc (.cells #[.int .u8 98] 5 fr)).alloc (.cells #[.int .u8 99] 5 fr2)) (some ⟨w.heap.size + 1, 0, none⟩) 1 1 [99] := by
    have := isB_marked (w.alloc (.cells #[.int .u8 98] 5 fr)) [99] 5 fr2 (by decide) (by decide)
    simp only [World.size_alloc] at this
    exact this
  exact foot_ok14 ⟨h1.keep (new_below _ _), h2⟩ (.inr (fun y hy hx => by cases hy; have := hX _ hx; simp at this)) (.inr (fun y hy hx => by cases hy; have := hX _ hx; simp at this; omega))

theorem askP_one {G : Nat → Prop} {base : Nat} {w w' : World} {p : Nat} {hv wv : Value} {e : Ending} (h : AskP G base w p hv wv (askL ⟨([] : List ML).map ML.l, ([] : List ML).map ML.l⟩ ⟨1, 1, 3, [97], []⟩) e w') : e = .returned (.tuple #[.bool true, .int .i64 0]) ∧ ∃ m : ML, m.l = ⟨1, 1, 3, [97], []⟩ ∧ TPost G base w p hv wv [m] [] w' := by
  obtain ⟨h1, hs, ws, h2, h3, h4⟩ := h
  rw [List.map_nil, ask_one] at h1 h2 h3
  refine ⟨h1, ?_⟩
  obtain ⟨m, rfl, hm⟩ := List.map_eq_singleton_iff.1 h2
  have h5 := List.map_eq_nil_iff.1 h3
  subst h5
  exact ⟨m, hm, h4⟩

set_option maxHeartbeats 4000000 in
theorem awake14_any (w : World) (hF : FitW w) : Calls Tryd.prog 9 #[] w fun e w' => e = .returned (.bool true) ∧ Below w.heap.size w w' := by
  have kc := fun (w : World) (C : Array Value) (n c : Nat) => Lib.run_convert_bytes_const (P := Tryd.prog) w 23 5 C n c Tryd.underlying23 Tryd.underlying5
  have kc2 : ∀ (w : World) (o : Obj) (C : Array Value) (n c : Nat), (convert 23 23 (.slice (some ⟨w.heap.size + 1, 0, none⟩) n c)).run Tryd.prog ((w.alloc o).alloc (.cells C 5)) = .ok (.slice (some ⟨w.heap.size + 1, 0, none⟩) n c) ((w.alloc o).alloc (.cells C 5 (C.size, C.size + 1))) := by
    intro w o C n c
    have := kc (w.alloc o) C n c
    rw [World.size_alloc] at this
    exact this
  have HN := hide (pnew_any w hF (fun _ => False) (fun _ h => h.elim))
  have HA1 := hide (fun (w1 : World) (hv wv : Value) (h : IsT (fun _ => False) w.heap.size w1 w.heap.size hv wv [] []) fr => pask_any (h.keep (new_below w1 (.cells #[.int .u8 97] 5 fr))) (kx1 w1.heap.size) (kx1_foot w1 fr (fun k hk => (h.xl k hk).2)) (by show 1 ≤ _; omega) (by show 0 ≤ _; omega) ⟨by show (0 : Int) ≤ 1; decide, by show (1 : Int) ≤ _; decide⟩ (by simp) (by simp) (by simp) (by simp))
  have HA2 := hide (fun (w2 : World) (hv wv : Value) (m : ML) (hm : m.l = ⟨1, 1, 3, [97], []⟩) (h : IsT (fun _ => False) w.heap.size w2 w.heap.size hv wv [m] []) fr fr2 => pask_any ((h.keep (new_below w2 (.cells #[.int .u8 98] 5 fr))).keep (new_below _ (.cells #[.int .u8 99] 5 fr2))) (kx2 w2.heap.size) (kx2_foot w2 fr fr2 (fun k hk => (h.xl k hk).2)) (by show 1 ≤ _; omega) (by show 1 ≤ _; omega) ⟨by show (0 : Int) ≤ 2; decide, by show (2 : Int) ≤ _; decide⟩ (by intro m2 h2; simp at h2; rw [h2, hm]; constructor <;> decide) (by simp) (by simp) (by simp))
  clear hF
  go_enter Tryd.func9, Tryd.ntmps9
  go_wp2_with (first
    | (go_at_call 20; refine (HA2.out w2 hv2 wv2 m HM.out HI2.out _ _).mono ?_; rintro e w3 hp3; have HP3 := hide hp3; have h3 := hp3.1; rw [List.map_singleton, HM.out, List.map_nil, show (kx2 w2.heap.size).l = ⟨2, 1, 4, [98], [99]⟩ from rfl, ask_two] at h3; clear hp3; subst h3)
    | (go_at_call 20; refine (HA1.out w1 hv wv HI1.out _).mono ?_; rintro e w2 hp; obtain ⟨rfl, m, hm, hp2⟩ := askP_one hp; have HM := hide hm; have HP2 := hide hp2; obtain ⟨hv2, wv2, hi2, -, -, -⟩ := hp2; have HI2 := hide hi2; clear hp hm hi2)
    | (go_at_call 17; refine HN.out.mono ?_; rintro e w1 ⟨hv, wv, rfl, hi1, hb1⟩; have HI1 := hide hi1; have HB1 := hide hb1; clear hi1 hb1))
  go_ret
  obtain ⟨-, hs3, ws3, -, -, hp3⟩ := HP3.out
  have k1 : Keeps (fun k => w.heap.size ≤ k) w w1 := Below.keeps HB1.out _
  have k2 := kpThen (kpBelow k1 (new_below w1 _)) (fun k hk => .inl hk) (tpost_kp (HI1.out.keep (new_below w1 _)) HP2.out)
  have k3 := kpThen (kpBelow (kpBelow k2 (new_below w2 _)) (new_below _ _)) (fun k hk => .inl hk) (tpost_kp ((HI2.out.keep (new_below w2 _)).keep (new_below _ _)) hp3)
  exact ⟨rfl, kp_below k3⟩

end Go.Proofs.YtbnojmaknlfphaaDoor
