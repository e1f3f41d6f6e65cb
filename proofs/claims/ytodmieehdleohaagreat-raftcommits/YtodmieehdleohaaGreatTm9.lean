/- A message comes: toldMatch. -/
import Derived.Test.YtodmieehdleohaaGreatBk9
import Derived.Test.YtodmieehdleohaaGreatSt2
import Derived.Test.YtodmieehdleohaaGreatBtA

namespace Go.Proofs.YtodmieehdleohaaGreat
open Go.RowKit NumMath
set_option linter.unusedVariables false
set_option maxRecDepth 100000

theorem bel_undrew9 {w W : World} (h : Below w.drew.heap.size w.drew W) : Below w.heap.size w W := (Below.refl _ w).drew.trans h

set_option maxHeartbeats 2000000 in
theorem toldMatch_a (X : Nat → Prop) (base p z : Nat) (N : Nd) (m : MMsg) (w : World) (h : IsNd X w base p z N) (hO : N.Ok z) (hz : z ≤ 38000) (hf : U64 m.fr) (hix : U64 m.ix) (hhn : U64 m.hn) (hr : ¬ N.role = 2) :
    Calls Tryz.prog 64 #[.pointer (some ⟨p, 0, none⟩), .agg #[.int .i64 m.k, .int .u64 m.fr, .int .u64 m.tt, .int .u64 m.tm, .int .u64 m.ix, .int .u64 m.lt, .int .u64 m.cm, .int .u64 m.hn, .bool m.rj, .slice m.ea m.en m.ec, .int .u64 m.si, .int .u64 m.st, .slice m.ma m.mn m.mc, .slice m.sa m.sn m.sc]] w fun e w' => e = .returned (.tuple #[]) ∧ NPost X w base p (z + 2) (Fwd z N) w' := by
  have HO := hide hO
  have hpl := h.at.2
  have hne : ¬ w.heap.size = p := by omega
  have hne2 : ¬ p = w.heap.size := by omega
  have HXB : Hid (¬ X w.heap.size) := fun hx => by have := (h.rng _ hx).2; omega
  have HBx := hide (box14_new w m w.heap.size 49 rfl)
  have hb0w := new_below w (.cells #[.int .i64 m.k, .int .u64 m.fr, .int .u64 m.tt, .int .u64 m.tm, .int .u64 m.ix, .int .u64 m.lt, .int .u64 m.cm, .int .u64 m.hn, .bool m.rj, .slice m.ea m.en m.ec, .int .u64 m.si, .int .u64 m.st, .slice m.ma m.mn m.mc, .slice m.sa m.sn m.sc] 49)
  have HBW := hide hb0w
  have HMe := hide (members_any X base p z N _ (h.keep hb0w) hO.good)
  have HN := hide h
  have HFr := hide hf
  have HIx := hide hix
  have HHn := hide hhn
  have HFin0 : Hid (Fwd z N N) := Fwd.refl hO
  have g1 : (N.role != 2) = true := by simpa using hr
  clear h hO hf hix hhn hb0w
  go_enter Tryz.func64, Tryz.ntmps64
  go_wp2_with (first
    | (go_at_call 70; go_must (refine HMe.out.mono ?_); rintro e w2 ⟨v2, rfl, hown2, hok2, hb2⟩; obtain ⟨a2, n2, d2, rfl, hI2, hy2⟩ := hown2.is hok2; have HI2 := hide hI2; have HB2 := hide (HBW.out.trans (hb2.mono (by simp))); have HBx2 := hide (HBx.out.keep hb2); have HN2 := hide (HN.out.keep HB2.out); have c42 : w2.cell? ⟨p, 4, none⟩ = some (.int .i64 N.role) := HN2.out.c.2.2.2.1; obtain ⟨-, b12, -⟩ := HBx2.out.c; clear hown2 hok2 hI2 hy2 hb2))
  refine bodyPost_ret (results_none rfl _ _ _) rfl ?_
  exact ⟨rfl, NPost.behind (NPost.of (HN.out.mono (by omega)) HFin0.out (Keeps.self _ _)) HB2.out⟩

set_option maxHeartbeats 2000000 in
theorem toldMatch_b (X : Nat → Prop) (base p z : Nat) (N : Nd) (m : MMsg) (w : World) (h : IsNd X w base p z N) (hO : N.Ok z) (hz : z ≤ 38000) (hf : U64 m.fr) (hix : U64 m.ix) (hhn : U64 m.hn) (hr : N.role = 2) (hm : ¬ m.fr ∈ N.mem) :
    Calls Tryz.prog 64 #[.pointer (some ⟨p, 0, none⟩), .agg #[.int .i64 m.k, .int .u64 m.fr, .int .u64 m.tt, .int .u64 m.tm, .int .u64 m.ix, .int .u64 m.lt, .int .u64 m.cm, .int .u64 m.hn, .bool m.rj, .slice m.ea m.en m.ec, .int .u64 m.si, .int .u64 m.st, .slice m.ma m.mn m.mc, .slice m.sa m.sn m.sc]] w fun e w' => e = .returned (.tuple #[]) ∧ NPost X w base p (z + 2) (Fwd z N) w' := by
  have HO := hide hO
  have hpl := h.at.2
  have hne : ¬ w.heap.size = p := by omega
  have hne2 : ¬ p = w.heap.size := by omega
  have HXB : Hid (¬ X w.heap.size) := fun hx => by have := (h.rng _ hx).2; omega
  have HBx := hide (box14_new w m w.heap.size 49 rfl)
  have hb0w := new_below w (.cells #[.int .i64 m.k, .int .u64 m.fr, .int .u64 m.tt, .int .u64 m.tm, .int .u64 m.ix, .int .u64 m.lt, .int .u64 m.cm, .int .u64 m.hn, .bool m.rj, .slice m.ea m.en m.ec, .int .u64 m.si, .int .u64 m.st, .slice m.ma m.mn m.mc, .slice m.sa m.sn m.sc] 49)
  have HBW := hide hb0w
  have HMe := hide (members_any X base p z N _ (h.keep hb0w) hO.good)
  have HN := hide h
  have HFr := hide hf
  have HIx := hide hix
  have HHn := hide hhn
  have HFin0 : Hid (Fwd z N N) := Fwd.refl hO
  have g1 : (N.role != 2) = false := by simpa using hr
  have g2 : decide (m.fr ∈ N.mem) = false := decide_eq_false hm
  clear h hO hf hix hhn hb0w hm
  go_enter Tryz.func64, Tryz.ntmps64
  go_wp2_with (first
    | (go_at_call 105; go_must (refine (contains_any a2 n2 d2 N.mem m.fr _ HI2.out).mono ?_); rintro e w2b ⟨rfl, hw⟩; have hw := hw.symm; subst hw)
    | (go_at_call 70; go_must (refine HMe.out.mono ?_); rintro e w2 ⟨v2, rfl, hown2, hok2, hb2⟩; obtain ⟨a2, n2, d2, rfl, hI2, hy2⟩ := hown2.is hok2; have HI2 := hide hI2; have HB2 := hide (HBW.out.trans (hb2.mono (by simp))); have HBx2 := hide (HBx.out.keep hb2); have HN2 := hide (HN.out.keep HB2.out); have c42 : w2.cell? ⟨p, 4, none⟩ = some (.int .i64 N.role) := HN2.out.c.2.2.2.1; obtain ⟨-, b12, -⟩ := HBx2.out.c; clear hown2 hok2 hI2 hy2 hb2))
  refine bodyPost_ret (results_none rfl _ _ _) rfl ?_
  exact ⟨rfl, NPost.behind (NPost.of (HN.out.mono (by omega)) HFin0.out (Keeps.self _ _)) HB2.out⟩

set_option maxHeartbeats 8000000 in
theorem toldMatch_c (X : Nat → Prop) (base p z : Nat) (N : Nd) (m : MMsg) (w : World) (h : IsNd X w base p z N) (hO : N.Ok z) (hz : z ≤ 38000) (hf : U64 m.fr) (hix : U64 m.ix) (hhn : U64 m.hn) (hr : N.role = 2) (hm : m.fr ∈ N.mem) (hj : m.rj = true) :
    Calls Tryz.prog 64 #[.pointer (some ⟨p, 0, none⟩), .agg #[.int .i64 m.k, .int .u64 m.fr, .int .u64 m.tt, .int .u64 m.tm, .int .u64 m.ix, .int .u64 m.lt, .int .u64 m.cm, .int .u64 m.hn, .bool m.rj, .slice m.ea m.en m.ec, .int .u64 m.si, .int .u64 m.st, .slice m.ma m.mn m.mc, .slice m.sa m.sn m.sc]] w fun e w' => e = .returned (.tuple #[]) ∧ NPost X w base p (z + 2) (Fwd z N) w' := by
  have HO := hide hO
  have hpl := h.at.2
  have hne : ¬ w.heap.size = p := by omega
  have hne2 : ¬ p = w.heap.size := by omega
  have HXB : Hid (¬ X w.heap.size) := fun hx => by have := (h.rng _ hx).2; omega
  have HBx := hide (box14_new w m w.heap.size 49 rfl)
  have hb0w := new_below w (.cells #[.int .i64 m.k, .int .u64 m.fr, .int .u64 m.tt, .int .u64 m.tm, .int .u64 m.ix, .int .u64 m.lt, .int .u64 m.cm, .int .u64 m.hn, .bool m.rj, .slice m.ea m.en m.ec, .int .u64 m.si, .int .u64 m.st, .slice m.ma m.mn m.mc, .slice m.sa m.sn m.sc] 49)
  have HBW := hide hb0w
  have HMe := hide (members_any X base p z N _ (h.keep hb0w) hO.good)
  have HN := hide h
  have HFr := hide hf
  have HIx := hide hix
  have HHn := hide hhn
  have HFin0 : Hid (Fwd z N N) := Fwd.refl hO
  have HJ := hide hj
  clear hj
  have g1 : (N.role != 2) = false := by simpa using hr
  have g2 : decide (m.fr ∈ N.mem) = true := decide_eq_true hm
  have hhg : N.hg = true := hO.r2 hr
  clear h hO hf hix hhn hb0w hm
  go_enter Tryz.func64, Tryz.ntmps64
  go_wp2_with (first
    | (go_at_call 105; go_must (refine (contains_any a2 n2 d2 N.mem m.fr _ HI2.out).mono ?_); rintro e w2b ⟨rfl, hw⟩; have hw := hw.symm; subst hw)
    | (go_at_call 70; go_must (refine HMe.out.mono ?_); rintro e w2 ⟨v2, rfl, hown2, hok2, hb2⟩; obtain ⟨a2, n2, d2, rfl, hI2, hy2⟩ := hown2.is hok2; have HI2 := hide hI2; have HB2 := hide (HBW.out.trans (hb2.mono (by simp))); have HBx2 := hide (HBx.out.keep hb2); have HN2 := hide (HN.out.keep HB2.out); have c42 : w2.cell? ⟨p, 4, none⟩ = some (.int .i64 N.role) := HN2.out.c.2.2.2.1; obtain ⟨-, b12, -⟩ := HBx2.out.c; clear hown2 hok2 hI2 hy2 hb2))
  obtain ⟨q, va, ga, outv, hI⟩ := HN2.out
  obtain ⟨b, rfl⟩ : ∃ b, ga = some b := by
    have := hI.hg
    rw [hhg] at this
    exact Option.isSome_iff_exists.1 this
  have HI := hide hI
  obtain ⟨nx, mt, hnx, hmt, hlook⟩ := look_all (hI.gm b rfl).2 HFr.out
  have hb2l : b < w2.heap.size := mapP_lt (hI.gm b rfl).2
  have c102 : w2.cell? ⟨p, 10, none⟩ = some (.map (some b)) := hI.cell 10 (by decide)
  have hp2 : p < w2.heap.size := hI.at.2
  have hB2 : w.heap.size < w2.heap.size := HBx2.out.2
  have HKT := hide (fun W (hW : Below w2.heap.size w2 W) => And.intro ((hW.cell (p := ⟨p, 10, none⟩) hp2).trans c102) (And.intro ((hW.cell (p := ⟨w.heap.size, 1, none⟩) hB2).trans b12) (hlook W (hW.block b hb2l))))
  have HNx := hide hnx
  have HMt := hide hmt
  have hpn : ¬ w2.heap.size = p := by omega
  have hwn : ¬ w2.heap.size = w.heap.size := by omega
  clear hI hlook hnx hmt
  go_wp2_with fail
  go_region_held3 (fun W => W.cell? ⟨p, 10, none⟩ = some (.map (some b)) ∧ W.cell? ⟨w.heap.size, 1, none⟩ = some (.int .u64 m.fr) ∧ (Instr.lookup 86 (.map (some b)) (.int .u64 m.fr) false).run Tryz.prog W = .ok (.agg #[.int .u64 nx, .int .u64 mt]) W) (first | exact HKT.out _ (by repeat (first | exact Below.refl _ _ | refine bel_alloc ?_ _ | refine Below.drew ?_ | refine Below.setCell (p := ⟨_, _, none⟩) ?_ (by simp) _))) (fail)
  all_goals
    obtain ⟨w3, hw3⟩ : ∃ W, W = (w2.alloc (.cells #[.int .u64 nx, .int .u64 mt] 107)).drew := ⟨_, rfl⟩
    have HB3 : Hid (Below w2.heap.size w2 w3) := by show Below _ _ _; rw [hw3]; exact (by repeat (first | exact Below.refl _ _ | refine bel_alloc ?_ _ | refine Below.drew ?_))
    have p60 : w3.cell? ⟨w2.heap.size, 0, none⟩ = some (.int .u64 nx) := by rw [hw3]; simp
    have p61 : w3.cell? ⟨w2.heap.size, 1, none⟩ = some (.int .u64 mt) := by rw [hw3]; simp
    have h3l : w2.heap.size < w3.heap.size := by rw [hw3]; simp
    rw [← hw3]
    clear hw3 HKT
    have HI3 := hide (HI.out.keep HB3.out)
    have HBx3 := hide (HBx2.out.keep HB3.out)
    have HB03 := hide (HB2.out.trans (HB3.out.mono HB2.out.size))
    obtain ⟨-, b13, -, -, b43, -, -, b73, b83, -⟩ := HBx3.out.c
    have hp3 : p < w3.heap.size := HI3.out.at.2
    have hB3 : w.heap.size < w3.heap.size := HBx3.out.2
    have c103 : w3.cell? ⟨p, 10, none⟩ = some (.map (some b)) := HI3.out.cell 10 (by decide)
    have hj := HJ.out
    have HBn : Hid (b ≠ p ∧ b ≠ w.heap.size ∧ b ≠ w2.heap.size) := ⟨(HI.out.gne rfl).1, fun e => HXB.out (e ▸ (HI.out.gm b rfl).1), by omega⟩
    have HK := hide (fun W (hW : Below w3.heap.size w3 W) => (And.intro ((hW.cell (p := ⟨p, 10, none⟩) hp3).trans c103) (And.intro ((hW.cell (p := ⟨w.heap.size, 1, none⟩) hB3).trans b13) (And.intro ((hW.cell (p := ⟨w.heap.size, 7, none⟩) hB3).trans b73) (And.intro ((hW.cell (p := ⟨w2.heap.size, 0, none⟩) h3l).trans p60) ((hW.cell (p := ⟨w2.heap.size, 1, none⟩) h3l).trans p61))))))
    obtain ⟨w5, hset, hM5, ht5⟩ := run_setP w3.drew b z (mapP_same (HI3.out.gm b rfl).2 rfl) (by omega) m.fr (backI nx m.hn) mt HFr.out (back9_rng HNx.out HHn.out) HMt.out
    have HT5 := hide ht5
    have HN5 := hide (((HI3.out.keep (by repeat (first | exact Below.refl _ _ | refine bel_alloc ?_ _ | refine Below.drew ?_))).turnG (z' := z + 1) hM5 ht5 (by omega)))
    have HO5 := hide (HO.out.mono (z' := z + 1) (by omega))
    clear hM5 ht5
    have HK5 := hide ((And.intro ((World.cell?_of_block (a := ⟨p, 10, none⟩) (HT5.out.grown.block p hp3 (fun e => HBn.out.1 (by cases e; rfl)))).trans c103) (And.intro ((World.cell?_of_block (a := ⟨w.heap.size, 1, none⟩) (HT5.out.grown.block w.heap.size hB3 (fun e => HBn.out.2.1 (by cases e; rfl)))).trans b13) (And.intro ((World.cell?_of_block (a := ⟨w.heap.size, 7, none⟩) (HT5.out.grown.block w.heap.size hB3 (fun e => HBn.out.2.1 (by cases e; rfl)))).trans b73) (And.intro ((World.cell?_of_block (a := ⟨w2.heap.size, 0, none⟩) (HT5.out.grown.block w2.heap.size h3l (fun e => HBn.out.2.2 (by cases e; rfl)))).trans p60) ((World.cell?_of_block (a := ⟨w2.heap.size, 1, none⟩) (HT5.out.grown.block w2.heap.size h3l (fun e => HBn.out.2.2 (by cases e; rfl)))).trans p61))))))
    go_wp2_with fail
    go_region_held3 (fun W => W.cell? ⟨p, 10, none⟩ = some (.map (some b)) ∧ W.cell? ⟨w.heap.size, 1, none⟩ = some (.int .u64 m.fr) ∧ W.cell? ⟨w.heap.size, 7, none⟩ = some (.int .u64 m.hn) ∧ W.cell? ⟨w2.heap.size, 0, none⟩ = some (.int .u64 nx) ∧ W.cell? ⟨w2.heap.size, 1, none⟩ = some (.int .u64 mt)) (first | exact HK5.out | exact HK.out _ (by repeat (first | exact Below.refl _ _ | refine bel_alloc ?_ _ | refine Below.drew ?_))) (first
      | (go_at_call 116; go_must (refine (back9_any nx m.hn _ HNx.out HHn.out).mono ?_); rintro e w4 ⟨rfl, hw⟩; have hw := hw.symm; subst hw))
    all_goals
      have b15 := HK5.out.2.1
      go_wp2_with (first
        | (go_at_call 104; go_must (refine (sendAppend_any X base p (z + 1) N m.fr _ HN5.out.1.any HO5.out hhg HFr.out (by omega)).mono ?_); rintro e w7 ⟨rfl, hp7⟩; have HP7 := hide (NPost.ahead (w := w) (w1 := w3.drew) (by exact HB03.out.drew) (NPost.then HN5.out.2 (fun _ h => .inl h) (hp7.imp (Nat.le_refl _) (R' := Fwd z N) (fun N' e => by rw [e]; exact HFin0.out)))); clear hp7))
      go_end0
      exact ⟨rfl, HP7.out⟩

set_option maxHeartbeats 16000000 in
theorem toldMatch_d (X : Nat → Prop) (base p z : Nat) (N : Nd) (m : MMsg) (w : World) (h : IsNd X w base p z N) (hO : N.Ok z) (hz : z ≤ 38000) (hf : U64 m.fr) (hix : U64 m.ix) (hhn : U64 m.hn) (hr : N.role = 2) (hm : m.fr ∈ N.mem) (hj : m.rj = false) :
    Calls Tryz.prog 64 #[.pointer (some ⟨p, 0, none⟩), .agg #[.int .i64 m.k, .int .u64 m.fr, .int .u64 m.tt, .int .u64 m.tm, .int .u64 m.ix, .int .u64 m.lt, .int .u64 m.cm, .int .u64 m.hn, .bool m.rj, .slice m.ea m.en m.ec, .int .u64 m.si, .int .u64 m.st, .slice m.ma m.mn m.mc, .slice m.sa m.sn m.sc]] w fun e w' => e = .returned (.tuple #[]) ∧ NPost X w base p (z + 2) (Fwd z N) w' := by
  have HO := hide hO
  have hpl := h.at.2
  have hne : ¬ w.heap.size = p := by omega
  have hne2 : ¬ p = w.heap.size := by omega
  have HXB : Hid (¬ X w.heap.size) := fun hx => by have := (h.rng _ hx).2; omega
  have HBx := hide (box14_new w m w.heap.size 49 rfl)
  have hb0w := new_below w (.cells #[.int .i64 m.k, .int .u64 m.fr, .int .u64 m.tt, .int .u64 m.tm, .int .u64 m.ix, .int .u64 m.lt, .int .u64 m.cm, .int .u64 m.hn, .bool m.rj, .slice m.ea m.en m.ec, .int .u64 m.si, .int .u64 m.st, .slice m.ma m.mn m.mc, .slice m.sa m.sn m.sc] 49)
  have HBW := hide hb0w
  have HMe := hide (members_any X base p z N _ (h.keep hb0w) hO.good)
  have HN := hide h
  have HFr := hide hf
  have HIx := hide hix
  have HHn := hide hhn
  have HFin0 : Hid (Fwd z N N) := Fwd.refl hO
  have HJ := hide hj
  clear hj
  have g1 : (N.role != 2) = false := by simpa using hr
  have g2 : decide (m.fr ∈ N.mem) = true := decide_eq_true hm
  have hhg : N.hg = true := hO.r2 hr
  clear h hO hf hix hhn hb0w hm
  go_enter Tryz.func64, Tryz.ntmps64
  go_wp2_with (first
    | (go_at_call 105; go_must (refine (contains_any a2 n2 d2 N.mem m.fr _ HI2.out).mono ?_); rintro e w2b ⟨rfl, hw⟩; have hw := hw.symm; subst hw)
    | (go_at_call 70; go_must (refine HMe.out.mono ?_); rintro e w2 ⟨v2, rfl, hown2, hok2, hb2⟩; obtain ⟨a2, n2, d2, rfl, hI2, hy2⟩ := hown2.is hok2; have HI2 := hide hI2; have HB2 := hide (HBW.out.trans (hb2.mono (by simp))); have HBx2 := hide (HBx.out.keep hb2); have HN2 := hide (HN.out.keep HB2.out); have c42 : w2.cell? ⟨p, 4, none⟩ = some (.int .i64 N.role) := HN2.out.c.2.2.2.1; obtain ⟨-, b12, -⟩ := HBx2.out.c; clear hown2 hok2 hI2 hy2 hb2))
  obtain ⟨q, va, ga, outv, hI⟩ := HN2.out
  obtain ⟨b, rfl⟩ : ∃ b, ga = some b := by
    have := hI.hg
    rw [hhg] at this
    exact Option.isSome_iff_exists.1 this
  have HI := hide hI
  obtain ⟨nx, mt, hnx, hmt, hlook⟩ := look_all (hI.gm b rfl).2 HFr.out
  have hb2l : b < w2.heap.size := mapP_lt (hI.gm b rfl).2
  have c102 : w2.cell? ⟨p, 10, none⟩ = some (.map (some b)) := hI.cell 10 (by decide)
  have hp2 : p < w2.heap.size := hI.at.2
  have hB2 : w.heap.size < w2.heap.size := HBx2.out.2
  have HKT := hide (fun W (hW : Below w2.heap.size w2 W) => And.intro ((hW.cell (p := ⟨p, 10, none⟩) hp2).trans c102) (And.intro ((hW.cell (p := ⟨w.heap.size, 1, none⟩) hB2).trans b12) (hlook W (hW.block b hb2l))))
  have HNx := hide hnx
  have HMt := hide hmt
  have hpn : ¬ w2.heap.size = p := by omega
  have hwn : ¬ w2.heap.size = w.heap.size := by omega
  clear hI hlook hnx hmt
  go_wp2_with fail
  go_region_held3 (fun W => W.cell? ⟨p, 10, none⟩ = some (.map (some b)) ∧ W.cell? ⟨w.heap.size, 1, none⟩ = some (.int .u64 m.fr) ∧ (Instr.lookup 86 (.map (some b)) (.int .u64 m.fr) false).run Tryz.prog W = .ok (.agg #[.int .u64 nx, .int .u64 mt]) W) (first | exact HKT.out _ (by repeat (first | exact Below.refl _ _ | refine bel_alloc ?_ _ | refine Below.drew ?_ | refine Below.setCell (p := ⟨_, _, none⟩) ?_ (by simp) _))) (fail)
  all_goals
    obtain ⟨w3, hw3⟩ : ∃ W, W = (w2.alloc (.cells #[.int .u64 nx, .int .u64 mt] 107)).drew := ⟨_, rfl⟩
    have HB3 : Hid (Below w2.heap.size w2 w3) := by show Below _ _ _; rw [hw3]; exact (by repeat (first | exact Below.refl _ _ | refine bel_alloc ?_ _ | refine Below.drew ?_))
    have p60 : w3.cell? ⟨w2.heap.size, 0, none⟩ = some (.int .u64 nx) := by rw [hw3]; simp
    have p61 : w3.cell? ⟨w2.heap.size, 1, none⟩ = some (.int .u64 mt) := by rw [hw3]; simp
    have h3l : w2.heap.size < w3.heap.size := by rw [hw3]; simp
    rw [← hw3]
    clear hw3 HKT
    have HI3 := hide (HI.out.keep HB3.out)
    have HBx3 := hide (HBx2.out.keep HB3.out)
    have HB03 := hide (HB2.out.trans (HB3.out.mono HB2.out.size))
    obtain ⟨-, b13, -, -, b43, -, -, b73, b83, -⟩ := HBx3.out.c
    have hp3 : p < w3.heap.size := HI3.out.at.2
    have hB3 : w.heap.size < w3.heap.size := HBx3.out.2
    have c103 : w3.cell? ⟨p, 10, none⟩ = some (.map (some b)) := HI3.out.cell 10 (by decide)
    have hj := HJ.out
    have HBn : Hid (b ≠ p ∧ b ≠ w.heap.size ∧ b ≠ w2.heap.size) := ⟨(HI.out.gne rfl).1, fun e => HXB.out (e ▸ (HI.out.gm b rfl).1), by omega⟩
    have c33 : w3.cell? ⟨p, 3, none⟩ = some (.pointer (some ⟨q, 0, none⟩)) := HI3.out.cell 3 (by decide)
    have hG := HO.out.good
    have hi0 := hG.i0
    have hi62 := HO.out.i62
    have hn := HO.out.n
    have HK7 := hide (fun W (hW : Below w3.heap.size w3 W) => And.intro ((hW.cell (p := ⟨w.heap.size, 4, none⟩) hB3).trans b43) (And.intro ((hW.cell (p := ⟨w2.heap.size, 1, none⟩) h3l).trans p61) ((hW.cell (p := ⟨p, 3, none⟩) hp3).trans c33)))
    by_cases h7 : mt < m.ix
    · have g7 : decide (mt < m.ix) = true := decide_eq_true h7
      by_cases h8 : m.ix ≤ N.L.s.i + N.L.es.length
      · have g8 : decide (m.ix ≤ N.L.s.i + (N.L.es.length : Int)) = true := decide_eq_true h8
        have hixU := HIx.out
        have hwx : IntKind.u64.wrap (m.ix + 1) = m.ix + 1 := kwrap_u64 _ (by have := hixU.1; omega) (by omega)
        go_wp2_with fail
        go_region_held3 (fun W => W.cell? ⟨w.heap.size, 4, none⟩ = some (.int .u64 m.ix) ∧ W.cell? ⟨w2.heap.size, 1, none⟩ = some (.int .u64 mt) ∧ W.cell? ⟨p, 3, none⟩ = some (.pointer (some ⟨q, 0, none⟩))) (first | exact HK7.out _ (by repeat (first | exact Below.refl _ _ | refine bel_alloc ?_ _ | refine Below.drew ?_))) (first
          | (go_at_call 81; go_must (refine (nlast_any X base q N.L _ (HI3.out.log.keep (by repeat (first | exact Below.refl _ _ | refine bel_alloc ?_ _ | refine Below.drew ?_))) HO.out.good).mono ?_); rintro e w4 ⟨rfl, hw⟩; have hw := hw.symm; subst hw))
        all_goals
          have HK8 := hide (fun W (hW : Below w3.heap.size w3 W) => (And.intro ((hW.cell (p := ⟨p, 10, none⟩) hp3).trans c103) (And.intro ((hW.cell (p := ⟨w.heap.size, 1, none⟩) hB3).trans b13) ((hW.cell (p := ⟨w.heap.size, 4, none⟩) hB3).trans b43))))
          obtain ⟨w5, hset, hM5, ht5⟩ := run_setP w3.drew.drew.drew b z (mapP_same (HI3.out.gm b rfl).2 rfl) (by omega) m.fr (m.ix + 1) m.ix HFr.out ⟨by have := hixU.1; omega, by omega⟩ HIx.out
          have HT5 := hide ht5
          have HN5 := hide (((HI3.out.keep (by repeat (first | exact Below.refl _ _ | refine bel_alloc ?_ _ | refine Below.drew ?_))).turnG (z' := z + 1) hM5 ht5 (by omega)))
          have HO5 := hide (HO.out.mono (z' := z + 1) (by omega))
          clear hM5 ht5
          have HK85 := hide ((And.intro ((World.cell?_of_block (a := ⟨p, 10, none⟩) (HT5.out.grown.block p hp3 (fun e => HBn.out.1 (by cases e; rfl)))).trans c103) (And.intro ((World.cell?_of_block (a := ⟨w.heap.size, 1, none⟩) (HT5.out.grown.block w.heap.size hB3 (fun e => HBn.out.2.1 (by cases e; rfl)))).trans b13) ((World.cell?_of_block (a := ⟨w.heap.size, 4, none⟩) (HT5.out.grown.block w.heap.size hB3 (fun e => HBn.out.2.1 (by cases e; rfl)))).trans b43))))
          go_wp2_with fail
          go_region_held3 (fun W => W.cell? ⟨p, 10, none⟩ = some (.map (some b)) ∧ W.cell? ⟨w.heap.size, 1, none⟩ = some (.int .u64 m.fr) ∧ W.cell? ⟨w.heap.size, 4, none⟩ = some (.int .u64 m.ix)) (first | exact HK85.out | exact HK8.out _ (by repeat (first | exact Below.refl _ _ | refine bel_alloc ?_ _ | refine Below.drew ?_))) (fail)
          all_goals
            go_wp2_with (first
              | (go_at_call 117; go_must (refine (commitM_any X base p (z + 1) N _ HN5.out.1.any HO5.out hhg (by omega)).mono ?_); rintro e w6 ⟨rfl, hp6⟩; obtain ⟨X6, N6, hN6, hC6, hK6, hX6⟩ := hp6; have HN6 := hide hN6; have HC6 := hide hC6; have HK6 := hide hK6; have HX6 := hide hX6; have HBx6 := hide (((HBx3.out.keep (w' := w3.drew.drew.drew) (by repeat (first | exact Below.refl _ _ | refine bel_alloc ?_ _ | refine Below.drew ?_))).lies HN5.out.2 HXB.out).lies hK6 HXB.out); obtain ⟨-, b16, -, -, b46, -⟩ := HBx6.out.c; obtain ⟨q6, c36, hL6⟩ := hN6.log; have hL6e : N6.L = N.L := hC6.hg.2.1; rw [hL6e] at hL6; have HL6 := hide hL6; have hp6l : p < w6.heap.size := hN6.at.2; have hB6 : w.heap.size < w6.heap.size := HBx6.out.2; clear hN6 hC6 hK6 hX6 hL6))
            have HFw6 : Hid (Fwd z N N6) := ⟨HC6.out.fw, HC6.out.ok HO.out⟩
            have HK10 := hide (fun W (hW : Below w6.heap.size w6 W) => And.intro ((hW.cell (p := ⟨w.heap.size, 4, none⟩) hB6).trans b46) ((hW.cell (p := ⟨p, 3, none⟩) hp6l).trans c36))
            by_cases h9 : m.ix < N.L.s.i + N.L.es.length
            · have g9 : decide (m.ix < N.L.s.i + (N.L.es.length : Int)) = true := decide_eq_true h9
              go_region_held3 (fun W => W.cell? ⟨w.heap.size, 4, none⟩ = some (.int .u64 m.ix) ∧ W.cell? ⟨p, 3, none⟩ = some (.pointer (some ⟨q6, 0, none⟩))) (first | exact HK10.out _ (by repeat (first | exact Below.refl _ _ | refine bel_alloc ?_ _ | refine Below.drew ?_))) (first
                | (go_at_call 81; go_must (refine (nlast_any X6 base q6 N.L _ (HL6.out.keep (by repeat (first | exact Below.refl _ _ | refine bel_alloc ?_ _ | refine Below.drew ?_))) HO.out.good).mono ?_); rintro e w7 ⟨rfl, hw⟩; have hw := hw.symm; subst hw))
              all_goals
                go_wp2_with (first
                  | (go_at_call 104; go_must (refine (sendAppend_any X6 base p (z + 1) N6 m.fr _ (HN6.out.keep (by repeat (first | exact Below.refl _ _ | refine bel_alloc ?_ _ | refine Below.drew ?_))) (HC6.out.ok HO5.out) (HC6.out.hg.1.trans hhg) HFr.out (by omega)).mono ?_); rintro e w8 ⟨rfl, hp8⟩; have HP8 := hide (NPost.ahead (w := w) (w1 := w3.drew.drew.drew) (by exact HB03.out.drew.drew.drew) (NPost.then HN5.out.2 (fun _ h => .inl h) (NPost.then HK6.out HX6.out (NPost.ahead (w := w6) (w1 := _) (by repeat (first | exact Below.refl _ _ | refine bel_alloc ?_ _ | refine Below.drew ?_)) (hp8.imp (Nat.le_refl _) (R' := Fwd z N) (fun N' e => by rw [e]; exact HFw6.out)))))); clear hp8))
                go_end0
                exact ⟨rfl, HP8.out⟩
            · have g9 : decide (m.ix < N.L.s.i + (N.L.es.length : Int)) = false := decide_eq_false h9
              clear h9
              go_region_held3 (fun W => W.cell? ⟨w.heap.size, 4, none⟩ = some (.int .u64 m.ix) ∧ W.cell? ⟨p, 3, none⟩ = some (.pointer (some ⟨q6, 0, none⟩))) (first | exact HK10.out _ (by repeat (first | exact Below.refl _ _ | refine bel_alloc ?_ _ | refine Below.drew ?_))) (first
                | (go_at_call 81; go_must (refine (nlast_any X6 base q6 N.L _ (HL6.out.keep (by repeat (first | exact Below.refl _ _ | refine bel_alloc ?_ _ | refine Below.drew ?_))) HO.out.good).mono ?_); rintro e w7 ⟨rfl, hw⟩; have hw := hw.symm; subst hw))
              all_goals
                go_wp2
                go_end0
                exact ⟨rfl, NPost.ahead (w := w) (w1 := w3.drew.drew.drew) (by exact HB03.out.drew.drew.drew) (NPost.then HN5.out.2 (fun _ h => .inl h) (NPost.behind ⟨X6, N6, HN6.out.mono (by omega), HFw6.out, HK6.out, HX6.out⟩ (by repeat (first | exact Below.refl _ _ | refine bel_alloc ?_ _ | refine Below.drew ?_))))⟩
      · have g8 : decide (m.ix ≤ N.L.s.i + (N.L.es.length : Int)) = false := decide_eq_false h8
        go_wp2_with fail
        go_region_held3 (fun W => W.cell? ⟨w.heap.size, 4, none⟩ = some (.int .u64 m.ix) ∧ W.cell? ⟨w2.heap.size, 1, none⟩ = some (.int .u64 mt) ∧ W.cell? ⟨p, 3, none⟩ = some (.pointer (some ⟨q, 0, none⟩))) (first | exact HK7.out _ (by repeat (first | exact Below.refl _ _ | refine bel_alloc ?_ _ | refine Below.drew ?_))) (first
          | (go_at_call 81; go_must (refine (nlast_any X base q N.L _ (HI3.out.log.keep (by repeat (first | exact Below.refl _ _ | refine bel_alloc ?_ _ | refine Below.drew ?_))) HO.out.good).mono ?_); rintro e w4 ⟨rfl, hw⟩; have hw := hw.symm; subst hw))
        all_goals
          go_wp2
          go_end0
          exact ⟨rfl, NPost.behind (NPost.of (HN.out.mono (by omega)) HFin0.out (Keeps.self _ _)) (Below.trans (b := w3) HB03.out (Below.mono (by repeat (first | exact Below.refl _ _ | refine bel_alloc ?_ _ | refine Below.drew ?_)) HB03.out.size))⟩
    · have g7 : decide (mt < m.ix) = false := decide_eq_false h7
      clear h7
      go_wp2_with fail
      refine startT (by kernel_rfl) ?_
      refine' takeT (i := 0) (v := _) rfl (by kernel_rfl) (by kernel_rfl) (by kernel_rfl) (fun _ _ _ h => h) (by rfl) (Below.refl _ _) ?_ ?_; rotate_left
      · (intro W hSw; obtain ⟨y0, y1, y2⟩ := HK7.out W (bel_undrew9 hSw); go_simp; all_goals (with_reducible rfl))
      (try simp only [Act.put, List.setIfInBounds_toArray, List.set_cons_zero, List.set_cons_succ])
      refine' takeT (i := 1) (v := _) rfl (by kernel_rfl) (by kernel_rfl) (by kernel_rfl) (fun _ _ _ h => h) (by rfl) (Below.refl _ _) ?_ ?_; rotate_left
      · (intro W hSw; obtain ⟨y0, y1, y2⟩ := HK7.out W (bel_undrew9 hSw); go_simp; all_goals (with_reducible rfl))
      (try simp only [Act.put, List.setIfInBounds_toArray, List.set_cons_zero, List.set_cons_succ])
      refine' takeT (i := 2) (v := _) rfl (by kernel_rfl) (by kernel_rfl) (by kernel_rfl) (fun _ _ _ h => h) (by rfl) (Below.refl _ _) ?_ ?_; rotate_left
      · (intro W hSw; obtain ⟨y0, y1, y2⟩ := HK7.out W (bel_undrew9 hSw); go_simp; all_goals (with_reducible rfl))
      (try simp only [Act.put, List.setIfInBounds_toArray, List.set_cons_zero, List.set_cons_succ])
      refine' takeT (i := 3) (v := _) rfl (by kernel_rfl) (by kernel_rfl) (by kernel_rfl) (fun _ _ _ h => h) (by rfl) (Below.refl _ _) ?_ ?_; rotate_left
      · (intro W hSw; obtain ⟨y0, y1, y2⟩ := HK7.out W (bel_undrew9 hSw); go_simp; all_goals (with_reducible rfl))
      (try simp only [Act.put, List.setIfInBounds_toArray, List.set_cons_zero, List.set_cons_succ])
      refine' takeT (i := 4) (v := _) rfl (by kernel_rfl) (by kernel_rfl) (by kernel_rfl) (fun _ _ _ h => h) (by rfl) (Below.refl _ _) ?_ ?_; rotate_left
      · (intro W hSw; obtain ⟨y0, y1, y2⟩ := HK7.out W (bel_undrew9 hSw); go_simp; all_goals (with_reducible rfl))
      (try simp only [Act.put, List.setIfInBounds_toArray, List.set_cons_zero, List.set_cons_succ])
      refine' takeT (i := 5) (v := _) rfl (by kernel_rfl) (by kernel_rfl) (by kernel_rfl) (fun _ _ _ h => h) (by rfl) (Below.refl _ _) ?_ ?_; rotate_left
      · (intro W hSw; obtain ⟨y0, y1, y2⟩ := HK7.out W (bel_undrew9 hSw); go_simp; all_goals (with_reducible rfl))
      (try simp only [Act.put, List.setIfInBounds_toArray, List.set_cons_zero, List.set_cons_succ])
      refine skipT (i := 6) rfl (by kernel_rfl) (by kernel_rfl) (by kernel_rfl) (fun _ _ _ h => h) (by rfl) (Below.refl _ _) ?_
      (try simp only [Act.put, List.setIfInBounds_toArray, List.set_cons_zero, List.set_cons_succ])
      refine skipT (i := 7) rfl (by kernel_rfl) (by kernel_rfl) (by kernel_rfl) (fun _ _ _ h => h) (by rfl) (Below.refl _ _) ?_
      (try simp only [Act.put, List.setIfInBounds_toArray, List.set_cons_zero, List.set_cons_succ])
      refine skipT (i := 8) rfl (by kernel_rfl) (by kernel_rfl) (by kernel_rfl) (fun _ _ _ h => h) (by rfl) (Below.refl _ _) ?_
      (try simp only [Act.put, List.setIfInBounds_toArray, List.set_cons_zero, List.set_cons_succ])
      refine skipT (i := 9) rfl (by kernel_rfl) (by kernel_rfl) (by kernel_rfl) (fun _ _ _ h => h) (by rfl) (Below.refl _ _) ?_
      (try simp only [Act.put, List.setIfInBounds_toArray, List.set_cons_zero, List.set_cons_succ])
      refine skipT (i := 10) rfl (by kernel_rfl) (by kernel_rfl) (by kernel_rfl) (fun _ _ _ h => h) (by rfl) (Below.refl _ _) ?_
      (try simp only [Act.put, List.setIfInBounds_toArray, List.set_cons_zero, List.set_cons_succ])
      refine skipT (i := 11) rfl (by kernel_rfl) (by kernel_rfl) (by kernel_rfl) (fun _ _ _ h => h) (by rfl) (Below.refl _ _) ?_
      (try simp only [Act.put, List.setIfInBounds_toArray, List.set_cons_zero, List.set_cons_succ])
      refine skipT (i := 12) rfl (by kernel_rfl) (by kernel_rfl) (by kernel_rfl) (fun _ _ _ h => h) (by rfl) (Below.refl _ _) ?_
      (try simp only [Act.put, List.setIfInBounds_toArray, List.set_cons_zero, List.set_cons_succ])
      refine skipT (i := 13) rfl (by kernel_rfl) (by kernel_rfl) (by kernel_rfl) (fun _ _ _ h => h) (by rfl) (Below.refl _ _) ?_
      (try simp only [Act.put, List.setIfInBounds_toArray, List.set_cons_zero, List.set_cons_succ])
      refine' takeT (i := 14) (v := _) rfl (by kernel_rfl) (by kernel_rfl) (by kernel_rfl) (fun _ _ _ h => h) (by rfl) (Below.refl _ _) ?_ ?_; rotate_left
      · (intro W hSw; obtain ⟨y0, y1, y2⟩ := HK7.out W (bel_undrew9 hSw); go_simp; all_goals (with_reducible rfl))
      (try simp only [Act.put, List.setIfInBounds_toArray, List.set_cons_zero, List.set_cons_succ])
      refine' takeT (i := 15) (v := _) rfl (by kernel_rfl) (by kernel_rfl) (by kernel_rfl) (fun _ _ _ h => h) (by rfl) (Below.refl _ _) ?_ ?_; rotate_left
      · (intro W hSw; obtain ⟨y0, y1, y2⟩ := HK7.out W (bel_undrew9 hSw); go_simp; all_goals (with_reducible rfl))
      (try simp only [Act.put, List.setIfInBounds_toArray, List.set_cons_zero, List.set_cons_succ])
      refine wpAnyH_done (by kernel_rfl) ?_ _
      go_wp2
      go_end0
      exact ⟨rfl, NPost.behind (NPost.of (HN.out.mono (by omega)) HFin0.out (Keeps.self _ _)) (Below.trans (b := w3) HB03.out (Below.mono (by repeat (first | exact Below.refl _ _ | refine bel_alloc ?_ _ | refine Below.drew ?_)) HB03.out.size))⟩

theorem toldMatch_any (X : Nat → Prop) (base p z : Nat) (N : Nd) (m : MMsg) (w : World) (h : IsNd X w base p z N) (hO : N.Ok z) (hz : z ≤ 38000) (hf : U64 m.fr) (hix : U64 m.ix) (hhn : U64 m.hn) :
    Calls Tryz.prog 64 #[.pointer (some ⟨p, 0, none⟩), .agg #[.int .i64 m.k, .int .u64 m.fr, .int .u64 m.tt, .int .u64 m.tm, .int .u64 m.ix, .int .u64 m.lt, .int .u64 m.cm, .int .u64 m.hn, .bool m.rj, .slice m.ea m.en m.ec, .int .u64 m.si, .int .u64 m.st, .slice m.ma m.mn m.mc, .slice m.sa m.sn m.sc]] w fun e w' => e = .returned (.tuple #[]) ∧ NPost X w base p (z + 2) (Fwd z N) w' := by
  by_cases hr : N.role = 2
  · by_cases hm : m.fr ∈ N.mem
    · cases hj : m.rj with
      | true => have := toldMatch_c X base p z N m w h hO hz hf hix hhn hr hm hj; rw [hj] at this; exact this
      | false => have := toldMatch_d X base p z N m w h hO hz hf hix hhn hr hm hj; rw [hj] at this; exact this
    · exact toldMatch_b X base p z N m w h hO hz hf hix hhn hr hm
  · exact toldMatch_a X base p z N m w h hO hz hf hix hhn hr

end Go.Proofs.YtodmieehdleohaaGreat
