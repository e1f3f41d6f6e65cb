/- A mesh: hold. -/
import Derived.Test.YtodmieehdleohaaMs5
namespace Go.Proofs.Ytodmieehdleohaa
open Go.RowKit NumMath Go.ChangeShapes Go.WideShapes Go.Deep
set_option linter.unusedVariables false
set_option maxRecDepth 100000

theorem Seg.any {w : World} {sz : Nat} {v : Value} {n : Nat} {xs : List Value} (h : Seg w sz v n xs) : ∃ a n' c, v = .slice a n' c := by
  obtain ⟨a, c, e, _⟩ := h.form
  exact ⟨a, n, c, e⟩

/-- a list with more behind it, stored -/
theorem IsMesh.push {w w' : World} {base p z : Nat} {cs : Nat → Value} {F : List (Int × Int)} {C : Int → Int → Bool} {Q : Nat → List MMsg} (h : IsMesh w base p z cs F C Q) (hbase : base ≤ w.heap.size) (i : Nat) (h2 : 2 ≤ i) (hi : i < 103) (v0 : Value) (e0 : cs i = v0) (hk : Keeps (fun k => v0.ownBlock = some k) w w') (v' : Value) (l2 : List MMsg) (hs : Seg w' 14 v' (Q i ++ l2).length (cellsG (Q i ++ l2))) (hat : AtB w v0 v') (hd : ∀ m ∈ l2, m.okX (Spine p cs) w) :
    IsMesh (w'.setCell ⟨p, i, none⟩ v') base p z (upd cs i v') F C (upd Q i (Q i ++ l2)) ∧ Keeps (Spine p cs) w (w'.setCell ⟨p, i, none⟩ v') ∧ ∀ k, Spine p (upd cs i v') k → Spine p cs k ∨ w.heap.size ≤ k := by
  subst e0
  have hbi := blk_own (h.seg i h2 hi)
  refine h.put hbase i h2 hi hk v' _ hs hat (fun m hm => ?_)
  have h1 : m.okX (Spine p cs) w := by
    rcases List.mem_append.1 hm with h1 | h1
    · exact h.dat i m h2 hi h1
    · exact hd m h1
  refine (h1.more (Y := fun k => Spine p cs k ∨ v'.ownBlock = some k) (fun k hk' => ?_)).lies hk (fun k e => .inl (.inr ⟨i, hi, by rw [hbi]; exact e⟩))
  rcases hk' with hk' | hk'
  · exact .inl hk'
  · rcases hat with h3 | ⟨g, h3, h4⟩
    · rw [h3] at hk'
      exact .inl (.inr ⟨i, hi, by rw [hbi]; exact hk'⟩)
    · rw [hk'] at h3
      cases h3
      exact .inr h4

/-- append of messages, at a step of a region that draws its order -/
theorem step_segG {ops : Array Oper} {o : Oper} {a : Act} {K : Act → World → Prop} {Q : Exit → Act → World → Prop} {E : Prop} (w : World) (hgd : Region.wanted o (yielded ops a.tmps) = true) (s x : Operand)
    (ho : o.op = .call { callee := .builtin .append, args := #[s, x], argTypes := #[46, 46] }) (v : Value) (l : List MMsg) (hs : a.eval s = v) (h : Seg w 14 v l.length (cellsG l)) (sa : Option Addr) (m c : Nat) (l2 : List MMsg) (hx : a.eval x = .slice sa m c) (hl : l2.length = m)
    (hys : m = 0 ∨ ∃ ad, sa = some ad ∧ ∀ j u, (cellsG l2)[j]? = some u → w.cell? (ad.add j) = some u) (hbig : l.length + l2.length ≤ 1000000)
    (hK : ∀ v' w', Seg w' 14 v' (l ++ l2).length (cellsG (l ++ l2)) → Keeps (fun k => v.ownBlock = some k) w w' → AtB w v v' → K (a.put o.dst v') w') :
    if Region.wanted o (yielded ops a.tmps) = true then Oper.wp Try.prog o a w K Q else E := by
  rw [if_pos hgd]
  obtain ⟨i0, hi, hz0, hz1, hz2⟩ := info_parts infoMsg
  obtain ⟨v', w', hr, h1, h2, h3⟩ := run_seg w 46 o.type 39 i0 _ 14 160 Try.underlying46 hi hz0 hz1 hz2 rfl (by decide) v l.length (cellsG l) h sa m c (cellsG l2) (by rw [cellsG_len, hl]) hys (cellsG_one l2) (by unfold maxLen; omega) (by omega)
  unfold Oper.wp execOp
  simp only [ho, resolve, invoke, builtin, Sem.run_bind, Sem.run_pure, Result.andThen_ok, List.map_toArray, List.map_cons, List.map_nil, hs, hx, hr]
  exact hK v' w' (by rw [List.length_append, cellsG_append, hl]; exact h1) h2 h3

/-- one message in a slice of its own -/
theorem cellsG_made (w : World) (m : MMsg) (g : Nat) (ty : TypeId) (hg : w.heap.size = g) : ∀ j u, (cellsG [m])[j]? = some u → (w.alloc (.cells #[.int .i64 m.k, .int .u64 m.fr, .int .u64 m.tt, .int .u64 m.tm, .int .u64 m.ix, .int .u64 m.lt, .int .u64 m.cm, .int .u64 m.hn, .bool m.rj, .slice m.ea m.en m.ec, .int .u64 m.si, .int .u64 m.st, .slice m.ma m.mn m.mc, .slice m.sa m.sn m.sc] ty)).cell? ((⟨g, 0, none⟩ : Addr).add j) = some u := by
  intro j u hu
  rw [add_plain]
  refine (boxG_new w m g ty hg).c j u ?_
  simpa [cellsG] using hu

theorem pushAt {w : World} {base p z : Nat} {cs : Nat → Value} {F : List (Int × Int)} {C : Int → Int → Bool} {Q : Nat → List MMsg} {i : Nat} {l' : List MMsg} {v' : Value} {W W' : World} (hb : Below w.heap.size w W) (h : IsMesh W' base p z (upd cs i v') F C (upd Q i l') ∧ Keeps (Spine p cs) W W' ∧ ∀ k, Spine p (upd cs i v') k → Spine p cs k ∨ W.heap.size ≤ k) : MPost w base p z cs F C (upd Q i l') W' :=
  ⟨_, h.1, kpThen (Below.keeps hb _) (fun k hk => .inl hk) h.2.1, fun k hk => (h.2.2 k hk).imp id (fun h1 => Nat.le_trans hb.size h1)⟩

theorem MPost.behind {w w1 w2 : World} {base p z : Nat} {cs : Nat → Value} {F : List (Int × Int)} {C : Int → Int → Bool} {Q : Nat → List MMsg} (h : MPost w base p z cs F C Q w1) (hb : Below w1.heap.size w1 w2) : MPost w base p z cs F C Q w2 := by
  obtain ⟨cs', h1, h2, h3⟩ := h
  exact ⟨cs', h1.keep hb, kpBelow h2 hb, h3⟩

set_option maxHeartbeats 4000000 in
theorem hold_now (base p z : Nat) (cs : Nat → Value) (F : List (Int × Int)) (C : Int → Int → Bool) (Q : Nat → List MMsg) (m : MMsg) (w : World) (h : IsMesh w base p z cs F C Q) (hm : m.okX (Spine p cs) w) (hbig : (Q 2).length ≤ 999999) :
    Calls Try.prog 24 #[.pointer (some ⟨p, 0, none⟩), .agg #[.int .i64 m.k, .int .u64 m.fr, .int .u64 m.tt, .int .u64 m.tm, .int .u64 m.ix, .int .u64 m.lt, .int .u64 m.cm, .int .u64 m.hn, .bool m.rj, .slice m.ea m.en m.ec, .int .u64 m.si, .int .u64 m.st, .slice m.ma m.mn m.mc, .slice m.sa m.sn m.sc], .int .i64 0] w fun e w' => e = .returned (.tuple #[]) ∧ MPost w base p z cs F C (upd Q 2 (Q 2 ++ [m])) w' := by
  have H := hide h
  have HM := hide hm
  have c2 := h.cell 2 (by decide)
  have f2 := h.fz 2
  have hpl := h.pb.2
  have hpb := h.pb.1
  have hne : ¬ w.heap.size = p := by omega
  have hne2 : ¬ p = w.heap.size := by omega
  have hne3 : ¬ w.heap.size + 1 = p := by omega
  have hne4 : ¬ p = w.heap.size + 1 := by omega
  have HS := hide (h.seg 2 (by decide) (by decide))
  have HO : Hid (¬ (cs 2).ownBlock = some p) := fun e => h.op 2 (by decide) (by rw [blk_own (h.seg 2 (by decide) (by decide))]; exact e)
  obtain ⟨a2, d2, e2, -, -⟩ := HS.out.form
  rw [e2] at c2
  have hss := HS.out
  rw [e2] at hss
  have HSs := hide hss
  clear hss
  have HE2 := hide e2
  clear h hm e2
  go_enter Try.func24, Try.ntmps24
  go_wp2_with fail
  go_region_law (first
    | (go_must (refine step_segG _ (by rfl) (.tmp 12) (.tmp 14) (by rfl) (.slice a2 (Q 2).length d2) (Q 2) (by rfl) (HSs.out.keep (by repeat (first | exact Below.refl _ _ | refine belA ?_ _ | refine Below.drew ?_))) (some ⟨w.heap.size + 1, 0, none⟩) 1 1 [m] (by rfl) rfl (.inr ⟨_, rfl, cellsG_made _ m _ _ (by simp)⟩) (by simp; omega) ?_); intro v3 w3 hs3 hk3 hat3; obtain ⟨a3, n3, d3, rfl⟩ := hs3.any; have HP := hide (pushAt (w := w) (by repeat (first | exact Below.refl _ _ | refine belA ?_ _ | refine Below.drew ?_)) ((H.out.keep (by repeat (first | exact Below.refl _ _ | refine belA ?_ _ | refine Below.drew ?_))).push (by simp; omega) 2 (by decide) (by decide) _ HE2.out hk3 _ [m] hs3 hat3 (fun x hx => by rw [List.mem_singleton.1 hx]; exact HM.out.keep (by repeat (first | exact Below.refl _ _ | refine belA ?_ _ | refine Below.drew ?_))))); have e3 := (show w3.heap[p]? = w.heap[p]? from (hk3.block p (by simp; omega) (by rw [← HE2.out]; exact HO.out)).trans (Below.block (B := w.heap.size) (by repeat (first | exact Below.refl _ _ | refine belA ?_ _ | refine Below.drew ?_)) p hpl)); have c23 := (World.cell?_of_block (a := ⟨p, 2, none⟩) e3).trans c2; have f23 := (World.frozen?_of_block (a := ⟨p, 2, none⟩) e3).trans f2; clear hs3 hk3 hat3 e3))
  all_goals
    go_wp2
    refine bodyPost_ret (results_none rfl _ _ _) rfl ?_
    exact ⟨rfl, HP.out.behind (by repeat (first | exact Below.refl _ _ | refine belA ?_ _ | refine Below.drew ?_))⟩

set_option maxHeartbeats 4000000 in
theorem hold_later (base p z : Nat) (cs : Nat → Value) (F : List (Int × Int)) (C : Int → Int → Bool) (Q : Nat → List MMsg) (m : MMsg) (j : Nat) (hj : j < 100) (w : World) (h : IsMesh w base p z cs F C Q) (hm : m.okX (Spine p cs) w) (hbig : (Q (3 + j)).length ≤ 999999) :
    Calls Try.prog 24 #[.pointer (some ⟨p, 0, none⟩), .agg #[.int .i64 m.k, .int .u64 m.fr, .int .u64 m.tt, .int .u64 m.tm, .int .u64 m.ix, .int .u64 m.lt, .int .u64 m.cm, .int .u64 m.hn, .bool m.rj, .slice m.ea m.en m.ec, .int .u64 m.si, .int .u64 m.st, .slice m.ma m.mn m.mc, .slice m.sa m.sn m.sc], .int .i64 ((j : Int) + 1)] w fun e w' => e = .returned (.tuple #[]) ∧ MPost w base p z cs F C (upd Q (3 + j) (Q (3 + j) ++ [m])) w' := by
  have H := hide h
  have HM := hide hm
  have hj3 : 2 ≤ 3 + j := by omega
  have hj4 : 3 + j < 103 := by omega
  have c2 := h.cell (3 + j) hj4
  have f2 := h.fz (3 + j)
  have hpl := h.pb.2
  have hpb := h.pb.1
  have hne : ¬ w.heap.size = p := by omega
  have hne2 : ¬ p = w.heap.size := by omega
  have hne3 : ¬ w.heap.size + 1 = p := by omega
  have hne4 : ¬ p = w.heap.size + 1 := by omega
  have HS := hide (h.seg (3 + j) hj3 hj4)
  have HO : Hid (¬ (cs (3 + j)).ownBlock = some p) := fun e => h.op (3 + j) hj4 (by rw [blk_own (h.seg (3 + j) hj3 hj4)]; exact e)
  obtain ⟨a2, d2, e2, -, -⟩ := HS.out.form
  rw [e2] at c2
  have hss := HS.out
  rw [e2] at hss
  have HSs := hide hss
  clear hss
  have HE2 := hide e2
  have HJ3 := hide hj3
  have HJ4 := hide hj4
  have t0 : ((j : Int) + 1 == 0) = false := by simp; omega
  have t0' : ((j : Int) + 1 = 0) = False := by simp; omega
  have w1 : IntKind.i64.wrap ((j : Int) + 1 - 1) = (j : Int) := by rw [Int.add_sub_cancel]; exact kwI _ (by omega) (by omega)
  have w2 : IntKind.i64.wrap (j : Int) = (j : Int) := kwI _ (by omega) (by omega)
  have hjI : (j : Int) < 100 := by omega
  clear h hm e2 hj3 hj4
  go_enter Try.func24, Try.ntmps24
  go_wp2_with fail
  go_region_law (first
    | (go_must (refine step_segG _ (by rfl) (.tmp 27) (.tmp 29) (by rfl) (.slice a2 (Q (3 + j)).length d2) (Q (3 + j)) (by rfl) (HSs.out.keep (by repeat (first | exact Below.refl _ _ | refine belA ?_ _ | refine Below.drew ?_))) (some ⟨w.heap.size + 1, 0, none⟩) 1 1 [m] (by rfl) rfl (.inr ⟨_, rfl, cellsG_made _ m _ _ (by simp)⟩) (by simp; omega) ?_); intro v3 w3 hs3 hk3 hat3; obtain ⟨a3, n3, d3, rfl⟩ := hs3.any; have HP := hide (pushAt (w := w) (by repeat (first | exact Below.refl _ _ | refine belA ?_ _ | refine Below.drew ?_)) ((H.out.keep (by repeat (first | exact Below.refl _ _ | refine belA ?_ _ | refine Below.drew ?_))).push (by simp; omega) (3 + j) HJ3.out HJ4.out _ HE2.out hk3 _ [m] hs3 hat3 (fun x hx => by rw [List.mem_singleton.1 hx]; exact HM.out.keep (by repeat (first | exact Below.refl _ _ | refine belA ?_ _ | refine Below.drew ?_))))); have e3 := (show w3.heap[p]? = w.heap[p]? from (hk3.block p (by simp; omega) (by rw [← HE2.out]; exact HO.out)).trans (Below.block (B := w.heap.size) (by repeat (first | exact Below.refl _ _ | refine belA ?_ _ | refine Below.drew ?_)) p hpl)); have c23 := (World.cell?_of_block (a := ⟨p, 3 + j, none⟩) e3).trans c2; have f23 := (World.frozen?_of_block (a := ⟨p, 3 + j, none⟩) e3).trans f2; clear hs3 hk3 hat3 e3))
  all_goals
    go_wp2
    go_end0
    exact ⟨rfl, HP.out.behind (by repeat (first | exact Below.refl _ _ | refine belA ?_ _ | refine Below.drew ?_))⟩

end Go.Proofs.Ytodmieehdleohaa
