/- The reference's mesh: Cut. -/
import Derived.Test.YtodmieehdleohaaMx1
namespace Go.Proofs.Ytodmieehdleohaa
open Go.RowKit NumMath Go.ChangeShapes Go.WideShapes Go.Deep
set_option linter.unusedVariables false
set_option maxRecDepth 100000

theorem infoPr : (Try.prog.info? 66).map (fun i => (i.zero, i.size, i.bytes)) = some (some (.agg #[.int .u64 0, .int .u64 0]), 2, 16) := by kernel_rfl

/-- append of a pair -/
theorem wp_segK {ops : Array Oper} {rest : List Oper} {o : Oper} {a : Act} {Q : Exit → Act → World → Prop} (w : World) (hgd : o.guard = none) (s x : Operand)
    (ho : o.op = .call { callee := .builtin .append, args := #[s, x], argTypes := #[28, 28] }) (v : Value) (l : List (Int × Int)) (hs : a.eval s = v) (h : Seg w 2 v l.length (cellsK l)) (g : Nat) (u0 u1 : Int) (hx : a.eval x = .slice (some ⟨g, 0, none⟩) 1 1) (c0 : w.cell? ⟨g, 0, none⟩ = some (.int .u64 u0)) (c1 : w.cell? ⟨g, 1, none⟩ = some (.int .u64 u1)) (hbig : l.length ≤ 1000000)
    (hK : ∀ v' w', Seg w' 2 v' (l ++ [(u0, u1)]).length (cellsK (l ++ [(u0, u1)])) → Keeps (fun k => v.ownBlock = some k) w w' → AtB w v v' → wpList Try.prog ops Q rest (a.put o.dst v') w') : wpList Try.prog ops Q (o :: rest) a w := by
  refine wpList_plain hgd fun K hK' => ?_
  obtain ⟨i0, hi, hz0, hz1, hz2⟩ := info_parts infoPr
  obtain ⟨v', w', hr, h1, h2, h3⟩ := run_seg w 28 o.type 66 i0 _ 2 16 Try.underlying28 hi hz0 hz1 hz2 rfl (by decide) v l.length (cellsK l) h (some ⟨g, 0, none⟩) 1 1 (cellsK [(u0, u1)]) (by simp [cellsK]) (.inr ⟨_, rfl, fun j u hu => by
    rw [add_plain, Nat.zero_add]
    have hj : j < 2 := (List.getElem?_eq_some_iff.1 hu).1
    match j, hj with
    | 0, _ => cases hu; exact c0
    | 1, _ => cases hu; exact c1⟩) (cellsK_one _) (by unfold maxLen; omega) (by omega)
  unfold Oper.wp execOp
  simp only [ho, resolve, invoke, builtin, Sem.run_bind, Sem.run_pure, Result.andThen_ok, List.map_toArray, List.map_cons, List.map_nil, hs, hx, hr]
  exact hK' _ _ (hK v' w' (by rw [List.length_append]; unfold cellsK at *; rw [List.flatMap_append]; exact h1) h2 h3)

def outK (x y : Int) (p : Int × Int) : Bool := !(p == (x, y)) && !(p == (y, x))
def cutK (K : List (Int × Int)) (x y : Int) (c : Bool) : List (Int × Int) := K.filter (outK x y) ++ (if c then [(x, y)] else [])

theorem filter_take {α : Type} (l : List α) (f : α → Bool) (d : α) (k : Nat) (hk : k < l.length) : (l.take (k + 1)).filter f = (l.take k).filter f ++ (if f (l.getD k d) then [l.getD k d] else []) := by
  rw [List.take_add_one, List.filter_append]
  simp [List.getD, List.getElem?_eq_getElem hk]
  split <;> simp_all

set_option maxHeartbeats 8000000 in
theorem xcut_any (base q : Nat) (fa : Option Addr) (fl fc s now : Nat) (kv wv : Value) (K : List (Int × Int)) (L : List (MMsg × Int)) (x y : Int) (c : Bool) (w : World) (h : IsX w base q fa fl fc s now kv wv K L) (hbase : base ≤ w.heap.size) (hbig : K.length ≤ 100000) :
    Calls Try.prog 17 #[.pointer (some ⟨q, 0, none⟩), .int .u64 x, .int .u64 y, .bool c] w fun e w' => e = .returned (.tuple #[]) ∧ XPost w base q fa fl fc s now kv wv (cutK K x y c) L w' := by
  have H := hide h
  have c3 := h.c3
  have hS := h.ks
  obtain ⟨a3, d3, rfl, hd, hdm⟩ := hS.form
  have hql := h.qb.2
  have HS := hide hS
  obtain ⟨n, hn⟩ : ∃ n, K.length = n := ⟨_, rfl⟩
  have hmx : (n : Int) ≤ 9223372036854775807 := by omega
  have hbn : n ≤ 100000 := by omega
  rw [hn] at c3
  have HN := hide hn
  clear h hS hd hdm hn hbig
  go_enter Try.func17, Try.ntmps17
  go_wp2
  go_loopw [8, 16] (fun l i wr => ∃ k : Nat, k ≤ n ∧ i = .int .i64 k ∧ Seg wr 2 l ((K.take k).filter (outK x y)).length (cellsK ((K.take k).filter (outK x y))) ∧ (∀ g, l.ownBlock = some g → w.heap.size ≤ g) ∧ Below w.heap.size w wr) (fun _ i _ => n - (intOf i).toNat)
  case atStart => exact ⟨0, Nat.zero_le _, rfl, seg_nil _ _, (fun g hg => by cases hg), Below.refl _ _⟩
  case round =>
    obtain ⟨k, hk, rfl, hl, hlb, hb⟩ := hrel
    have HLs := hide hl
    have HLb := hide hlb
    have HB := hide hb
    have hle : Hid (((K.take k).filter (outK x y)).length ≤ 100000) := Nat.le_trans (List.length_filter_le _ _) (by rw [List.length_take]; omega)
    obtain ⟨al, nl, dl, rfl⟩ := hl.any
    clear hl hlb hb
    by_cases hlt : k < n
    · have hkl : k < K.length := by rw [HN.out]; exact hlt
      obtain ⟨g, off, rfl, hg, hc, _⟩ := (HN.out ▸ HS.out : Seg w 2 (.slice a3 n d3) n (cellsK K)).at (by omega)
      obtain ⟨p0, p1⟩ := seg_pair hc k hkl
      have p0 := (HB.out.cell (p := ⟨g, off + k * 2, none⟩) hg).trans p0
      have p1 := (HB.out.cell (p := ⟨g, off + k * 2 + 1, none⟩) hg).trans p1
      have HT := hide (filter_take K (outK x y) (0, 0) k hkl)
      clear hc
      generalize K.getD k (0, 0) = u at *
      obtain ⟨u0, u1⟩ := u
      dsimp only at p0 p1
      obtain ⟨b1, hb1⟩ : ∃ b, (!(u0 == x && u1 == y)) = b := ⟨_, rfl⟩
      obtain ⟨b2, hb2⟩ : ∃ b, (!(u0 == y && u1 == x)) = b := ⟨_, rfl⟩
      have he1 : ∀ W, (binOp .neq 66 (.agg #[.int .u64 u0, .int .u64 u1]) (.agg #[.int .u64 x, .int .u64 y])).run Try.prog W = .ok (.bool b1) W := fun W => by rw [run_ne2, hb1]
      have he2 : ∀ W, (binOp .neq 66 (.agg #[.int .u64 u0, .int .u64 u1]) (.agg #[.int .u64 y, .int .u64 x])).run Try.prog W = .ok (.bool b2) W := fun W => by rw [run_ne2, hb2]
      have HF : Hid (outK x y (u0, u1) = (b1 && b2)) := by show (_ = _); rw [← hb1, ← hb2]; rfl
      clear hb1 hb2
      cases b1
      · go_wp2
        go_roundw
        case rel => exact ⟨k + 1, by omega, by go_num, by rw [HT.out, HF.out]; simpa using HLs.out.keep (by repeat (first | exact Below.refl _ _ | refine belA ?_ _ | refine Below.drew ?_)), HLb.out, HB.out.alloc HB.out.size _⟩
        case measure => simp [intOf]; omega
      · cases b2
        · go_wp2
          go_roundw
          case rel => exact ⟨k + 1, by omega, by go_num, by rw [HT.out, HF.out]; simpa using HLs.out.keep (by repeat (first | exact Below.refl _ _ | refine belA ?_ _ | refine Below.drew ?_)), HLb.out, HB.out.alloc HB.out.size _⟩
          case measure => simp [intOf]; omega
        · have hq0 : ¬ wr.heap.size + 1 = wr.heap.size := by omega
          go_wp2_with (first
            | (at_builtin; go_must (refine wp_segK _ rfl (.tmp 32) (.tmp 34) rfl (.slice al nl dl) _ rfl (HLs.out.keep (by repeat (first | exact Below.refl _ _ | refine belA ?_ _ | refine Below.drew ?_))) (wr.heap.size + 1) u0 u1 rfl (by simp) (by simp) (by have := hle.out; omega) ?_); intro v5 w5 hs5 hk5 hat5; obtain ⟨a5, n5, d5, rfl⟩ := hs5.any; have HS5 := hide hs5; have HA5 : Hid (∀ g, (Value.slice a5 n5 d5).ownBlock = some g → w.heap.size ≤ g) := (fun g hg => by rcases hat5 with h1 | ⟨g', h1, h2⟩; (rw [h1] at hg; exact HLb.out g hg); (rw [hg] at h1; cases h1; have := HB.out.size; rw [World.size_alloc, World.size_alloc] at h2; omega)); have HB5 := hide (((HB.out.alloc HB.out.size (.cells #[.int .u64 u0, .int .u64 u1] 66)).alloc (by have := HB.out.size; rw [World.size_alloc]; omega) (.cells #[.int .u64 u0, .int .u64 u1] 66)).trans (hk5.below (B := w.heap.size) (by have := HB.out.size; rw [World.size_alloc, World.size_alloc]; omega) (fun k hk => HLb.out k hk))); clear hs5 hk5 hat5))
          go_roundw
          case rel => exact ⟨k + 1, by omega, by go_num, by rw [HT.out, HF.out]; exact HS5.out, HA5.out, HB5.out⟩
          case measure => simp [intOf]; omega
    · have hkn : k = n := by omega
      subst hkn
      have ht : K.take k = K := List.take_of_length_le (by rw [HN.out]; exact Nat.le_refl _)
      have hLs := HLs.out
      rw [ht] at hLs hle
      have HLs := hide hLs
      clear hLs ht
      have hwl : ∀ b, wv.ownBlock = some b → b < w.heap.size := fun b hb => H.out.ws.lt b hb
      have HWl := hide hwl
      have f3 := (HB.out.frozen (p := ⟨q, 3, none⟩) hql).trans (H.out.fz 3)
      have c3r := (HB.out.cell (p := ⟨q, 3, none⟩) hql).trans c3
      have hnq : ¬ wr.heap.size = q := by have := HB.out.size; omega
      have hnq2 : ¬ q = wr.heap.size := by have := HB.out.size; omega
      clear hwl
      cases c
      · go_wp2
        go_end0
        have hP := (H.out.keep HB.out).putK w.heap.size hbase hql HWl.out (.slice al nl dl) _ HLs.out HLb.out
        refine ⟨rfl, _, wv, by unfold cutK; simpa using hP, ?_, fun k hk => ?_⟩
        · exact kpThen (X' := fun k => k = q) (Below.keeps HB.out _) (fun k e => .inl (.inl e)) (keeps_cell _)
        · rcases hk with h1 | h1 | h1
          · exact .inl (.inl h1)
          · exact .inr (HLb.out k h1)
          · exact .inl (.inr (.inr h1))
      · go_wp2_with (first
          | (at_builtin; go_must (refine wp_segK _ rfl (.tmp 38) (.tmp 42) rfl (.slice al nl dl) _ rfl (HLs.out.keep (by repeat (first | exact Below.refl _ _ | refine belA ?_ _ | refine Below.drew ?_))) wr.heap.size x y rfl (by simp) (by simp) (by have := hle.out; omega) ?_); intro v5 w5 hs5 hk5 hat5; obtain ⟨a5, n5, d5, rfl⟩ := hs5.any; have HS5 := hide hs5; have HA5 : Hid (∀ g, (Value.slice a5 n5 d5).ownBlock = some g → w.heap.size ≤ g) := (fun g hg => by rcases hat5 with h1 | ⟨g', h1, h2⟩; (rw [h1] at hg; exact HLb.out g hg); (rw [hg] at h1; cases h1; have := HB.out.size; rw [World.size_alloc] at h2; omega)); have HB5 := hide ((HB.out.alloc HB.out.size (.cells #[.int .u64 x, .int .u64 y] 66)).trans (hk5.below (B := w.heap.size) (by have := HB.out.size; rw [World.size_alloc]; omega) (fun k hk => HLb.out k hk))); have f35 := (HB5.out.frozen (p := ⟨q, 3, none⟩) hql).trans (H.out.fz 3); have c35 := (HB5.out.cell (p := ⟨q, 3, none⟩) hql).trans c3; clear hs5 hk5 hat5))
        go_end0
        have hP := (H.out.keep HB5.out).putK w.heap.size hbase hql HWl.out (.slice a5 n5 d5) _ HS5.out HA5.out
        refine ⟨rfl, _, wv, by unfold cutK; simpa using hP, ?_, fun k hk => ?_⟩
        · exact kpThen (X' := fun k => k = q) (Below.keeps HB5.out _) (fun k e => .inl (.inl e)) (keeps_cell _)
        · rcases hk with h1 | h1 | h1
          · exact .inl (.inl h1)
          · exact .inr (HA5.out k h1)
          · exact .inl (.inr (.inr h1))

end Go.Proofs.Ytodmieehdleohaa
