/- Package twin: tables, results without cells. Printed by part/gen_twt.py. -/
import Derived.Test.YtcgiicmmfleinaaGreatDoorTwG
import Derived.Test.YtcgiicmmfleinaaGreatDoorMfC
namespace Go.Proofs.YtcgiicmmfleinaaGreatDoor
open Go.RowKit NumMath Go.ChangeShapes Go.WideShapes Go.Deep
set_option linter.unusedVariables false
set_option linter.unusedSimpArgs false
set_option maxRecDepth 100000

set_option maxHeartbeats 4000000 in
theorem eachTb_any (a : Option Addr) (n c : Nat) (ms : List MTb) (w : World) (h : IsY layTb w a n c ms) (hbig : n ≤ 1000000) (hcl : ∀ W, Below w.heap.size w W → ∀ m ∈ ms, Calls Tryz.prog 122 #[.agg #[.int .i64 m.id, .string (strB m.nm), .slice m.cs.a m.cs.n m.cs.c, .int .i64 m.ky, .slice m.ix.a m.ix.n m.ix.c]] W (TwinOne (fun m => .agg #[.int .i64 m.id, .string (strB m.nm), .slice m.cs.a m.cs.n m.cs.c, .int .i64 m.ky, .slice m.ix.a m.ix.n m.ix.c]) MTb.t (fun V m => m.ok V) W m)) :
    Calls Tryz.prog 123 #[.slice a n c, .func (.func 122) #[] #[]] w fun e w' => ∃ v ms', e = .returned v ∧ TwinPost layTb MTb.t (fun V m => m.ok V) w ms w' v ms' := by
  have HCl := hide (cloneTb_any a n c ms w h (by omega))
  have HL := hide h.1
  have HF := hide hcl
  clear h hcl
  go_enter Tryz.func123, Tryz.ntmps123
  go_wp2_with (first
    | (go_at_call 156; go_must (refine HCl.out.mono ?_); rintro e w1 ⟨v1, rfl, hO1, hb1⟩; obtain ⟨a1, n1, c1, rfl⟩ := hO1.any3; have HO1 := hide hO1; have HB1 := hide hb1; clear hO1 hb1))
  have hn1 : n1 = n := by rw [← HO1.out.len.1]; exact HL.out
  subst hn1
  clear HCl
  go_loopw [10] (fun i wr => ∃ (k : Nat) (cur : List MTb), k ≤ n1 ∧ i = .int .i64 k ∧ cur.map MTb.t = ms.map MTb.t ∧ OwnY layTb wr w.heap.size (.slice a1 n1 c1) cur ∧ (∀ j m, j < k → cur[j]? = some m → Foot (fun k => k < w.heap.size ∨ (Value.slice a1 n1 c1).ownBlock = some k) wr (fun V => m.ok V)) ∧ (∀ j, k ≤ j → cur[j]? = ms[j]?) ∧ Below w.heap.size w wr) (fun i _ => n1 - (intOf i).toNat)
  case atStart => exact ⟨0, ms, Nat.zero_le _, rfl, rfl, HO1.out, by intro j m hj; omega, fun _ _ => rfl, HB1.out⟩
  case round =>
    obtain ⟨k, cur, hk, rfl, hE, hrow, hdone, hrest, hb⟩ := hrel
    have HE := hide hE
    have HR := hide hrow
    have HDn := hide hdone
    have HRe := hide hrest
    have HB := hide hb
    clear hE hrow hdone hrest hb HO1 HB1
    by_cases hlt : k < n1
    · obtain ⟨g, cap, e, hg1, hg2, -, -, hC, hfr⟩ : ∃ g cap, (Value.slice a1 n1 c1) = .slice (some ⟨g, 0, none⟩) cur.length cap ∧ w.heap.size ≤ g ∧ g < wr.heap.size ∧ cur.length ≤ cap ∧ cap ≤ maxLen ∧ CellsY layTb wr g 0 cur ∧ ∀ i, wr.frozen? ⟨g, i, none⟩ = false := by
        rcases HR.out.form with ⟨e, e0⟩ | h
        · have := HR.out.len.1; rw [e0] at this; simp at this; omega
        · exact h
      have hcl := HR.out.len.1
      have hga : a1 = some ⟨g, 0, none⟩ := by simp only [Value.slice.injEq] at e; exact e.1
      subst hga
      have hkl : k < ms.length := by rw [HL.out]; exact hlt
      obtain ⟨me, hme⟩ : ∃ me, ms[k]? = some me := ⟨_, List.getElem?_eq_getElem hkl⟩
      have HCx : Hid (cur[k]? = some me) := by show _ = _; rw [HRe.out k (Nat.le_refl _)]; exact hme
      have hcells : wr.rangeAt g (k * 5) (layTb.cells me) := by have := hC k _ HCx.out; rw [Nat.zero_add] at this; exact this
      have hmem : me ∈ ms := List.mem_of_getElem? hme
      have HCp := hide (HF.out wr HB.out me hmem)
      have HCr : Hid (∀ W, Below wr.heap.size wr W → W.rangeAt g (k * 5) (layTb.cells me)) := fun W hW => rangeY_same hcells (hW.block g hg2)
      have HFr : Hid (∀ W, Below wr.heap.size wr W → ∀ j, W.frozen? ⟨g, j, none⟩ = false) := fun W hW j => (hW.frozen (p := ⟨g, j, none⟩) hg2).trans (hfr j)
      have x0 : wr.cell? ⟨g, k * 5, none⟩ = some (.int .i64 me.id) := (by exact HCr.out wr (Below.refl _ _) 0 _ rfl)
      have x1 : wr.cell? ⟨g, k * 5 + 1, none⟩ = some (.string (strB me.nm)) := (by exact HCr.out wr (Below.refl _ _) 1 _ rfl)
      have x2 : wr.cell? ⟨g, k * 5 + 2, none⟩ = some (.slice me.cs.a me.cs.n me.cs.c) := (by exact HCr.out wr (Below.refl _ _) 2 _ rfl)
      have x3 : wr.cell? ⟨g, k * 5 + 3, none⟩ = some (.int .i64 me.ky) := (by exact HCr.out wr (Below.refl _ _) 3 _ rfl)
      have x4 : wr.cell? ⟨g, k * 5 + 4, none⟩ = some (.slice me.ix.a me.ix.n me.ix.c) := (by exact HCr.out wr (Below.refl _ _) 4 _ rfl)
      have hkI : (k : Int) < (n1 : Int) := by omega
      clear hmem hC hfr e hme hcells
      go_wp2_with (first
        | (go_at_call 122; go_must (refine HCp.out.mono ?_); rintro e w3 ⟨m3, rfl, hv3, hF3, hb3⟩; have y0 : w3.cell? ⟨g, k * 5, none⟩ = some (.int .i64 me.id) := (by exact HCr.out w3 hb3 0 _ rfl); have y1 : w3.cell? ⟨g, k * 5 + 1, none⟩ = some (.string (strB me.nm)) := (by exact HCr.out w3 hb3 1 _ rfl); have y2 : w3.cell? ⟨g, k * 5 + 2, none⟩ = some (.slice me.cs.a me.cs.n me.cs.c) := (by exact HCr.out w3 hb3 2 _ rfl); have y3 : w3.cell? ⟨g, k * 5 + 3, none⟩ = some (.int .i64 me.ky) := (by exact HCr.out w3 hb3 3 _ rfl); have y4 : w3.cell? ⟨g, k * 5 + 4, none⟩ = some (.slice me.ix.a me.ix.n me.ix.c) := (by exact HCr.out w3 hb3 4 _ rfl); have hfz := HFr.out _ hb3; have HV3 := hide hv3; have HF3 := hide hF3; have HB3 := hide hb3; clear hv3 hF3 hb3))
      go_roundw
      case rel =>
        have hsz3 := HB3.out.size
        have hgF : (Value.slice (some ⟨g, 0, none⟩) n1 c1).ownBlock = some g := rfl
        have hk0 := keepsYs w3 g (k * 5) (layTb.cells m3)
        have hk0' : Keeps (fun k => k < w.heap.size ∨ (Value.slice (some ⟨g, 0, none⟩) n1 c1).ownBlock = some k) w3 (w3.setCells g (k * 5) (layTb.cells m3)) := Keeps.wider hk0 (fun x hx => .inr (by rw [hgF, hx]))
        refine ⟨k + 1, cur.set k m3, by omega, by go_num, (map_set_sameT HCx.out HV3.out).trans HE.out, ?_, ?_, ?_, ?_⟩
        · have h := (HR.out.keep HB3.out).lay k hlt m3
          exact h
        · intro j m hj hm
          by_cases hjk : j = k
          · subst hjk
            rw [List.getElem?_set_self (by omega)] at hm
            cases hm
            exact (HF3.out.more (Y := fun k => k < w.heap.size ∨ (Value.slice (some ⟨g, 0, none⟩) n1 c1).ownBlock = some k) (fun k hk => .inl (by rcases hk with hk | hk; (have := HB.out.size; omega); (rw [hgF] at hk; have := Option.some.inj hk; omega)))).step hk0' (fun k hk => .inl hk)
          · rw [List.getElem?_set_ne (fun e => hjk e.symm)] at hm
            exact ((HDn.out j m (by omega) hm).keep HB3.out).step hk0' (fun k hk => .inl hk)
        · intro j hj
          rw [List.getElem?_set_ne (by omega)]
          exact HRe.out j (by omega)
        · exact (HB.out.trans (HB3.out.mono HB.out.size)).trans (hk0.below (B := w.heap.size) (by have := HB.out.size; omega) (fun x hx => by rw [hx]; exact hg1))
      case measure => simp [intOf]; omega
    · have hkn : k = n1 := by omega
      subst hkn
      go_wp2
      go_ret
      refine ⟨_, cur, rfl, HE.out, HR.out, fun m hm => ?_, HB.out⟩
      obtain ⟨j, hj, rfl⟩ := List.getElem_of_mem hm
      exact HDn.out j _ (by rw [← HR.out.len.1]; exact hj) (List.getElem?_eq_getElem hj)

theorem pcopiesT_any (a : Option Addr) (n c : Nat) (xs : List MTb) (w : World) (h : IsY layTb w a n c xs) (hn : n ≤ 1000000) (hok : ∀ m ∈ xs, m.ok w) (hsm : ∀ m ∈ xs, m.cs.n ≤ 1000000 ∧ m.ix.n ≤ 1000000) : Calls Tryz.prog 81 #[.slice a n c] w fun e w' => CopsT w xs e w' := by
  have HE := hide (eachTb_any a n c xs w h hn (fun W hW m hm => (pcopyT_any m W ((hok m hm).keep hW) (hsm m hm).1 (hsm m hm).2).mono (fun e w' hp => by
    obtain ⟨y, he, ht, ho, hi, hb⟩ := hp
    exact ⟨y, he, ht, copyT_foot ho hi, hb⟩)))
  clear h hok hsm
  go_enter Tryz.func81, Tryz.ntmps81
  go_wp2_with (first
    | (go_at_call 123; go_must (refine HE.out.mono ?_); rintro e w1 ⟨v1, ms', rfl, hP⟩; have HP := hide hP; clear hP))
  go_ret
  obtain ⟨a1, n1, c1, rfl⟩ := HP.out.own.any3
  exact ⟨a1, n1, c1, ms', rfl, HP.out.own, HP.out.eq, fun y hy => (HP.out.ok y hy).more (fun k hk => .inl (.inl hk)), HP.out.b⟩

theorem cloneCe_nil (w : World) : Calls Tryz.prog 137 #[.slice none 0 0] w fun e w' => e = .returned (.slice none 0 0) ∧ w' = w := by
  have hnil : ∀ w, (binOp .eql 53 (.slice none 0 0) (.slice none 0 0)).run Tryz.prog w = .ok (.bool true) w := fun w => Lib.run_eql_slice_nil w 53 137 none 0 0 0 0 Tryz.underlying53
  go_enter Tryz.func137, Tryz.ntmps137
  go_wp2
  go_ret
  exact ⟨rfl, rfl⟩

theorem eachCe_nil (w : World) : Calls Tryz.prog 111 #[.slice none 0 0, .func (.func 112) #[] #[]] w fun e w' => e = .returned (.slice none 0 0) ∧ Below w.heap.size w w' := by
  have HCl := hide (cloneCe_nil w)
  go_enter Tryz.func111, Tryz.ntmps111
  go_wp2_with (first
    | (go_at_call 137; go_must (refine HCl.out.mono ?_); rintro e w1 ⟨rfl, hw⟩; have hw := hw.symm; subst hw))
  go_loopw [10] (fun i wr => i = .int .i64 0 ∧ Below w.heap.size w wr) (fun _ _ => 0)
  case atStart => exact ⟨rfl, Below.refl _ _⟩
  case round =>
    obtain ⟨rfl, hb⟩ := hrel
    have HB := hide hb
    clear hb
    go_wp2
    go_ret
    exact ⟨rfl, HB.out⟩

end Go.Proofs.YtcgiicmmfleinaaGreatDoor
