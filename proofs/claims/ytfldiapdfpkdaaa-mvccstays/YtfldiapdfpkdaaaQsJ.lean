/- Stores to which the same was done. The program's store alone, behind what was done to it. -/
import Derived.Test.YtfldiapdfpkdaaaQsI
import Derived.Deep.RegionHeld3
namespace Go.Proofs.Ytfldiapdfpkdaaa
open Go.RowKit NumMath Go.ChangeShapes Go.WideShapes Go.Deep
set_option linter.unusedVariables false
set_option maxRecDepth 100000

theorem results_tmp4 {fn : Func} {t u v x : Tmp} (h : fn.results = #[.tmp t, .tmp u, .tmp v, .tmp x]) (tmps : Array Value) (P : Program) (w : World) :
    (results fn tmps).run P w = .ok (.tuple #[tmps.getD t undef, tmps.getD u undef, tmps.getD v undef, tmps.getD x undef]) w := by
  simp [results, h]

def smallD (d : MD) : Bool := decide (d.kn ≤ 50 ∧ d.m.vn ≤ 100 ∧ d.m.kn ≤ 10)

/-- too many deeds, or one that is too great -/
def greatD (ds : List MD) : Bool := decide (40 < ds.length) || ds.any (fun d => !smallD d)

theorem great_at {ds : List MD} {j : Nat} {d : MD} (h : ds[j]? = some d) (hd : smallD d = false) : greatD ds = true := by
  unfold greatD
  rw [Bool.or_eq_true]
  right
  exact List.any_eq_true.2 ⟨d, List.mem_of_getElem? h, by rw [hd]; rfl⟩

theorem great_not {ds : List MD} (hl : ds.length ≤ 40) (h : ∀ i d, i < ds.length → ds[i]? = some d → smallD d = true) : greatD ds = false := by
  unfold greatD
  rw [Bool.or_eq_false_iff]
  refine ⟨by simpa using hl, ?_⟩
  cases e : ds.any (fun d => !smallD d) with
  | false => rfl
  | true =>
    obtain ⟨d, hd, h1⟩ := List.any_eq_true.1 e
    obtain ⟨i, hi, h2⟩ := List.getElem_of_mem hd
    rw [h i d hi (by rw [List.getElem?_eq_getElem hi, h2])] at h1
    cases h1

theorem stat_new {w0 w : World} {p mb : Nat} (h : IsS (fun _ => False) w0.heap.size w p mb 0 []) (hb : Below w0.heap.size w0 w) (ty : TypeId) : Stat w0 (w.alloc (.cells #[.slice none 0 0] ty)) p mb w.heap.size 0 := by
  have hr := rangeY_new w w.heap.size #[.slice none 0 0] ty rfl
  have hb1 := new_below w (.cells #[.slice none 0 0] ty)
  have hsz := hb.size
  refine ⟨0, [], .slice none 0 0, [], Nat.le_refl _, ⟨h.next (Below.keeps hb1 _) (fun k hk => ?_) (fun k hk => ?_), ⟨hr 0 _ rfl, ?_, hsz, by simp, ownY_nil _ _, by simp [Value.ownBlock], hb.trans (hb1.mono hsz), fun m hm => (by cases hm), fun k hk => ?_, fun hk => ?_, fun g hg => (by simp [Value.ownBlock] at hg)⟩⟩, ⟨List.Pairwise.nil, fun c hc => (by cases hc), rfl, Nat.le_refl _, fun c hc => (by cases hc)⟩⟩
  · rcases hk with rfl | hk
    · exact .inr (Nat.le_refl _)
    · simp [Value.ownBlock] at hk
  · rcases hk with rfl | hk
    · simp
    · simp [Value.ownBlock] at hk
  · have e := World.ownsRow.frozenAt (ownY_one (L := layT) (w := w) w.heap.size #[.slice none 0 0] ⟨[], none, 0, 0⟩ (Nat.le_refl _) rfl) 0
    rw [frozen?_alloc_cells] at e ⊢
    exact e
  · have := h.lt
    have := fun hk => h.mlt (k := k) hk
    rcases hk with rfl | hk
    · simp; omega
    · have := this hk; simp; omega
  · rcases hk with hk | hk
    · have := h.lt; omega
    · have := h.mlt hk; omega

theorem fitsD {w0 : World} {d : MD} (h : d.ok w0) (h1 : d.kn ≤ 50) (h2 : d.m.vn ≤ 100 ∧ d.m.kn ≤ 10) : d.fits w0 := ⟨h, h1, h2.1, h2.2⟩

theorem cellsD {w : World} {g off : Nat} {l : List MD} (h : CellsY layD w g off l) {i : Nat} {d : MD} (hx : l[i]? = some d) : w.rangeAt g (off + i * 8) (layD.cells d) := h i d hx

/-- what is told of both -/
def BothP (w : World) (ds : List MD) (e : Ending) (w' : World) : Prop := ∃ p mb q j, e = .returned (.tuple #[.pointer (some ⟨p, 0, none⟩), .pointer (some ⟨q, 0, none⟩), .bool true, .bool (greatD ds)]) ∧ (greatD ds = false → j ≤ 40 ∧ Stat w w' p mb q j) ∧ Below w.heap.size w w'

set_option maxHeartbeats 8000000 in
theorem both_any (a : Option Addr) (len cap : Nat) (ds : List MD) (w : World) (h : IsDeeds12 w a len cap ds) :
    Calls Try.prog 9 #[.slice a len cap] w fun e w' => BothP w ds e w' := by
  have HD := hide h.2
  have hI := h.1
  have H := hide hI
  have HL := hide hI.1
  have hlc := hI.2.1
  have hm : (cap : Int) ≤ 9223372036854775807 := by have := hI.2.2.1; unfold maxLen at this; omega
  clear h hI
  have HN := hide (pnew_any (fun _ => False) w.heap.size w (Nat.le_refl _) (fun _ h => h.elim))
  go_enter Try.func9, Try.ntmps9
  by_cases hl40 : 40 < len
  · have hl40' : (40 : Int) < (len : Int) := by omega
    go_wp2_with (first
      | (go_at_call 25; refine HN.out.mono ?_; rintro e w1 ⟨p, mb, rfl, hS1, hb1, -, -⟩; have HS1 := hide hS1; have HB1 := hide hb1; clear hS1 hb1))
    (try simp only [Exit.inBlock, Exit.then]); refine bodyPost_ret (results_tmp4 rfl _ _ _) rfl ?_
    have hg : greatD ds = true := by unfold greatD; rw [HL.out]; simp [hl40]
    unfold BothP
    exact ⟨p, mb, w1.heap.size, 0, by rw [hg]; rfl, (fun h => by rw [hg] at h; cases h), HB1.out.trans ((new_below _ _).mono HB1.out.size)⟩
  have hl40' : ¬ (40 : Int) < (len : Int) := by omega
  go_wp2_with (first
    | (go_at_call 25; refine HN.out.mono ?_; rintro e w1 ⟨p, mb, rfl, hS1, hb1, -, -⟩; have HS0 := hide (stat_new hS1 hb1 59); clear hS1 hb1))
  obtain ⟨q, hq⟩ : ∃ q, q = w1.heap.size := ⟨_, rfl⟩
  rw [← hq] at HS0 ⊢
  clear hq
  go_loopg [20] len (fun gk i wr => ∃ (j : Nat), gk = len - j ∧ i = .int .i64 j ∧ j ≤ len ∧ j ≤ 40 ∧ Stat w wr p mb q j ∧ ∀ i d, i < j → ds[i]? = some d → smallD d = true)
  case atStart => exact ⟨0, rfl, rfl, Nat.zero_le _, Nat.zero_le _, HS0.out, fun i d hi => by omega⟩
  case round =>
    obtain ⟨j, rfl, rfl, hj, hj0, hS, hsm⟩ := hrel
    have HS := hide hS
    have HSo := hide hsm
    clear hS hsm
    by_cases hlt : j < len
    · have hlt' : (j : Int) < (len : Int) := by omega
      have hj40 : j + 1 ≤ 40 := by omega
      obtain ⟨d, hd⟩ : ∃ d, ds[j]? = some d := ⟨_, List.getElem?_eq_getElem (by rw [HL.out]; exact hlt)⟩
      obtain ⟨g0, off0, rfl, hg0, hC0⟩ := H.out.at hlt
      have HCe := hide (rangeY_same (cellsD hC0 hd) (HS.out.below.block g0 hg0))
      have HOk := hide (HD.out d (List.mem_of_getElem? hd))
      have HSB := hide (statB_new HS.out d 61)
      have HDj := hide hd
      clear hC0 hd
      by_cases hk : ¬ d.kn ≤ 50
      · have hk' : (50 : Int) < (d.kn : Int) := by omega
        go_wp2_with (first
          | (refine wp_loadY layD _ _ Try.underlying61 rfl rfl (.tmp 22) rfl g0 (off0 + j * 8) d #[.int .i64 d.kd, .slice d.ka d.kn d.kc, .int .u64 d.m.v.ts, .int .u64 d.m.v.tx, .bool d.m.v.dd, .slice d.m.va d.m.vn d.m.vc, .slice d.m.ka d.m.kn d.m.kc, .int .u64 d.ts] rfl rfl HCe.out ?_))
        (try simp only [Exit.inBlock, Exit.then]); refine bodyPost_ret (results_tmp4 rfl _ _ _) rfl ?_
        have hg := great_at HDj.out (by unfold smallD; simp; omega)
        unfold BothP
        exact ⟨p, mb, q, 0, by rw [hg]; rfl, (fun h => by rw [hg] at h; cases h), HSB.out.below⟩
      have hk := Classical.not_not.1 hk
      have hk' : ¬ (50 : Int) < (d.kn : Int) := by omega
      by_cases hv : ¬ (d.m.vn ≤ 100 ∧ d.m.kn ≤ 10)
      · have HSmv : Hid (decide (d.m.vn ≤ 100 ∧ d.m.kn ≤ 10) = false) := decide_eq_false hv
        go_wp2_with (first
          | (go_at_call 23; refine (smallV_any d.m _).mono ?_; rintro e ws ⟨rfl, hbs⟩; rw [HSmv.out]; have HB1 := hide (HSB.out.keep hbs); obtain ⟨b0, b1, b2, b3, b4, b5, b6, b7, blt⟩ := HB1.out.box; clear hbs)
          | (refine wp_loadY layD _ _ Try.underlying61 rfl rfl (.tmp 22) rfl g0 (off0 + j * 8) d #[.int .i64 d.kd, .slice d.ka d.kn d.kc, .int .u64 d.m.v.ts, .int .u64 d.m.v.tx, .bool d.m.v.dd, .slice d.m.va d.m.vn d.m.vc, .slice d.m.ka d.m.kn d.m.kc, .int .u64 d.ts] rfl rfl HCe.out ?_))
        (try simp only [Exit.inBlock, Exit.then]); refine bodyPost_ret (results_tmp4 rfl _ _ _) rfl ?_
        have hg := great_at HDj.out (by unfold smallD; rw [decide_eq_false]; exact fun e => hv e.2)
        unfold BothP
        exact ⟨p, mb, q, 0, by rw [hg]; rfl, (fun h => by rw [hg] at h; cases h), HB1.out.below⟩
      have hv := Classical.not_not.1 hv
      have HSmv : Hid (decide (d.m.vn ≤ 100 ∧ d.m.kn ≤ 10) = true) := decide_eq_true hv
      have HFi := hide (fitsD HOk.out hk hv)
      have HSm : Hid (∀ i d, i < j + 1 → ds[i]? = some d → smallD d = true) := by
        intro i x hi hx
        by_cases e : i = j
        · subst e
          rw [HDj.out] at hx
          cases hx
          exact decide_eq_true ⟨hk, hv⟩
        · exact HSo.out i x (by omega) hx
      clear hv hk
      by_cases k0 : d.kd = 0
      · have k0' : (d.kd == 0) = true := by simp [k0]
        clear k0
        go_wp2_with (first
          | (go_at_call 26; refine (put2 HH.out (by omega) HFi.out).mono ?_; rintro e w3 ⟨rfl, h3⟩; have H3 := hide h3; clear h3)
          | (go_at_call 24; refine (put1 HB1.out (by omega) HFi.out).mono ?_; rintro e w2 ⟨rfl, hh⟩; have HH := hide hh; obtain ⟨m0, m1, m2, m3, m4, m5, m6, m7, -⟩ := hh.box; clear hh)
          | (go_at_call 23; refine (smallV_any d.m _).mono ?_; rintro e ws ⟨rfl, hbs⟩; rw [HSmv.out]; have HB1 := hide (HSB.out.keep hbs); obtain ⟨b0, b1, b2, b3, b4, b5, b6, b7, blt⟩ := HB1.out.box; clear hbs)
          | (refine wp_loadY layD _ _ Try.underlying61 rfl rfl (.tmp 22) rfl g0 (off0 + j * 8) d #[.int .i64 d.kd, .slice d.ka d.kn d.kc, .int .u64 d.m.v.ts, .int .u64 d.m.v.tx, .bool d.m.v.dd, .slice d.m.va d.m.vn d.m.vc, .slice d.m.ka d.m.kn d.m.kc, .int .u64 d.ts] rfl rfl HCe.out ?_))
        go_roundg (len - (j + 1))
        case measure => omega
        case rel => exact ⟨j + 1, rfl, by go_num, by omega, hj40, H3.out.stat, HSm.out⟩
      have k0' : (d.kd == 0) = false := by simp [k0]
      clear k0
      by_cases k1 : d.kd = 1
      · have k1' : (d.kd == 1) = true := by simp [k1]
        clear k1
        go_wp2_with (first
          | (go_at_call 23; refine (smallV_any d.m _).mono ?_; rintro e ws ⟨rfl, hbs⟩; rw [HSmv.out]; have HB1 := hide (HSB.out.keep hbs); obtain ⟨b0, b1, b2, b3, b4, b5, b6, b7, blt⟩ := HB1.out.box; clear hbs)
          | (refine wp_loadY layD _ _ Try.underlying61 rfl rfl (.tmp 22) rfl g0 (off0 + j * 8) d #[.int .i64 d.kd, .slice d.ka d.kn d.kc, .int .u64 d.m.v.ts, .int .u64 d.m.v.tx, .bool d.m.v.dd, .slice d.m.va d.m.vn d.m.vc, .slice d.m.ka d.m.kn d.m.kc, .int .u64 d.ts] rfl rfl HCe.out ?_))
        have n1 : ws.drew.cell? ⟨wr.heap.size, 1, none⟩ = some (.slice d.ka d.kn d.kc) := b1
        have n2 : ws.drew.cell? ⟨wr.heap.size, 2, none⟩ = some (.int .u64 d.m.v.ts) := b2
        have n3 : ws.drew.cell? ⟨wr.heap.size, 3, none⟩ = some (.int .u64 d.m.v.tx) := b3
        have n4 : ws.drew.cell? ⟨wr.heap.size, 4, none⟩ = some (.bool d.m.v.dd) := b4
        have n5 : ws.drew.cell? ⟨wr.heap.size, 5, none⟩ = some (.slice d.m.va d.m.vn d.m.vc) := b5
        have n6 : ws.drew.cell? ⟨wr.heap.size, 6, none⟩ = some (.slice d.m.ka d.m.kn d.m.kc) := b6
        go_region_held3 (fun W => W.cell? ⟨wr.heap.size, 1, none⟩ = some (.slice d.ka d.kn d.kc) ∧ W.cell? ⟨wr.heap.size, 2, none⟩ = some (.int .u64 d.m.v.ts) ∧ W.cell? ⟨wr.heap.size, 3, none⟩ = some (.int .u64 d.m.v.tx) ∧ W.cell? ⟨wr.heap.size, 4, none⟩ = some (.bool d.m.v.dd) ∧ W.cell? ⟨wr.heap.size, 5, none⟩ = some (.slice d.m.va d.m.vn d.m.vc) ∧ W.cell? ⟨wr.heap.size, 6, none⟩ = some (.slice d.m.ka d.m.kn d.m.kc)) (first | with_reducible exact ⟨n1, n2, n3, n4, n5, n6⟩) (first
          | (go_at_call 28; refine (int2 r HH.out (by omega) HFi.out).mono ?_; rintro e w3 ⟨rfl, h3⟩; have H3 := hide h3; obtain ⟨m0, m1, m2, m3, m4, m5, m6, m7, -⟩ := h3.box; have n1 := m1; have n2 := m2; have n3 := m3; have n4 := m4; have n5 := m5; have n6 := m6; clear h3)
          | (go_at_call 27; refine (int1 (HB1.out.keep (Below.refl _ ws).drew) (by omega) HFi.out).mono ?_; rintro e w2 ⟨r, rfl, hh⟩; have HH := hide hh; obtain ⟨m0, m1, m2, m3, m4, m5, m6, m7, -⟩ := hh.box; have n1 := m1; have n2 := m2; have n3 := m3; have n4 := m4; have n5 := m5; have n6 := m6; clear hh))
        all_goals
          go_wp2
          go_roundg (len - (j + 1))
          case measure => omega
          case rel => exact ⟨j + 1, rfl, by go_num, by omega, hj40, H3.out.stat, HSm.out⟩
      have k1' : (d.kd == 1) = false := by simp [k1]
      clear k1
      by_cases k2 : d.kd = 2
      · have k2' : (d.kd == 2) = true := by simp [k2]
        clear k2
        go_wp2_with (first
          | (go_at_call 23; refine (smallV_any d.m _).mono ?_; rintro e ws ⟨rfl, hbs⟩; rw [HSmv.out]; have HB1 := hide (HSB.out.keep hbs); obtain ⟨b0, b1, b2, b3, b4, b5, b6, b7, blt⟩ := HB1.out.box; clear hbs)
          | (refine wp_loadY layD _ _ Try.underlying61 rfl rfl (.tmp 22) rfl g0 (off0 + j * 8) d #[.int .i64 d.kd, .slice d.ka d.kn d.kc, .int .u64 d.m.v.ts, .int .u64 d.m.v.tx, .bool d.m.v.dd, .slice d.m.va d.m.vn d.m.vc, .slice d.m.ka d.m.kn d.m.kc, .int .u64 d.ts] rfl rfl HCe.out ?_))
        have n3 : ws.drew.cell? ⟨wr.heap.size, 3, none⟩ = some (.int .u64 d.m.v.tx) := b3
        have n7 : ws.drew.cell? ⟨wr.heap.size, 7, none⟩ = some (.int .u64 d.ts) := b7
        go_region_held3 (fun W => W.cell? ⟨wr.heap.size, 3, none⟩ = some (.int .u64 d.m.v.tx) ∧ W.cell? ⟨wr.heap.size, 7, none⟩ = some (.int .u64 d.ts)) (first | with_reducible exact ⟨n3, n7⟩) (first
          | (go_at_call 29; refine (trn2 r HH.out (by omega) HFi.out).mono ?_; rintro e w3 ⟨rfl, h3⟩; have H3 := hide h3; obtain ⟨m0, m1, m2, m3, m4, m5, m6, m7, -⟩ := h3.box; have n3 := m3; have n7 := m7; clear h3)
          | (go_at_call 22; refine (trn1 (HB1.out.keep (Below.refl _ ws).drew) (by omega) HFi.out).mono ?_; rintro e w2 ⟨r, rfl, hh⟩; have HH := hide hh; obtain ⟨m0, m1, m2, m3, m4, m5, m6, m7, -⟩ := hh.box; have n3 := m3; have n7 := m7; clear hh))
        all_goals
          go_wp2
          go_roundg (len - (j + 1))
          case measure => omega
          case rel => exact ⟨j + 1, rfl, by go_num, by omega, hj40, H3.out.stat, HSm.out⟩
      have k2' : (d.kd == 2) = false := by simp [k2]
      clear k2
      by_cases k3 : d.kd = 3
      · have k3' : (d.kd == 3) = true := by simp [k3]
        clear k3
        go_wp2_with (first
          | (go_at_call 23; refine (smallV_any d.m _).mono ?_; rintro e ws ⟨rfl, hbs⟩; rw [HSmv.out]; have HB1 := hide (HSB.out.keep hbs); obtain ⟨b0, b1, b2, b3, b4, b5, b6, b7, blt⟩ := HB1.out.box; clear hbs)
          | (refine wp_loadY layD _ _ Try.underlying61 rfl rfl (.tmp 22) rfl g0 (off0 + j * 8) d #[.int .i64 d.kd, .slice d.ka d.kn d.kc, .int .u64 d.m.v.ts, .int .u64 d.m.v.tx, .bool d.m.v.dd, .slice d.m.va d.m.vn d.m.vc, .slice d.m.ka d.m.kn d.m.kc, .int .u64 d.ts] rfl rfl HCe.out ?_))
        have n3 : ws.drew.cell? ⟨wr.heap.size, 3, none⟩ = some (.int .u64 d.m.v.tx) := b3
        go_region_held3 (fun W => W.cell? ⟨wr.heap.size, 3, none⟩ = some (.int .u64 d.m.v.tx)) (first | with_reducible exact n3) (first
          | (go_at_call 31; refine (drp2 r HH.out (by omega) HFi.out).mono ?_; rintro e w3 ⟨rfl, h3⟩; have H3 := hide h3; obtain ⟨m0, m1, m2, m3, m4, m5, m6, m7, -⟩ := h3.box; have n3 := m3; clear h3)
          | (go_at_call 30; refine (drp1 (HB1.out.keep (Below.refl _ ws).drew) (by omega) HFi.out).mono ?_; rintro e w2 ⟨r, rfl, hh⟩; have HH := hide hh; obtain ⟨m0, m1, m2, m3, m4, m5, m6, m7, -⟩ := hh.box; have n3 := m3; clear hh))
        all_goals
          go_wp2
          go_roundg (len - (j + 1))
          case measure => omega
          case rel => exact ⟨j + 1, rfl, by go_num, by omega, hj40, H3.out.stat, HSm.out⟩
      have k3' : (d.kd == 3) = false := by simp [k3]
      clear k3
      go_wp2_with (first
        | (go_at_call 23; refine (smallV_any d.m _).mono ?_; rintro e ws ⟨rfl, hbs⟩; rw [HSmv.out]; have HB1 := hide (HSB.out.keep hbs); obtain ⟨b0, b1, b2, b3, b4, b5, b6, b7, blt⟩ := HB1.out.box; clear hbs)
        | (refine wp_loadY layD _ _ Try.underlying61 rfl rfl (.tmp 22) rfl g0 (off0 + j * 8) d #[.int .i64 d.kd, .slice d.ka d.kn d.kc, .int .u64 d.m.v.ts, .int .u64 d.m.v.tx, .bool d.m.v.dd, .slice d.m.va d.m.vn d.m.vc, .slice d.m.ka d.m.kn d.m.kc, .int .u64 d.ts] rfl rfl HCe.out ?_))
      have n7 : ws.drew.cell? ⟨wr.heap.size, 7, none⟩ = some (.int .u64 d.ts) := b7
      go_region_held3 (fun W => W.cell? ⟨wr.heap.size, 7, none⟩ = some (.int .u64 d.ts)) (first | with_reducible exact n7) (first
        | (go_at_call 32; refine (gcl2 r HH.out (by omega) HFi.out).mono ?_; rintro e w3 ⟨rfl, h3⟩; have H3 := hide h3; obtain ⟨m0, m1, m2, m3, m4, m5, m6, m7, -⟩ := h3.box; have n7 := m7; clear h3)
        | (go_at_call 21; refine (gcl1 (HB1.out.keep (Below.refl _ ws).drew) (by omega) HFi.out).mono ?_; rintro e w2 ⟨r, rfl, hh⟩; have HH := hide hh; obtain ⟨m0, m1, m2, m3, m4, m5, m6, m7, -⟩ := hh.box; have n7 := m7; clear hh))
      all_goals
        go_wp2
        go_roundg (len - (j + 1))
        case measure => omega
        case rel => exact ⟨j + 1, rfl, by go_num, by omega, hj40, H3.out.stat, HSm.out⟩
    · have hlt' : ¬ (j : Int) < (len : Int) := by omega
      go_wp2
      (try simp only [Exit.inBlock, Exit.then]); refine bodyPost_ret (results_tmp4 rfl _ _ _) rfl ?_
      have hg := great_not (ds := ds) (by rw [HL.out]; omega) (fun i d hi hd => HSo.out i d (by rw [HL.out] at hi; omega) hd)
      unfold BothP
      exact ⟨p, mb, q, j, by rw [hg]; rfl, fun _ => ⟨hj0, HS.out⟩, HS.out.below⟩

end Go.Proofs.Ytfldiapdfpkdaaa

namespace Go.Proofs.Ytfldiapdfpkdaaa
open Go.RowKit NumMath Go.ChangeShapes Go.WideShapes Go.Deep
set_option linter.unusedVariables false
set_option maxRecDepth 100000

theorem MD.ok.keep {w w' : World} {d : MD} (h : d.ok w) (hb : Below w.heap.size w w') : d.ok w' := ⟨h.key.keep hb, ⟨h.m.1.keep hb, h.m.2.keep hb⟩, h.fit, h.ts⟩

theorem IsDeeds12.keep {w w' : World} {a : Option Addr} {len cap : Nat} {ds : List MD} (h : IsDeeds12 w a len cap ds) (hb : Below w.heap.size w w') : IsDeeds12 w' a len cap ds := ⟨h.1.keep hb, fun d hd => (h.2 d hd).keep hb⟩

/-- the program's store at p holds st -/
def SolS (w0 w : World) (p n : Nat) (st : List Cel) : Prop := ∃ mb z cs, z ≤ n ∧ IsS (fun _ => False) w0.heap.size w p mb z cs ∧ cs.map PC.c = st ∧ Below w0.heap.size w0 w

/-- what holds of st -/
structure GoodP (st : List Cel) : Prop where
  sort : SortC st
  live : ∀ c ∈ st, liveC c = true
  desc : ∀ c ∈ st, Desc Ver.ts c.vs

theorem SolS.keep {w0 w w' : World} {p n : Nat} {st : List Cel} (h : SolS w0 w p n st) (hb : Below w.heap.size w w') : SolS w0 w' p n st := by
  obtain ⟨mb, z, cs, h1, h2, h3, h4⟩ := h
  exact ⟨mb, z, cs, h1, h2.keep hb, h3, h4.trans (hb.mono h4.size)⟩

theorem SolS.below {w0 w : World} {p n : Nat} {st : List Cel} (h : SolS w0 w p n st) : Below w0.heap.size w0 w := by
  obtain ⟨mb, z, cs, h1, h2, h3, h4⟩ := h
  exact h4

theorem desc_pc {G : Nat → Prop} {base : Nat} {w : World} {p mb z : Nat} {cs : List PC} (h : IsS G base w p mb z cs) : ∀ c ∈ cs.map PC.c, Desc Ver.ts c.vs := by
  intro c hc
  obtain ⟨m, hm, rfl⟩ := List.mem_map.1 hc
  exact desc_map (h.go m hm).desc

theorem Stat.sol {w0 w : World} {p mb q j : Nat} (h : Stat w0 w p mb q j) (hj : j ≤ 40) : ∃ st, SolS w0 w p 80 st ∧ GoodP st := by
  obtain ⟨z, cs, cv, ms, h1, h2, h3⟩ := h
  exact ⟨_, ⟨mb, z, cs, by omega, h2.s.less (fun _ h => h.elim), rfl, h2.x.b⟩, h2.s.sort, h3.live, desc_pc h2.s⟩

theorem sol_put {w0 w : World} {p N : Nat} {st : List Cel} (h : SolS w0 w p N st) (hN : N ≤ 5000) (a : Option Addr) (n c : Nat) (key : List Int) (hk : IsBytes w a n c key) (hn : n ≤ 100000) (mv : MV) (hm : mv.ok w0) (hf : FitV mv.v) :
    Calls Try.prog 24 #[.pointer (some ⟨p, 0, none⟩), .slice a n c, .agg #[.int .u64 mv.v.ts, .int .u64 mv.v.tx, .bool mv.v.dd, .slice mv.va mv.vn mv.vc, .slice mv.ka mv.kn mv.kc]] w fun e w' => e = .returned (.tuple #[]) ∧ SolS w0 w' p (N + 2) (putC st key mv.v) := by
  obtain ⟨mb, z, cs, h1, h2, h3, h4⟩ := h
  refine (pPut_any _ _ w p mb z cs h2 (by omega) a n c key hk hn mv (foot_old hm h4 (fun k hk => h2.mlo' hk)) hf).mono ?_
  rintro e w' ⟨rfl, cs', h5, h6, h7, h8⟩
  exact ⟨rfl, mb, z + 2, cs', by omega, h5, by rw [h6, h3], h4.trans (h7.below h4.size (fun k hk => h2.mlo' hk))⟩

theorem sol_gc {w0 w : World} {p N : Nat} {st : List Cel} (h : SolS w0 w p N st) (hN : N ≤ 5000) (hg : GoodP st) (ts : Int) :
    Calls Try.prog 21 #[.pointer (some ⟨p, 0, none⟩), .int .u64 ts] w fun e w' => e = .returned (.int .i64 (gcCn ts st)) ∧ SolS w0 w' p N ((stepL (setVs (gcV ts)) (keysC st) (keysC st).length st).filter liveC) := by
  obtain ⟨mb, z, cs, h1, h2, h3, h4⟩ := h
  subst h3
  refine (pGc_any _ _ w p mb z cs h2 (by omega) hg.live ts).mono ?_
  rintro e w' ⟨rfl, cs', h5, h6, h7, h8⟩
  exact ⟨rfl, mb, z, cs', by omega, h5, h6, h4.trans (h7.below h4.size (fun k hk => h2.mlo' hk))⟩

theorem sol_at {w0 w : World} {p N : Nat} {st : List Cel} (h : SolS w0 w p N st) (hN : N ≤ 5000) (a : Option Addr) (n c : Nat) (key : List Int) (hk : IsBytes w a n c key) (hn : n ≤ 100000) (ts : Int) :
    Calls Try.prog 13 #[.pointer (some ⟨p, 0, none⟩), .slice a n c, .int .u64 ts] w fun e w' => PAtPost w (atC st key ts) e w' := by
  obtain ⟨mb, z, cs, h1, h2, h3, h4⟩ := h
  subst h3
  exact pAt_any _ _ w p mb z cs h2 (by omega) a n c key hk hn ts

end Go.Proofs.Ytfldiapdfpkdaaa
