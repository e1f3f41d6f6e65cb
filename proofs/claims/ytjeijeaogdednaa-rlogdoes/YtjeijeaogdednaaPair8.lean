/- A deed with two logs side by side. -/
import Derived.Test.YtjeijeaogdednaaSame8
import Derived.Test.YtjeijeaogdednaaTwo8
namespace Go.Proofs.Ytjeijeaogdednaa
open Go.RowKit NumMath
set_option linter.unusedVariables false
set_option maxRecDepth 100000

theorem app_two {w W : World} {p q : Nat} {L : LogS} {n : Nat} {la : Option Addr} {ln lc : Nat} {ms : List MEnt} (hT : Two8 W w.heap.size p q L n) (hW : Below w.heap.size w W) (hm : IsMs (fun _ => False) w la ln lc ms) (hS : SmallM ln ms) (hn : n ≤ 20) :
    Calls Try.prog 13 #[.pointer (some ⟨p, 0, none⟩), .slice la ln lc] W fun e w' => e = .returned (.int .i64 (appL L (ms.map MEnt.e)).1) ∧ IsL (fun k => XB W p q k ∨ SB 4 w' p k) w' w.heap.size p (appL L (ms.map MEnt.e)).2 ∧ SPost 4 W p w' := by
  have hp : w.heap.size ≤ p := (hT.a.lt SB.at).2.1
  exact app_any (XB W p q) w.heap.size p L la ln lc ms W hT.a hT.good (ms_off hm hW (fun k hk => by rw [hk]; exact hp)) (ms_far hm hp) (by have := hS.1; omega) (fun m h => by have := hS.2 m h; omega) (by have := hT.len; omega) (fun k hk => (hT.lt hk).2) hW.size

theorem xapp_two {w W W1 : World} {p q : Nat} {L : LogS} {n : Nat} {la : Option Addr} {ln lc : Nat} {ms : List MEnt} (hT : Two8 W w.heap.size p q L n) (hW : Below w.heap.size w W) (hm : IsMs (fun _ => False) w la ln lc ms) (hS : SmallM ln ms) (hn : n ≤ 20) (hp : SPost 4 W p W1) (ha : IsL (fun k => XB W p q k ∨ SB 4 W1 p k) W1 w.heap.size p (appL L (ms.map MEnt.e)).2) :
    Calls Try.prog 14 #[.pointer (some ⟨q, 0, none⟩), .slice la ln lc] W1 fun e w' => e = .returned (.int .i64 (appL L (ms.map MEnt.e)).1) ∧ Two8 w' w.heap.size p q (appL L (ms.map MEnt.e)).2 (n + 1) ∧ SPost 4 W1 q w' ∧ Below w.heap.size w w' := by
  have hq : w.heap.size ≤ q := (hT.b.lt SB.at).2.1
  have hW1 : Below w.heap.size w W1 := hW.trans (hT.a.below hp hW.size)
  refine (xapp_any (XM W W1 p q) w.heap.size q L la ln lc ms W1 (hT.mid hp) hT.good (ms_off hm hW1 (fun k hk => (hT.ltM hp ha hk).1)) (ms_far hm hq) (by have := hS.1; omega) (by have := hT.len; omega) (fun k hk => (hT.ltM hp ha hk).2) hW1.size).mono ?_
  rintro e w' ⟨rfl, hb, hq'⟩
  have hl : (ms.map MEnt.e).length ≤ 12 := by rw [List.length_map, hm.1]; exact hS.1
  refine ⟨rfl, hT.next hp ha hq' hb (good_app hT.good (ents_small hm hS) (by have := hT.len; omega)) (by have := appL_len L (ms.map MEnt.e); have := hT.len; omega) (by have := appL_top (L := L) (ms.map MEnt.e); have := hT.top; omega), hq', hW.trans (hT.below hp ha hq' hW.size)⟩

theorem comp_two {w W : World} {p q : Nat} {L : LogS} {n : Nat} {x : Int} {da : Option Addr} {dn dc : Nat} {d : List Int} (hT : Two8 W w.heap.size p q L n) (hW : Below w.heap.size w W) (hd : IsBytes w da dn dc d) (hS : dn ≤ 200) (hx : 0 ≤ x) :
    Calls Try.prog 15 #[.pointer (some ⟨p, 0, none⟩), .int .u64 x, .slice da dn dc] W fun e w' => e = .returned (.int .i64 (compL L x d).1) ∧ IsL (fun k => XB W p q k ∨ SB 4 w' p k) w' w.heap.size p (compL L x d).2 ∧ SPost 4 W p w' := by
  have hp : w.heap.size ≤ p := (hT.a.lt SB.at).2.1
  exact comp_any (XB W p q) w.heap.size p L x da dn dc d W hT.a hT.good hx (hd.keep hW) (bytes_far hd hp) (by omega) (fun k hk => (hT.lt hk).2) hW.size

theorem xcomp_two {w W W1 : World} {p q : Nat} {L : LogS} {n : Nat} {x : Int} {da : Option Addr} {dn dc : Nat} {d : List Int} (hT : Two8 W w.heap.size p q L n) (hW : Below w.heap.size w W) (hd : IsBytes w da dn dc d) (hS : dn ≤ 200) (hx : 0 ≤ x) (hn : n ≤ 20) (hp : SPost 4 W p W1) (ha : IsL (fun k => XB W p q k ∨ SB 4 W1 p k) W1 w.heap.size p (compL L x d).2) :
    Calls Try.prog 16 #[.pointer (some ⟨q, 0, none⟩), .int .u64 x, .slice da dn dc] W1 fun e w' => e = .returned (.int .i64 (compL L x d).1) ∧ Two8 w' w.heap.size p q (compL L x d).2 (n + 1) ∧ SPost 4 W1 q w' ∧ Below w.heap.size w w' := by
  have hW1 : Below w.heap.size w W1 := hW.trans (hT.a.below hp hW.size)
  refine (xcomp_any (XM W W1 p q) w.heap.size q L x da dn dc d W1 (hT.mid hp) hT.good hx (dat_off hd hW1 (fun k hk => (hT.ltM hp ha hk).1)) (fun k hk => (hT.ltM hp ha hk).2) hW1.size).mono ?_
  rintro e w' ⟨rfl, hb, hq'⟩
  have ht := compL_top (L := L) x d
  have hl := hT.len
  have h2 := hT.top
  refine ⟨rfl, hT.next hp ha hq' hb (good_comp hT.good (by have := hd.1; omega) (by omega)) (by omega) (by omega), hq', hW.trans (hT.below hp ha hq' hW.size)⟩

/-- both cleaned -/
theorem clean_two {w W W1 : World} {p q : Nat} {L : LogS} {n : Nat} (hT : Two8 W w.heap.size p q L n) (hW : Below w.heap.size w W) (hp : SPost 4 W p W1) (ha : IsL (XB W p q) W1 w.heap.size p L.clean) :
    Two8 ((W1.setCell ⟨q, 5, none⟩ (.int .u64 0)).setCell ⟨q, 6, none⟩ (.bool false)) w.heap.size p q L.clean (n + 1) ∧ Below w.heap.size w ((W1.setCell ⟨q, 5, none⟩ (.int .u64 0)).setCell ⟨q, 6, none⟩ (.bool false)) := by
  obtain ⟨hb, hq⟩ := isL_clean (hT.mid hp)
  have hl := hT.len
  have h2 := hT.top
  exact ⟨hT.next hp (isL_wide ha) hq (isL_wide hb) (good_clean hT.good) (by show L.es.length ≤ _; omega) (by show L.s.i + (L.es.length : Int) ≤ _; omega), hW.trans (hT.below hp (isL_wide ha) hq hW.size)⟩

theorem same_two {W : World} {base p q : Nat} {L : LogS} {n : Nat} (hT : Two8 W base p q L n) (hn : n ≤ 21) :
    Calls Try.prog 18 #[.pointer (some ⟨p, 0, none⟩), .pointer (some ⟨q, 0, none⟩)] W fun e w' => e = .returned (.bool true) ∧ Below W.heap.size W w' :=
  same_any (XB W p q) (XB W p q) base base p q L W hT.a hT.b hT.good (by have := hT.len; omega) (fun k hk => (hT.lt hk).2)

end Go.Proofs.Ytjeijeaogdednaa
