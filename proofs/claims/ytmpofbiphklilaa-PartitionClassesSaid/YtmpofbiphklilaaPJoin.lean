/-
  Join, Find, and the definition's join, Join and Equal.
-/
import Derived.Test.YtmpofbiphklilaaPAwake
namespace Go.Proofs.Ytmpofbiphklilaa
open Go.RowKit
set_option linter.unusedVariables false

/-- Join, as the definition has it: the list and the error. -/
def joinS (zs : List Int) (x y : Int) : List Int × Int :=
  if chk zs ≠ 0 then ([], chk zs) else if isB zs.length x && isB zs.length y then (joinL zs x.toNat y.toNat, 0) else ([], 4)
def findS (zs : List Int) (x : Int) : Int × Int :=
  if chk zs ≠ 0 then (0, chk zs) else if isB zs.length x then (zs.getD x.toNat 0, 0) else (0, 4)

def joinTo (zs : List Int) (a b : Int) (k : Nat) : List Int := (zs.take k).map fun z => if z = b then a else z
theorem length_joinTo (zs : List Int) (a b : Int) (k : Nat) (h : k ≤ zs.length) : (joinTo zs a b k).length = k := by simp [joinTo]; omega
theorem joinTo_succ (zs : List Int) (a b : Int) (k : Nat) (h : k < zs.length) : joinTo zs a b (k + 1) = joinTo zs a b k ++ [if zs.getD k 0 = b then a else zs.getD k 0] := by
  unfold joinTo
  rw [List.take_succ_eq_append_getElem h, List.map_append]
  simp [h]
theorem joinTo_end (zs : List Int) (a b : Int) (k : Nat) (h : zs.length ≤ k) : joinTo zs a b k = zs.map fun z => if z = b then a else z := by
  unfold joinTo
  rw [List.take_of_length_le h]

set_option maxHeartbeats 800000 in
theorem rjoin_core (a : Option Addr) (c : Nat) (zs : List Int) (x y : Int) (w : World) (p q lo hi : Int) (hn : zs.length ≤ 8192) (hz : Ints w a zs) (hx : isB zs.length x = true) (hy : isB zs.length y = true)
    (hp : zs.getD x.toNat 0 = p) (hq : zs.getD y.toNat 0 = q) (hc : (p < q ∧ lo = p ∧ hi = q) ∨ (q < p ∧ lo = q ∧ hi = p) ∨ (p = q ∧ lo = p ∧ hi = p)) :
    Calls Try.prog 26 #[.slice a zs.length c, .int .i64 x, .int .i64 y] w fun e w' => ∃ v, e = .returned v ∧
      Own w' w.heap.size v (zs.map fun z => if z = hi then lo else z) ∧ Below w.heap.size w w' := by
  obtain ⟨b, off, rfl, hcell⟩ := hz.at_ hx
  have hcx := hcell x hx
  have hcy := hcell y hy
  obtain ⟨hx1, hx2⟩ := isB_iff.1 hx
  obtain ⟨hy1, hy2⟩ := isB_iff.1 hy
  have Hz := Lib.hid hz
  rw [hp] at hcx
  rw [hq] at hcy
  clear hcell hz hx hy hp hq
  rcases hc with ⟨h1, rfl, rfl⟩ | ⟨h1, rfl, rfl⟩ | ⟨rfl, rfl, rfl⟩
  · go_enter Try.func26, Try.ntmps26
    go_wp2
    go_quiet (fail)
    go_wp2
    go_loopw [9, 10] (fun v i wr => ∃ k : Nat, k ≤ zs.length ∧ i = .int .i64 k ∧ Own wr w.heap.size v (joinTo zs lo hi k) ∧ Below w.heap.size w wr) (fun _ i _ => zs.length - (intOf i).toNat)
    case atStart => exact ⟨0, Nat.zero_le _, rfl, Own.nil _ _, Drawn.below ⟨_, rfl⟩ _⟩
    case round =>
      obtain ⟨k, hk, rfl, hown, hb⟩ := hrel
      have Hown := Lib.hid hown
      have Hb := Lib.hid hb
      clear hown hb
      by_cases hlt : k < zs.length
      · obtain ⟨_, _, e0, hcz⟩ := Hz.out (by omega)
        cases e0
        have ck := (Hb.out.cell (p := ⟨b, off + k, none⟩) (World.block_lt_of_cell? w _ (hcz k hlt))).trans (hcz k hlt)
        have Hsucc := Lib.hid (joinTo_succ zs lo hi k hlt)
        have Hlen := Lib.hid (length_joinTo zs lo hi k hk)
        obtain ⟨z, hzk⟩ : ∃ z, zs.getD k 0 = z := ⟨_, rfl⟩
        rw [hzk] at ck Hsucc
        clear hcz hzk
        by_cases e : z = hi
        · rw [if_pos e] at Hsucc
          have t : (z == hi) = true := by simp [e]
          clear e
          go_wp2_with (at_builtin; refine wpList_append_int rfl _ _ rfl w.heap.size _ _ rfl (Hown.out.alloc _) wr.heap.size lo rfl ?_ ?_ ?_ ?_)
          · simp [go_sem]
          · rw [Hlen.out]; omega
          · have := Hb.out.size; simp; omega
          intro v' w1 hown' hgrow
          have Ha := Lib.hid hown'
          have Hb1 := Lib.hid (Hown.out.grown hgrow Hb.out Hb.out.size)
          clear hown' hgrow
          go_wp2
          go_roundw
          case rel => exact ⟨k + 1, by omega, by go_num, by rw [Hsucc.out]; exact Ha.out, Hb1.out⟩
          case measure => simp [intOf]; omega
        · rw [if_neg e] at Hsucc
          have t : (z == hi) = false := by simp [e]
          clear e
          go_wp2_with (at_builtin; refine wpList_append_int rfl _ _ rfl w.heap.size _ _ rfl (Hown.out.alloc _) wr.heap.size z rfl ?_ ?_ ?_ ?_)
          · simp [go_sem]
          · rw [Hlen.out]; omega
          · have := Hb.out.size; simp; omega
          intro v' w1 hown' hgrow
          have Ha := Lib.hid hown'
          have Hb1 := Lib.hid (Hown.out.grown hgrow Hb.out Hb.out.size)
          clear hown' hgrow
          go_wp2
          go_roundw
          case rel => exact ⟨k + 1, by omega, by go_num, by rw [Hsucc.out]; exact Ha.out, Hb1.out⟩
          case measure => simp [intOf]; omega
      · have Hend := Lib.hid (joinTo_end zs lo hi k (by omega))
        go_wp2
        go_ret
        exact ⟨_, rfl, by rw [← Hend.out]; exact Hown.out, Hb.out⟩
  · go_enter Try.func26, Try.ntmps26
    go_wp2
    go_quiet (fail)
    go_wp2
    go_loopw [9, 10] (fun v i wr => ∃ k : Nat, k ≤ zs.length ∧ i = .int .i64 k ∧ Own wr w.heap.size v (joinTo zs lo hi k) ∧ Below w.heap.size w wr) (fun _ i _ => zs.length - (intOf i).toNat)
    case atStart => exact ⟨0, Nat.zero_le _, rfl, Own.nil _ _, Drawn.below ⟨_, rfl⟩ _⟩
    case round =>
      obtain ⟨k, hk, rfl, hown, hb⟩ := hrel
      have Hown := Lib.hid hown
      have Hb := Lib.hid hb
      clear hown hb
      by_cases hlt : k < zs.length
      · obtain ⟨_, _, e0, hcz⟩ := Hz.out (by omega)
        cases e0
        have ck := (Hb.out.cell (p := ⟨b, off + k, none⟩) (World.block_lt_of_cell? w _ (hcz k hlt))).trans (hcz k hlt)
        have Hsucc := Lib.hid (joinTo_succ zs lo hi k hlt)
        have Hlen := Lib.hid (length_joinTo zs lo hi k hk)
        obtain ⟨z, hzk⟩ : ∃ z, zs.getD k 0 = z := ⟨_, rfl⟩
        rw [hzk] at ck Hsucc
        clear hcz hzk
        by_cases e : z = hi
        · rw [if_pos e] at Hsucc
          have t : (z == hi) = true := by simp [e]
          clear e
          go_wp2_with (at_builtin; refine wpList_append_int rfl _ _ rfl w.heap.size _ _ rfl (Hown.out.alloc _) wr.heap.size lo rfl ?_ ?_ ?_ ?_)
          · simp [go_sem]
          · rw [Hlen.out]; omega
          · have := Hb.out.size; simp; omega
          intro v' w1 hown' hgrow
          have Ha := Lib.hid hown'
          have Hb1 := Lib.hid (Hown.out.grown hgrow Hb.out Hb.out.size)
          clear hown' hgrow
          go_wp2
          go_roundw
          case rel => exact ⟨k + 1, by omega, by go_num, by rw [Hsucc.out]; exact Ha.out, Hb1.out⟩
          case measure => simp [intOf]; omega
        · rw [if_neg e] at Hsucc
          have t : (z == hi) = false := by simp [e]
          clear e
          go_wp2_with (at_builtin; refine wpList_append_int rfl _ _ rfl w.heap.size _ _ rfl (Hown.out.alloc _) wr.heap.size z rfl ?_ ?_ ?_ ?_)
          · simp [go_sem]
          · rw [Hlen.out]; omega
          · have := Hb.out.size; simp; omega
          intro v' w1 hown' hgrow
          have Ha := Lib.hid hown'
          have Hb1 := Lib.hid (Hown.out.grown hgrow Hb.out Hb.out.size)
          clear hown' hgrow
          go_wp2
          go_roundw
          case rel => exact ⟨k + 1, by omega, by go_num, by rw [Hsucc.out]; exact Ha.out, Hb1.out⟩
          case measure => simp [intOf]; omega
      · have Hend := Lib.hid (joinTo_end zs lo hi k (by omega))
        go_wp2
        go_ret
        exact ⟨_, rfl, by rw [← Hend.out]; exact Hown.out, Hb.out⟩
  · go_enter Try.func26, Try.ntmps26
    go_wp2
    go_quiet (fail)
    go_wp2
    go_loopw [9, 10] (fun v i wr => ∃ k : Nat, k ≤ zs.length ∧ i = .int .i64 k ∧ Own wr w.heap.size v (joinTo zs hi hi k) ∧ Below w.heap.size w wr) (fun _ i _ => zs.length - (intOf i).toNat)
    case atStart => exact ⟨0, Nat.zero_le _, rfl, Own.nil _ _, Drawn.below ⟨_, rfl⟩ _⟩
    case round =>
      obtain ⟨k, hk, rfl, hown, hb⟩ := hrel
      have Hown := Lib.hid hown
      have Hb := Lib.hid hb
      clear hown hb
      by_cases hlt : k < zs.length
      · obtain ⟨_, _, e0, hcz⟩ := Hz.out (by omega)
        cases e0
        have ck := (Hb.out.cell (p := ⟨b, off + k, none⟩) (World.block_lt_of_cell? w _ (hcz k hlt))).trans (hcz k hlt)
        have Hsucc := Lib.hid (joinTo_succ zs hi hi k hlt)
        have Hlen := Lib.hid (length_joinTo zs hi hi k hk)
        obtain ⟨z, hzk⟩ : ∃ z, zs.getD k 0 = z := ⟨_, rfl⟩
        rw [hzk] at ck Hsucc
        clear hcz hzk
        by_cases e : z = hi
        · rw [if_pos e] at Hsucc
          have t : (z == hi) = true := by simp [e]
          clear e
          go_wp2_with (at_builtin; refine wpList_append_int rfl _ _ rfl w.heap.size _ _ rfl (Hown.out.alloc _) wr.heap.size hi rfl ?_ ?_ ?_ ?_)
          · simp [go_sem]
          · rw [Hlen.out]; omega
          · have := Hb.out.size; simp; omega
          intro v' w1 hown' hgrow
          have Ha := Lib.hid hown'
          have Hb1 := Lib.hid (Hown.out.grown hgrow Hb.out Hb.out.size)
          clear hown' hgrow
          go_wp2
          go_roundw
          case rel => exact ⟨k + 1, by omega, by go_num, by rw [Hsucc.out]; exact Ha.out, Hb1.out⟩
          case measure => simp [intOf]; omega
        · rw [if_neg e] at Hsucc
          have t : (z == hi) = false := by simp [e]
          clear e
          go_wp2_with (at_builtin; refine wpList_append_int rfl _ _ rfl w.heap.size _ _ rfl (Hown.out.alloc _) wr.heap.size z rfl ?_ ?_ ?_ ?_)
          · simp [go_sem]
          · rw [Hlen.out]; omega
          · have := Hb.out.size; simp; omega
          intro v' w1 hown' hgrow
          have Ha := Lib.hid hown'
          have Hb1 := Lib.hid (Hown.out.grown hgrow Hb.out Hb.out.size)
          clear hown' hgrow
          go_wp2
          go_roundw
          case rel => exact ⟨k + 1, by omega, by go_num, by rw [Hsucc.out]; exact Ha.out, Hb1.out⟩
          case measure => simp [intOf]; omega
      · have Hend := Lib.hid (joinTo_end zs hi hi k (by omega))
        go_wp2
        go_ret
        exact ⟨_, rfl, by rw [← Hend.out]; exact Hown.out, Hb.out⟩

theorem rjoin_any (a : Option Addr) (c : Nat) (zs : List Int) (x y : Int) (w : World) (hn : zs.length ≤ 8192) (hz : Ints w a zs) (hx : isB zs.length x = true) (hy : isB zs.length y = true) :
    Calls Try.prog 26 #[.slice a zs.length c, .int .i64 x, .int .i64 y] w fun e w' => ∃ v, e = .returned v ∧
      Own w' w.heap.size v (joinL zs x.toNat y.toNat) ∧ Below w.heap.size w w' := by
  have h := rjoin_core a c zs x y w _ _ (min (zs.getD x.toNat 0) (zs.getD y.toNat 0)) (max (zs.getD x.toNat 0) (zs.getD y.toNat 0)) hn hz hx hy rfl rfl (by omega)
  exact h

set_option maxHeartbeats 800000 in
theorem rJoin_any (a : Option Addr) (c : Nat) (zs : List Int) (x y : Int) (w : World) (hn : zs.length ≤ maxLen) (hz : Ints w a zs) :
    Calls Try.prog 16 #[.slice a zs.length c, .int .i64 x, .int .i64 y] w fun e w' => ∃ v, e = .returned (.tuple #[v, .int .i64 (joinS zs x y).2]) ∧
      Own w' w.heap.size v (joinS zs x y).1 ∧ Below w.heap.size w w' := by
  have hn' := hn
  unfold maxLen at hn'
  have Hz := Lib.hid hz
  clear hz
  obtain ⟨js, hjs⟩ : ∃ js, joinS zs x y = js := ⟨_, rfl⟩
  rw [hjs]
  have Hjs := Lib.hid hjs
  clear hjs
  by_cases hc : chk zs = 0
  · have t0 : (chk zs != 0) = false := by simp [hc]
    have h8 := (chk_valid hc).short
    by_cases hx : isB zs.length x = true
    · obtain ⟨hx1, hx2⟩ := isB_iff.1 hx
      by_cases hy : isB zs.length y = true
      · obtain ⟨hy1, hy2⟩ := isB_iff.1 hy
        have e : js = (joinL zs x.toNat y.toNat, 0) := by rw [← Hjs.out]; simp only [joinS, hc, hx, hy, Bool.and_self, ne_eq, not_true_eq_false, if_false, if_true]
        subst e
        have Hx := Lib.hid hx
        have Hy := Lib.hid hy
        clear hx hy hc
        go_enter Try.func16, Try.ntmps16
        go_wp2_with fail
        refine (rcheck_any a c zs w hn Hz.out).mono ?_
        rintro e w1 ⟨rfl, n1, rfl⟩
        go_wp2_with fail
        refine (rjoin_any a c zs x y _ h8 (Hz.out.drewN _) Hx.out Hy.out).mono ?_
        rintro e w1 ⟨v, rfl, ho, hb⟩
        have Ho := Lib.hid ho
        have Hb := Lib.hid hb
        clear ho hb
        go_wp2
        go_ret2
        exact ⟨_, rfl, Ho.out, (Drawn.below ⟨_, rfl⟩ _).trans Hb.out⟩
      · simp only [Bool.not_eq_true] at hy
        have e : js = ([], 4) := by rw [← Hjs.out]; simp only [joinS, hc, hy, Bool.and_false, ne_eq, not_true_eq_false, if_false, Bool.false_eq_true]
        subst e
        have hy' := isB_not.1 hy
        clear hy hx hc
        rcases (show (y < 0) ∨ (0 ≤ y ∧ (zs.length : Int) ≤ y) from by omega) with hy1 | ⟨hy0, hy1⟩
        all_goals
          clear hy'
          go_enter Try.func16, Try.ntmps16
          go_wp2_with (go_at_call 12; refine (rcheck_any _ _ zs _ hn Hz.out).mono ?_; rintro e w' ⟨rfl, n1, rfl⟩)
          go_ret2
          exact ⟨_, rfl, Own.nil _ _, Drawn.below ⟨_, rfl⟩ _⟩
    · simp only [Bool.not_eq_true] at hx
      have e : js = ([], 4) := by rw [← Hjs.out]; simp only [joinS, hc, hx, Bool.false_and, ne_eq, not_true_eq_false, if_false, Bool.false_eq_true]
      subst e
      have hx' := isB_not.1 hx
      clear hx hc
      rcases (show (x < 0) ∨ (0 ≤ x ∧ (zs.length : Int) ≤ x) from by omega) with hx1 | ⟨hx0, hx1⟩
      all_goals
        clear hx'
        go_enter Try.func16, Try.ntmps16
        go_wp2_with (go_at_call 12; refine (rcheck_any _ _ zs _ hn Hz.out).mono ?_; rintro e w' ⟨rfl, n1, rfl⟩)
        go_ret2
        exact ⟨_, rfl, Own.nil _ _, Drawn.below ⟨_, rfl⟩ _⟩
  · have t0 : (chk zs != 0) = true := by simp [hc]
    have e : js = ([], chk zs) := by rw [← Hjs.out]; simp only [joinS, if_pos hc, ne_eq]
    subst e
    clear hc
    go_enter Try.func16, Try.ntmps16
    go_wp2_with (go_at_call 12; refine (rcheck_any _ _ zs _ hn Hz.out).mono ?_; rintro e w' ⟨rfl, n1, rfl⟩)
    go_ret2
    exact ⟨_, rfl, Own.nil _ _, Drawn.below ⟨_, rfl⟩ _⟩

set_option maxHeartbeats 800000 in
theorem requal_any (a : Option Addr) (c : Nat) (za : List Int) (b : Option Addr) (d : Nat) (zb : List Int) (w : World) (hn : za.length ≤ maxLen) (hz : Ints w a za) (hm : zb.length ≤ maxLen) (hzb : Ints w b zb) :
    Calls Try.prog 17 #[.slice a za.length c, .slice b zb.length d] w fun e w' => e = .returned (.bool (decide (za = zb))) ∧ Drawn w w' := by
  unfold maxLen at hn hm
  have Hz := Lib.hid hz
  have Hzb := Lib.hid hzb
  clear hz hzb
  by_cases hl : za.length = zb.length
  · have t0 : ((za.length : Int) != (zb.length : Int)) = false := by simp [hl]
    have Hl := Lib.hid hl
    clear hl
    go_enter Try.func17, Try.ntmps17
    go_wp2
    go_loopw [5] (fun i wr => ∃ k : Nat, k ≤ za.length ∧ i = .int .i64 k ∧ (∀ j, j < k → za.getD j 0 = zb.getD j 0) ∧ Drawn w wr) (fun i _ => za.length - (intOf i).toNat)
    case atStart => exact ⟨0, Nat.zero_le _, rfl, fun j hj => absurd hj (by omega), .refl _⟩
    case round =>
      obtain ⟨k, hk, rfl, hall, nw, rfl⟩ := hrel
      have Hall := Lib.hid hall
      clear hall
      by_cases hlt : k < za.length
      · obtain ⟨ba, oa, rfl, hca⟩ := Hz.out (by omega)
        obtain ⟨bb, ob, rfl, hcb⟩ := Hzb.out (by rw [← Hl.out]; omega)
        have c1 := hca k hlt
        have c2 := hcb k (by rw [← Hl.out]; omega)
        have l2 : k < zb.length := by rw [← Hl.out]; omega
        obtain ⟨p, hp⟩ : ∃ p, za.getD k 0 = p := ⟨_, rfl⟩
        obtain ⟨q, hq⟩ : ∃ q, zb.getD k 0 = q := ⟨_, rfl⟩
        rw [hp] at c1
        rw [hq] at c2
        have Hp := Lib.hid hp
        have Hq := Lib.hid hq
        clear hca hcb hp hq
        by_cases e : p = q
        · have t1 : (p != q) = false := by simp [e]
          have E := Lib.hid e
          clear e
          go_wp2
          go_quiet (fail)
          go_wp2
          go_roundw
          case rel =>
            refine ⟨k + 1, by omega, by go_num, fun j hj => ?_, ⟨_, rfl⟩⟩
            by_cases e : j = k
            · rw [e, Hp.out, Hq.out]; exact E.out
            · exact Hall.out j (by omega)
          case measure => simp [intOf]; omega
        · have t1 : (p != q) = true := by simp [e]
          have Hne := Lib.hid (show false = decide (za = zb) by
            symm; rw [decide_eq_false_iff_not]; intro h; exact e (by rw [← Hp.out, ← Hq.out, h]))
          clear e
          go_wp2
          go_quiet (fail)
          go_wp2
          go_ret
          exact ⟨ret_bool Hne.out, by first | exact ⟨_, rfl⟩ | exact ((Drawn.refl _).step _).step _⟩
      · have Heq := Lib.hid (show true = decide (za = zb) by
          symm; rw [decide_eq_true_eq]
          apply List.ext_getElem Hl.out
          intro i h1 h2
          have := Hall.out i (by omega)
          simpa [h1, h2] using this)
        go_wp2
        go_ret
        exact ⟨ret_bool Heq.out, nw, rfl⟩
  · have t0 : ((za.length : Int) != (zb.length : Int)) = true := by rw [bne_iff_ne]; omega
    have Hne := Lib.hid (show false = decide (za = zb) by
      symm; rw [decide_eq_false_iff_not]; intro h; exact hl (by rw [h]))
    clear hl
    go_enter Try.func17, Try.ntmps17
    go_wp2
    go_ret
    exact ⟨ret_bool Hne.out, .refl _⟩

set_option maxHeartbeats 800000 in
theorem find_any (a : Option Addr) (c : Nat) (zs : List Int) (x : Int) (w : World) (hn : zs.length ≤ maxLen) (hz : Ints w a zs) :
    Calls Try.prog 18 #[.slice a zs.length c, .int .i64 x] w fun e w' => e = .returned (.tuple #[.int .i64 (findS zs x).1, .int .i64 (findS zs x).2]) ∧ w = w' := by
  have Hz := Lib.hid hz
  obtain ⟨js, hjs⟩ : ∃ js, findS zs x = js := ⟨_, rfl⟩
  rw [hjs]
  have Hjs := Lib.hid hjs
  clear hjs
  by_cases hc : chk zs = 0
  · have t0 : (chk zs != 0) = false := by simp [hc]
    by_cases hx : isB zs.length x = true
    · obtain ⟨hx1, hx2⟩ := isB_iff.1 hx
      obtain ⟨b, off, rfl, hcell⟩ := hz.at_ hx
      have c1 := hcell x hx
      have e : js = (zs.getD x.toNat 0, 0) := by rw [← Hjs.out]; simp only [findS, hc, hx, ne_eq, not_true_eq_false, if_false, if_true]
      subst e
      generalize zs.getD x.toNat 0 = p at *
      clear hcell hc hz
      go_enter Try.func18, Try.ntmps18
      go_wp2_with (first | (go_at_call 10; refine (check_any _ _ zs _ hn Hz.out).mono ?_; rintro e w' ⟨rfl, rfl⟩) | (go_at_call 25; refine (isNumber_any _ _ _ _ _).mono ?_; rintro e w' ⟨rfl, rfl⟩))
      go_ret2
      exact ⟨rfl, rfl⟩
    · simp only [Bool.not_eq_true] at hx
      have e : js = (0, 4) := by rw [← Hjs.out]; simp only [findS, hc, hx, ne_eq, not_true_eq_false, if_false, Bool.false_eq_true]
      subst e
      clear hc hz
      go_enter Try.func18, Try.ntmps18
      go_wp2_with (first | (go_at_call 10; refine (check_any _ _ zs _ hn Hz.out).mono ?_; rintro e w' ⟨rfl, rfl⟩) | (go_at_call 25; refine (isNumber_any _ _ _ _ _).mono ?_; rintro e w' ⟨rfl, rfl⟩))
      go_ret2
      exact ⟨rfl, rfl⟩
  · have t0 : (chk zs != 0) = true := by simp [hc]
    have e : js = (0, chk zs) := by rw [← Hjs.out]; simp only [findS, if_pos hc, ne_eq]
    subst e
    clear hc hz
    go_enter Try.func18, Try.ntmps18
    go_wp2_with (first | (go_at_call 10; refine (check_any _ _ zs _ hn Hz.out).mono ?_; rintro e w' ⟨rfl, rfl⟩) | (go_at_call 25; refine (isNumber_any _ _ _ _ _).mono ?_; rintro e w' ⟨rfl, rfl⟩))
    go_ret2
    exact ⟨rfl, rfl⟩
end Go.Proofs.Ytmpofbiphklilaa
