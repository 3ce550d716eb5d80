/-
  The program's Join.
-/
import Derived.Test.YtahfpkojkcnhiaaPJoin
namespace Go.Proofs.Ytahfpkojkcnhiaa
open Go.RowKit
set_option linter.unusedVariables false

/-- What the copy holds behind k steps: k entries joined, the rest 0. -/
def copyTo (zs : List Int) (a b : Int) (k : Nat) : List Int := joinTo zs a b k ++ List.replicate (zs.length - k) 0
theorem length_copyTo (zs : List Int) (a b : Int) (k : Nat) (h : k ≤ zs.length) : (copyTo zs a b k).length = zs.length := by
  rw [copyTo, List.length_append, length_joinTo _ _ _ _ h, List.length_replicate]; omega
theorem copyTo_zero (zs : List Int) (a b : Int) : copyTo zs a b 0 = List.replicate zs.length 0 := by simp [copyTo, joinTo]
theorem copyTo_end (zs : List Int) (a b : Int) : copyTo zs a b zs.length = zs.map fun z => if z = b then a else z := by
  rw [copyTo, joinTo_end _ _ _ _ (Nat.le_refl _)]; simp
theorem copyTo_succ (zs : List Int) (a b : Int) (k : Nat) (h : k < zs.length) : (copyTo zs a b k).set k (if zs.getD k 0 = b then a else zs.getD k 0) = copyTo zs a b (k + 1) := by
  unfold copyTo
  rw [joinTo_succ zs a b k h, show zs.length - k = (zs.length - (k + 1)) + 1 from by omega, List.replicate_succ, List.append_assoc]
  rw [List.set_append_right _ _ (by rw [length_joinTo _ _ _ _ (by omega)]; omega), length_joinTo _ _ _ _ (by omega), Nat.sub_self]
  rfl

set_option maxHeartbeats 1600000 in
theorem pjoin_core (a : Option Addr) (c : Nat) (zs : List Int) (x y : Int) (w : World) (p q lo hi : Int) (hn : zs.length ≤ maxLen) (hz : Ints w a zs) (hc : chk zs = 0) (hx : isB zs.length x = true) (hy : isB zs.length y = true)
    (hp : zs.getD x.toNat 0 = p) (hq : zs.getD y.toNat 0 = q) (hcs : (p < q ∧ lo = p ∧ hi = q) ∨ (q < p ∧ lo = q ∧ hi = p) ∨ (p = q ∧ lo = p ∧ hi = p)) :
    Calls Try.prog 15 #[.slice a zs.length c, .int .i64 x, .int .i64 y] w fun e w' => ∃ v, e = .returned (.tuple #[v, .int .i64 0]) ∧
      Own w' w.heap.size v (zs.map fun z => if z = hi then lo else z) ∧ Below w.heap.size w w' := by
  obtain ⟨i0, hi0, hz0, hz1, hz2⟩ := info_parts int_info
  have h8 := (chk_valid hc).short
  have t0 : (chk zs != 0) = false := by simp [hc]
  obtain ⟨b, off, rfl, hcell⟩ := hz.at_ hx
  have hcx := hcell x hx
  have hcy := hcell y hy
  obtain ⟨hx1, hx2⟩ := isB_iff.1 hx
  obtain ⟨hy1, hy2⟩ := isB_iff.1 hy
  have Hz := Lib.hid hz
  rw [hp] at hcx
  rw [hq] at hcy
  clear hcell hz hp hq hc
  rcases hcs with ⟨h1, rfl, rfl⟩ | ⟨h1, rfl, rfl⟩ | ⟨rfl, rfl, rfl⟩
  · go_enter Try.func15, Try.ntmps15
    go_wp2_with (first | (go_at_call 10; refine (check_any _ _ zs _ hn Hz.out).mono ?_; rintro e w' ⟨rfl, rfl⟩) | (go_at_call 25; refine (isNumber_any _ _ _ _ _).mono ?_; rintro e w' ⟨rfl, rfl⟩))
    go_quiet (fail)
    go_wp2_with (at_make; refine wpList_make_full _ rfl _ _ 22 rfl w.heap.size 3 i0 (.int .i64 0) 1 Try.underlying22 hi0 hz0 hz1 _ _ _ _ zs.length rfl rfl rfl rfl ?_ ?_ ?_ ?_)
    · rw [hz2]; omega
    · unfold maxLen; omega
    · exact Nat.le_refl _
    intro w1 hown hg
    have Hb := Lib.hid ((Drawn.below ⟨nq, rfl⟩ _).grown hg (Nat.le_refl _) (fun k hk => by cases hk) : Below w.heap.size w w1)
    have Hrow := Lib.hid (show Row w1 w.heap.size w.heap.size zs.length (copyTo zs lo hi 0) by
      have e : (copyTo zs lo hi 0).map (Value.int .i64) = (madeCells #[Value.int .i64 0] zs.length).toList := by
        rw [toList_madeCells_one, copyTo_zero]; simp
      unfold Row
      rw [length_copyTo _ _ _ _ (by omega), e]
      exact hown)
    clear hown hg
    go_wp2
    go_loopw [12, 13, 52] (fun _ _ i wr => ∃ k : Nat, k ≤ zs.length ∧ i = .int .i64 k ∧ Row wr w.heap.size w.heap.size zs.length (copyTo zs lo hi k) ∧ Below w.heap.size w wr) (fun _ _ i _ => zs.length - (intOf i).toNat)
    case atStart => exact ⟨0, Nat.zero_le _, rfl, Hrow.out, Hb.out⟩
    case round =>
      obtain ⟨k, hk, rfl, hr, hbl⟩ := hrel
      have Hr := Lib.hid hr
      have Hb1 := Lib.hid hbl
      by_cases hlt : k < zs.length
      · obtain ⟨_, _, e0, hcz⟩ := Hz.out (by omega)
        cases e0
        have ck := (hbl.cell (p := ⟨b, off + k, none⟩) (World.block_lt_of_cell? w _ (hcz k hlt))).trans (hcz k hlt)
        have hsb := World.block_lt_of_cell? w _ (hcz k hlt)
        have cq := hr.cell (i := k) (by rw [length_copyTo _ _ _ _ hk]; exact hlt)
        have fz := hr.free k
        have Hsucc := Lib.hid (copyTo_succ zs lo hi k hlt)
        obtain ⟨z, hzk⟩ : ∃ z, zs.getD k 0 = z := ⟨_, rfl⟩
        rw [hzk] at ck Hsucc
        generalize (copyTo zs lo hi k).getD k 0 = old at cq
        clear hcz hzk hr hbl
        by_cases e : z = hi
        · rw [if_pos e] at Hsucc
          have t : (z == hi) = true := by simp [e]
          clear e
          go_wp2
          go_roundw
          case rel => exact ⟨k + 1, by omega, by go_num, by rw [← Hsucc.out]; exact Hr.out.set _ _, Hb1.out.setCell (Nat.le_refl _) _⟩
          case measure => simp [intOf]; omega
        · rw [if_neg e] at Hsucc
          have t : (z == hi) = false := by simp [e]
          clear e
          go_wp2
          go_roundw
          case rel => exact ⟨k + 1, by omega, by go_num, by rw [← Hsucc.out]; exact Hr.out.set _ _, Hb1.out.setCell (Nat.le_refl _) _⟩
          case measure => simp [intOf]; omega
      · have e : k = zs.length := by omega
        have Hend := Lib.hid (show Row wr w.heap.size w.heap.size zs.length (zs.map fun z => if z = hi then lo else z) by
          rw [← copyTo_end zs lo hi, ← e]; rw [← e] at hr; exact hr)
        clear hr hbl e
        go_wp2
        go_ret2
        exact ⟨_, rfl, by have := Hend.out.own; rw [List.length_map] at this; exact this, Hb1.out⟩
  · go_enter Try.func15, Try.ntmps15
    go_wp2_with (first | (go_at_call 10; refine (check_any _ _ zs _ hn Hz.out).mono ?_; rintro e w' ⟨rfl, rfl⟩) | (go_at_call 25; refine (isNumber_any _ _ _ _ _).mono ?_; rintro e w' ⟨rfl, rfl⟩))
    go_quiet (fail)
    go_wp2_with (at_make; refine wpList_make_full _ rfl _ _ 22 rfl w.heap.size 3 i0 (.int .i64 0) 1 Try.underlying22 hi0 hz0 hz1 _ _ _ _ zs.length rfl rfl rfl rfl ?_ ?_ ?_ ?_)
    · rw [hz2]; omega
    · unfold maxLen; omega
    · exact Nat.le_refl _
    intro w1 hown hg
    have Hb := Lib.hid ((Drawn.below ⟨nq, rfl⟩ _).grown hg (Nat.le_refl _) (fun k hk => by cases hk) : Below w.heap.size w w1)
    have Hrow := Lib.hid (show Row w1 w.heap.size w.heap.size zs.length (copyTo zs lo hi 0) by
      have e : (copyTo zs lo hi 0).map (Value.int .i64) = (madeCells #[Value.int .i64 0] zs.length).toList := by
        rw [toList_madeCells_one, copyTo_zero]; simp
      unfold Row
      rw [length_copyTo _ _ _ _ (by omega), e]
      exact hown)
    clear hown hg
    go_wp2
    go_loopw [12, 13, 52] (fun _ _ i wr => ∃ k : Nat, k ≤ zs.length ∧ i = .int .i64 k ∧ Row wr w.heap.size w.heap.size zs.length (copyTo zs lo hi k) ∧ Below w.heap.size w wr) (fun _ _ i _ => zs.length - (intOf i).toNat)
    case atStart => exact ⟨0, Nat.zero_le _, rfl, Hrow.out, Hb.out⟩
    case round =>
      obtain ⟨k, hk, rfl, hr, hbl⟩ := hrel
      have Hr := Lib.hid hr
      have Hb1 := Lib.hid hbl
      by_cases hlt : k < zs.length
      · obtain ⟨_, _, e0, hcz⟩ := Hz.out (by omega)
        cases e0
        have ck := (hbl.cell (p := ⟨b, off + k, none⟩) (World.block_lt_of_cell? w _ (hcz k hlt))).trans (hcz k hlt)
        have hsb := World.block_lt_of_cell? w _ (hcz k hlt)
        have cq := hr.cell (i := k) (by rw [length_copyTo _ _ _ _ hk]; exact hlt)
        have fz := hr.free k
        have Hsucc := Lib.hid (copyTo_succ zs lo hi k hlt)
        obtain ⟨z, hzk⟩ : ∃ z, zs.getD k 0 = z := ⟨_, rfl⟩
        rw [hzk] at ck Hsucc
        generalize (copyTo zs lo hi k).getD k 0 = old at cq
        clear hcz hzk hr hbl
        by_cases e : z = hi
        · rw [if_pos e] at Hsucc
          have t : (z == hi) = true := by simp [e]
          clear e
          go_wp2
          go_roundw
          case rel => exact ⟨k + 1, by omega, by go_num, by rw [← Hsucc.out]; exact Hr.out.set _ _, Hb1.out.setCell (Nat.le_refl _) _⟩
          case measure => simp [intOf]; omega
        · rw [if_neg e] at Hsucc
          have t : (z == hi) = false := by simp [e]
          clear e
          go_wp2
          go_roundw
          case rel => exact ⟨k + 1, by omega, by go_num, by rw [← Hsucc.out]; exact Hr.out.set _ _, Hb1.out.setCell (Nat.le_refl _) _⟩
          case measure => simp [intOf]; omega
      · have e : k = zs.length := by omega
        have Hend := Lib.hid (show Row wr w.heap.size w.heap.size zs.length (zs.map fun z => if z = hi then lo else z) by
          rw [← copyTo_end zs lo hi, ← e]; rw [← e] at hr; exact hr)
        clear hr hbl e
        go_wp2
        go_ret2
        exact ⟨_, rfl, by have := Hend.out.own; rw [List.length_map] at this; exact this, Hb1.out⟩
  · go_enter Try.func15, Try.ntmps15
    go_wp2_with (first | (go_at_call 10; refine (check_any _ _ zs _ hn Hz.out).mono ?_; rintro e w' ⟨rfl, rfl⟩) | (go_at_call 25; refine (isNumber_any _ _ _ _ _).mono ?_; rintro e w' ⟨rfl, rfl⟩))
    go_quiet (fail)
    go_wp2_with (at_make; refine wpList_make_full _ rfl _ _ 22 rfl w.heap.size 3 i0 (.int .i64 0) 1 Try.underlying22 hi0 hz0 hz1 _ _ _ _ zs.length rfl rfl rfl rfl ?_ ?_ ?_ ?_)
    · rw [hz2]; omega
    · unfold maxLen; omega
    · exact Nat.le_refl _
    intro w1 hown hg
    have Hb := Lib.hid ((Drawn.below ⟨nq, rfl⟩ _).grown hg (Nat.le_refl _) (fun k hk => by cases hk) : Below w.heap.size w w1)
    have Hrow := Lib.hid (show Row w1 w.heap.size w.heap.size zs.length (copyTo zs hi hi 0) by
      have e : (copyTo zs hi hi 0).map (Value.int .i64) = (madeCells #[Value.int .i64 0] zs.length).toList := by
        rw [toList_madeCells_one, copyTo_zero]; simp
      unfold Row
      rw [length_copyTo _ _ _ _ (by omega), e]
      exact hown)
    clear hown hg
    go_wp2
    go_loopw [12, 13, 52] (fun _ _ i wr => ∃ k : Nat, k ≤ zs.length ∧ i = .int .i64 k ∧ Row wr w.heap.size w.heap.size zs.length (copyTo zs hi hi k) ∧ Below w.heap.size w wr) (fun _ _ i _ => zs.length - (intOf i).toNat)
    case atStart => exact ⟨0, Nat.zero_le _, rfl, Hrow.out, Hb.out⟩
    case round =>
      obtain ⟨k, hk, rfl, hr, hbl⟩ := hrel
      have Hr := Lib.hid hr
      have Hb1 := Lib.hid hbl
      by_cases hlt : k < zs.length
      · obtain ⟨_, _, e0, hcz⟩ := Hz.out (by omega)
        cases e0
        have ck := (hbl.cell (p := ⟨b, off + k, none⟩) (World.block_lt_of_cell? w _ (hcz k hlt))).trans (hcz k hlt)
        have hsb := World.block_lt_of_cell? w _ (hcz k hlt)
        have cq := hr.cell (i := k) (by rw [length_copyTo _ _ _ _ hk]; exact hlt)
        have fz := hr.free k
        have Hsucc := Lib.hid (copyTo_succ zs hi hi k hlt)
        obtain ⟨z, hzk⟩ : ∃ z, zs.getD k 0 = z := ⟨_, rfl⟩
        rw [hzk] at ck Hsucc
        generalize (copyTo zs hi hi k).getD k 0 = old at cq
        clear hcz hzk hr hbl
        by_cases e : z = hi
        · rw [if_pos e] at Hsucc
          have t : (z == hi) = true := by simp [e]
          clear e
          go_wp2
          go_roundw
          case rel => exact ⟨k + 1, by omega, by go_num, by rw [← Hsucc.out]; exact Hr.out.set _ _, Hb1.out.setCell (Nat.le_refl _) _⟩
          case measure => simp [intOf]; omega
        · rw [if_neg e] at Hsucc
          have t : (z == hi) = false := by simp [e]
          clear e
          go_wp2
          go_roundw
          case rel => exact ⟨k + 1, by omega, by go_num, by rw [← Hsucc.out]; exact Hr.out.set _ _, Hb1.out.setCell (Nat.le_refl _) _⟩
          case measure => simp [intOf]; omega
      · have e : k = zs.length := by omega
        have Hend := Lib.hid (show Row wr w.heap.size w.heap.size zs.length (zs.map fun z => if z = hi then hi else z) by
          rw [← copyTo_end zs hi hi, ← e]; rw [← e] at hr; exact hr)
        clear hr hbl e
        go_wp2
        go_ret2
        exact ⟨_, rfl, by have := Hend.out.own; rw [List.length_map] at this; exact this, Hb1.out⟩

set_option maxHeartbeats 800000 in
theorem pJoin_any (a : Option Addr) (c : Nat) (zs : List Int) (x y : Int) (w : World) (hn : zs.length ≤ maxLen) (hz : Ints w a zs) :
    Calls Try.prog 15 #[.slice a zs.length c, .int .i64 x, .int .i64 y] w fun e w' => ∃ v, e = .returned (.tuple #[v, .int .i64 (joinS zs x y).2]) ∧
      Own w' w.heap.size v (joinS zs x y).1 ∧ Below w.heap.size w w' := by
  have Hz := Lib.hid hz
  obtain ⟨js, hjs⟩ : ∃ js, joinS zs x y = js := ⟨_, rfl⟩
  rw [hjs]
  have Hjs := Lib.hid hjs
  clear hjs
  by_cases hc : chk zs = 0
  · have t0 : (chk zs != 0) = false := by simp [hc]
    by_cases hx : isB zs.length x = true
    · by_cases hy : isB zs.length y = true
      · have e : js = (joinL zs x.toNat y.toNat, 0) := by rw [← Hjs.out]; simp only [joinS, hc, hx, hy, Bool.and_self, ne_eq, not_true_eq_false, if_false, if_true]
        subst e
        exact pjoin_core a c zs x y w _ _ (min (zs.getD x.toNat 0) (zs.getD y.toNat 0)) (max (zs.getD x.toNat 0) (zs.getD y.toNat 0)) hn hz hc hx hy rfl rfl (by omega)
      · simp only [Bool.not_eq_true] at hy
        have e : js = ([], 4) := by rw [← Hjs.out]; simp only [joinS, hc, hy, Bool.and_false, ne_eq, not_true_eq_false, if_false, Bool.false_eq_true]
        subst e
        clear hc hz
        go_enter Try.func15, Try.ntmps15
        go_wp2_with (first | (go_at_call 10; refine (check_any _ _ zs _ hn Hz.out).mono ?_; rintro e w' ⟨rfl, rfl⟩) | (go_at_call 25; refine (isNumber_any _ _ _ _ _).mono ?_; rintro e w' ⟨rfl, rfl⟩))
        go_ret2
        exact ⟨_, rfl, Own.nil _ _, Below.refl _ _⟩
    · simp only [Bool.not_eq_true] at hx
      have e : js = ([], 4) := by rw [← Hjs.out]; simp only [joinS, hc, hx, Bool.false_and, ne_eq, not_true_eq_false, if_false, Bool.false_eq_true]
      subst e
      clear hc hz
      go_enter Try.func15, Try.ntmps15
      go_wp2_with (first | (go_at_call 10; refine (check_any _ _ zs _ hn Hz.out).mono ?_; rintro e w' ⟨rfl, rfl⟩) | (go_at_call 25; refine (isNumber_any _ _ _ _ _).mono ?_; rintro e w' ⟨rfl, rfl⟩))
      go_ret2
      exact ⟨_, rfl, Own.nil _ _, Below.refl _ _⟩
  · have t0 : (chk zs != 0) = true := by simp [hc]
    have e : js = ([], chk zs) := by rw [← Hjs.out]; simp only [joinS, if_pos hc, ne_eq]
    subst e
    clear hc hz
    go_enter Try.func15, Try.ntmps15
    go_wp2_with (first | (go_at_call 10; refine (check_any _ _ zs _ hn Hz.out).mono ?_; rintro e w' ⟨rfl, rfl⟩) | (go_at_call 25; refine (isNumber_any _ _ _ _ _).mono ?_; rintro e w' ⟨rfl, rfl⟩))
    go_ret2
    exact ⟨_, rfl, Own.nil _ _, Below.refl _ _⟩
end Go.Proofs.Ytahfpkojkcnhiaa
