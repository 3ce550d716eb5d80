/-
  PartitionTells: the walk of the law. Every question and Join are answered as by definition.
-/
import Derived.Test.YtahfpkojkcnhiaaPJoin2
namespace Go.Proofs.Ytahfpkojkcnhiaa
open Go.RowKit
set_option linter.unusedVariables false

theorem length_joinS (zs : List Int) (x y : Int) : (joinS zs x y).1.length ≤ zs.length := by
  unfold joinS
  split
  · simp
  · split
    · simp [length_joinL]
    · simp

set_option maxHeartbeats 1600000 in
theorem tells_any (a : Option Addr) (c : Nat) (zs : List Int) (x y : Int) (w : World) (hn : zs.length ≤ maxLen) (hz : Ints w a zs) (hx : (Lit.int .i64 x).wf = true) (hy : (Lit.int .i64 y).wf = true) :
    Calls Try.prog 3 #[.slice a zs.length c, .int .i64 x, .int .i64 y] w fun e w' => e = .returned (.bool true) ∧ Below w.heap.size w w' := by
  have hn' := hn
  unfold maxLen at hn'
  clear hx hy
  have Hz := Lib.hid hz
  have Hjl := Lib.hid (Nat.le_trans (length_joinS zs x y) hn)
  by_cases hbig : 8200 < zs.length
  · have hc : chk zs = 3 := by unfold chk; rw [if_pos (by omega)]
    clear hz
    go_enter Try.func3, Try.ntmps3
    go_wp2_with (first | (go_at_call 10; refine (check_any _ _ zs _ hn Hz.out).mono ?_; rintro e w' ⟨rfl, rfl⟩) | (go_at_call 11; refine (awake_any _).mono ?_; rintro e w' ⟨rfl, hb⟩))
    go_ret
    exact ⟨rfl, hb⟩
  · by_cases hc : chk zs = 0
    · have t0 : (chk zs != 0) = false := by simp [hc]
      by_cases hx : isB zs.length x = true
      · obtain ⟨hx1, hx2⟩ := isB_iff.1 hx
        have hf1 : (findS zs x).2 = 0 := by simp only [findS, hc, hx, ne_eq, not_true_eq_false, if_false, if_true]
        have hf2 : (findS zs x).1 = zs.getD x.toNat 0 := by simp only [findS, hc, hx, ne_eq, not_true_eq_false, if_false, if_true]
        obtain ⟨p, hp⟩ : ∃ p, zs.getD x.toNat 0 = p := ⟨_, rfl⟩
        rw [hp] at hf2
        obtain ⟨b, off, rfl, hcell⟩ := hz.at_ hx
        have ck := hcell x hx
        rw [hp] at ck
        have hbw := World.block_lt_of_cell? w _ ck
        clear hc hp hcell hz hx
        go_enter Try.func3, Try.ntmps3
        go_wp2_with fail
        refine (check_any _ c zs w hn Hz.out).mono ?_
        rintro e w1 ⟨rfl, rfl⟩
        go_wp2_with fail
        refine (rcheck_any _ c zs w hn Hz.out).mono ?_
        rintro e w1 ⟨rfl, n1, rfl⟩
        go_wp2_with fail
        refine (same_any _ c zs x y _ hn (Hz.out.drewN _)).mono ?_
        rintro e w1 ⟨rfl, n2, rfl⟩
        go_wp2_with fail
        refine (rsame_any _ c zs x y _ hn (Hz.out.drewN _)).mono ?_
        rintro e w1 ⟨rfl, n3, rfl⟩
        go_wp2_with fail
        refine (pJoin_any _ c zs x y _ hn (Hz.out.drewN _)).mono ?_
        rintro e w1 ⟨v1, rfl, ho1, hb1⟩
        obtain ⟨a1, c1, rfl, hi1⟩ := ho1.shape
        have Hi1 := Lib.hid hi1
        have Hb1 := Lib.hid ((Drawn.below ⟨_, rfl⟩ _).trans hb1 : Below w.heap.size w w1)
        have Hz1 := Lib.hid (Hz.out.below Hb1.out (Nat.le_refl _))
        clear ho1 hi1 hb1
        go_wp2_with fail
        refine (rJoin_any _ c zs x y w1 hn Hz1.out).mono ?_
        rintro e w2 ⟨v2, rfl, ho2, hb2⟩
        obtain ⟨a2, c2, rfl, hi2⟩ := ho2.shape
        have Hi2 := Lib.hid hi2
        have Hi1b := Lib.hid (Hi1.out.below hb2 (Nat.le_refl _))
        have Hb2 := Lib.hid (Hb1.out.trans (hb2.mono Hb1.out.size))
        have Hz2 := Lib.hid (Hz1.out.below hb2 (Nat.le_refl _))
        clear ho2 hi2 hb2
        have ck2 := (Hb2.out.cell (p := ⟨b, off + x.toNat, none⟩) hbw).trans ck
        clear ck
        go_wp2_with fail
        refine (requal_any a1 c1 _ a2 c2 _ w2 Hjl.out Hi1b.out Hjl.out Hi2.out).mono ?_
        rintro e w3 ⟨rfl, n4, rfl⟩
        go_wp2_with fail
        refine (find_any _ c zs x _ hn (Hz2.out.drewN _)).mono ?_
        rintro e w3 ⟨rfl, rfl⟩
        go_wp2_with fail
        refine (rcheck_any _ c zs _ hn (Hz2.out.drewN _)).mono ?_
        rintro e w3 ⟨rfl, n5, rfl⟩
        go_wp2_with fail
        refine (awake_any _).mono ?_
        rintro e w4 ⟨rfl, hb4⟩
        go_wp2_with fail
        go_ret
        exact ⟨rfl, Hb2.out.trans ((Drawn.below ⟨_, rfl⟩ _).trans (hb4.mono Hb2.out.size))⟩
      · simp only [Bool.not_eq_true] at hx
        have hf1 : (findS zs x).2 = 4 := by simp only [findS, hc, hx, ne_eq, not_true_eq_false, if_false, Bool.false_eq_true]
        have hf2 : (findS zs x).1 = 0 := by simp only [findS, hc, hx, ne_eq, not_true_eq_false, if_false, Bool.false_eq_true]
        have hx' := isB_not.1 hx
        clear hc hz hx
        rcases (show (x < 0) ∨ (0 ≤ x ∧ (zs.length : Int) ≤ x) from by omega) with hx1 | ⟨hx0, hx1⟩
        all_goals
          clear hx'
          go_enter Try.func3, Try.ntmps3
          go_wp2_with fail
          refine (check_any a c zs w hn Hz.out).mono ?_
          rintro e w1 ⟨rfl, rfl⟩
          go_wp2_with fail
          refine (rcheck_any a c zs w hn Hz.out).mono ?_
          rintro e w1 ⟨rfl, n1, rfl⟩
          go_wp2_with fail
          refine (same_any a c zs x y _ hn (Hz.out.drewN _)).mono ?_
          rintro e w1 ⟨rfl, n2, rfl⟩
          go_wp2_with fail
          refine (rsame_any a c zs x y _ hn (Hz.out.drewN _)).mono ?_
          rintro e w1 ⟨rfl, n3, rfl⟩
          go_wp2_with fail
          refine (pJoin_any a c zs x y _ hn (Hz.out.drewN _)).mono ?_
          rintro e w1 ⟨v1, rfl, ho1, hb1⟩
          obtain ⟨a1, c1, rfl, hi1⟩ := ho1.shape
          have Hi1 := Lib.hid hi1
          have Hb1 := Lib.hid ((Drawn.below ⟨_, rfl⟩ _).trans hb1 : Below w.heap.size w w1)
          have Hz1 := Lib.hid (Hz.out.below Hb1.out (Nat.le_refl _))
          clear ho1 hi1 hb1
          go_wp2_with fail
          refine (rJoin_any a c zs x y w1 hn Hz1.out).mono ?_
          rintro e w2 ⟨v2, rfl, ho2, hb2⟩
          obtain ⟨a2, c2, rfl, hi2⟩ := ho2.shape
          have Hi2 := Lib.hid hi2
          have Hi1b := Lib.hid (Hi1.out.below hb2 (Nat.le_refl _))
          have Hb2 := Lib.hid (Hb1.out.trans (hb2.mono Hb1.out.size))
          have Hz2 := Lib.hid (Hz1.out.below hb2 (Nat.le_refl _))
          clear ho2 hi2 hb2
          go_wp2_with fail
          refine (requal_any a1 c1 _ a2 c2 _ w2 Hjl.out Hi1b.out Hjl.out Hi2.out).mono ?_
          rintro e w3 ⟨rfl, n4, rfl⟩
          go_wp2_with fail
          refine (find_any a c zs x _ hn (Hz2.out.drewN _)).mono ?_
          rintro e w3 ⟨rfl, rfl⟩
          go_wp2_with fail
          refine (rcheck_any a c zs _ hn (Hz2.out.drewN _)).mono ?_
          rintro e w3 ⟨rfl, n5, rfl⟩
          go_wp2_with fail
          refine (awake_any _).mono ?_
          rintro e w4 ⟨rfl, hb4⟩
          go_wp2_with fail
          go_ret
          exact ⟨rfl, Hb2.out.trans ((Drawn.below ⟨_, rfl⟩ _).trans (hb4.mono Hb2.out.size))⟩
    · have t0 : (chk zs != 0) = true := by simp [hc]
      have hf1 : (findS zs x).2 = chk zs := by simp only [findS, if_pos hc, ne_eq]
      have hf2 : (findS zs x).1 = 0 := by simp only [findS, if_pos hc, ne_eq]
      clear hc hz
      go_enter Try.func3, Try.ntmps3
      go_wp2_with fail
      refine (check_any a c zs w hn Hz.out).mono ?_
      rintro e w1 ⟨rfl, rfl⟩
      go_wp2_with fail
      refine (rcheck_any a c zs w hn Hz.out).mono ?_
      rintro e w1 ⟨rfl, n1, rfl⟩
      go_wp2_with fail
      refine (same_any a c zs x y _ hn (Hz.out.drewN _)).mono ?_
      rintro e w1 ⟨rfl, n2, rfl⟩
      go_wp2_with fail
      refine (rsame_any a c zs x y _ hn (Hz.out.drewN _)).mono ?_
      rintro e w1 ⟨rfl, n3, rfl⟩
      go_wp2_with fail
      refine (pJoin_any a c zs x y _ hn (Hz.out.drewN _)).mono ?_
      rintro e w1 ⟨v1, rfl, ho1, hb1⟩
      obtain ⟨a1, c1, rfl, hi1⟩ := ho1.shape
      have Hi1 := Lib.hid hi1
      have Hb1 := Lib.hid ((Drawn.below ⟨_, rfl⟩ _).trans hb1 : Below w.heap.size w w1)
      have Hz1 := Lib.hid (Hz.out.below Hb1.out (Nat.le_refl _))
      clear ho1 hi1 hb1
      go_wp2_with fail
      refine (rJoin_any a c zs x y w1 hn Hz1.out).mono ?_
      rintro e w2 ⟨v2, rfl, ho2, hb2⟩
      obtain ⟨a2, c2, rfl, hi2⟩ := ho2.shape
      have Hi2 := Lib.hid hi2
      have Hi1b := Lib.hid (Hi1.out.below hb2 (Nat.le_refl _))
      have Hb2 := Lib.hid (Hb1.out.trans (hb2.mono Hb1.out.size))
      have Hz2 := Lib.hid (Hz1.out.below hb2 (Nat.le_refl _))
      clear ho2 hi2 hb2
      go_wp2_with fail
      refine (requal_any a1 c1 _ a2 c2 _ w2 Hjl.out Hi1b.out Hjl.out Hi2.out).mono ?_
      rintro e w3 ⟨rfl, n4, rfl⟩
      go_wp2_with fail
      refine (find_any a c zs x _ hn (Hz2.out.drewN _)).mono ?_
      rintro e w3 ⟨rfl, rfl⟩
      go_wp2_with fail
      refine (rcheck_any a c zs _ hn (Hz2.out.drewN _)).mono ?_
      rintro e w3 ⟨rfl, n5, rfl⟩
      go_wp2_with fail
      refine (rcheck_any a c zs _ hn (Hz2.out.drewN _)).mono ?_
      rintro e w3 ⟨rfl, n6, rfl⟩
      go_wp2_with fail
      refine (awake_any _).mono ?_
      rintro e w4 ⟨rfl, hb4⟩
      go_wp2_with fail
      go_ret
      exact ⟨rfl, Hb2.out.trans ((Drawn.below ⟨_, rfl⟩ _).trans (hb4.mono Hb2.out.size))⟩
end Go.Proofs.Ytahfpkojkcnhiaa
