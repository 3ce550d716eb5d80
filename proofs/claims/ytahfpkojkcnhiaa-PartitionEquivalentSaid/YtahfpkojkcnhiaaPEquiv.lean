/-
  PartitionEquivalent: the walk of the law. Same is an equivalence on the numbers of a valid partition.
-/
import Derived.Test.YtahfpkojkcnhiaaPAwake
namespace Go.Proofs.Ytahfpkojkcnhiaa
open Go.RowKit
set_option linter.unusedVariables false

theorem sameB_comm (zs : List Int) (x y : Int) : sameB zs x y = sameB zs y x := by
  unfold sameB
  by_cases hx : isB zs.length x = true <;> by_cases hy : isB zs.length y = true <;> simp [hx, hy, eq_comm]
theorem sameB_trans (zs : List Int) (x y z : Int) (h1 : sameB zs x y = true) (h2 : sameB zs y z = true) : sameB zs x z = true := by
  simp only [sameB, Bool.and_eq_true, decide_eq_true_eq] at *
  exact ⟨h1.1, h1.2.1, h2.2.2.1, h1.2.2.2.trans h2.2.2.2⟩
theorem sameB_refl (zs : List Int) (x : Int) : sameB zs x x = (decide (chk zs = 0) && isB zs.length x) := by
  unfold sameB
  by_cases hx : isB zs.length x = true <;> simp [hx]

set_option maxHeartbeats 800000 in
theorem equiv_any (a : Option Addr) (c : Nat) (zs : List Int) (b : Option Addr) (d : Nat) (ms : List Int) (w : World) (hn : zs.length ≤ maxLen) (hz : Ints w a zs) (hm : ms.length ≤ maxLen) (hms : Ints w b ms) :
    Calls Try.prog 9 #[.slice a zs.length c, .slice b ms.length d] w fun e w' => e = .returned (.bool true) ∧ Below w.heap.size w w' := by
  have hn' := hn
  unfold maxLen at hn' hm
  by_cases h1 : 8200 < zs.length
  · go_enter Try.func9, Try.ntmps9
    go_wp2_with (go_at_call 11; refine (awake_any _).mono ?_; rintro e w' ⟨rfl, hb⟩)
    go_ret
    exact ⟨rfl, hb⟩
  · by_cases h2 : ms.length = 3
    · obtain ⟨x, y, z, rfl⟩ : ∃ x y z, ms = [x, y, z] := by
        match ms, h2 with
        | [x, y, z], _ => exact ⟨x, y, z, rfl⟩
      obtain ⟨bm, om, rfl, hc⟩ := hms (by simp)
      have c0 := hc 0 (by simp)
      have c1 := hc 1 (by simp)
      have c2 := hc 2 (by simp)
      simp only [List.getD_cons_zero, List.getD_cons_succ, Nat.add_zero] at c0 c1 c2
      clear hc hms h2
      have hcom := sameB_comm zs x y
      obtain ⟨s1, hs1⟩ : ∃ s, sameB zs x y = s := ⟨_, rfl⟩
      obtain ⟨s2, hs2⟩ : ∃ s, sameB zs y z = s := ⟨_, rfl⟩
      obtain ⟨s3, hs3⟩ : ∃ s, sameB zs x z = s := ⟨_, rfl⟩
      have hs4 := hcom.symm.trans hs1
      have htr : s1 = true → s2 = true → s3 = true := fun e1 e2 => by rw [← hs3]; exact sameB_trans zs x y z (hs1.trans e1) (hs2.trans e2)
      have Hrefl := Lib.hid (sameB_refl zs x)
      clear hcom
      have Hz := Lib.hid hz
      clear hz
      by_cases hok : chk zs = 0
      · by_cases hx : isB zs.length x = true
        · have hself : sameB zs x x = true := by rw [Hrefl.out, hok, hx]; rfl
          obtain ⟨hx1, hx2⟩ := isB_iff.1 hx
          clear hx
          cases s1 <;> cases s2 <;> cases s3
          all_goals first
            | (exfalso; simp at htr; done)
            | (clear htr
               go_enter Try.func9, Try.ntmps9
               go_wp2
               go_quiet (fail)
               go_wp2_with (first
                 | (go_at_call 13; refine (same_at _ _ _ zs rfl _ _ _ hn (Hz.out.drewN _)).mono ?_; rintro e w' ⟨rfl, n1, rfl⟩)
                 | (go_at_call 12; refine (rcheck_any _ _ zs _ hn (Hz.out.drewN _)).mono ?_; rintro e w' ⟨rfl, n1, rfl⟩)
                 | (go_at_call 11; refine (awake_any _).mono ?_; rintro e w' ⟨rfl, hb⟩))
               go_ret
               exact ⟨rfl, (Drawn.below ⟨_, rfl⟩ _).trans hb⟩)
        · simp only [Bool.not_eq_true] at hx
          have hself : sameB zs x x = false := by rw [Hrefl.out, hx, Bool.and_false]
          have e1 : s1 = false := by rw [← hs1]; simp only [sameB, hx, Bool.false_and, Bool.and_false]
          have e3 : s3 = false := by rw [← hs3]; simp only [sameB, hx, Bool.false_and, Bool.and_false]
          subst e1
          subst e3
          clear htr
          have hx' := isB_not.1 hx
          clear hx
          rcases (show (x < 0) ∨ (0 ≤ x ∧ (zs.length : Int) ≤ x) from by omega) with hx1 | ⟨hx0, hx1⟩
          all_goals
            clear hx'
            try (have hd : decide (x < (zs.length : Int)) = false := decide_eq_false (by omega))
            cases s2
            all_goals
              go_enter Try.func9, Try.ntmps9
              go_wp2
              go_quiet (fail)
              go_wp2_with (first
                | (go_at_call 13; refine (same_at _ _ _ zs rfl _ _ _ hn (Hz.out.drewN _)).mono ?_; rintro e w' ⟨rfl, n1, rfl⟩)
                | (go_at_call 12; refine (rcheck_any _ _ zs _ hn (Hz.out.drewN _)).mono ?_; rintro e w' ⟨rfl, n1, rfl⟩)
                | (go_at_call 11; refine (awake_any _).mono ?_; rintro e w' ⟨rfl, hb⟩))
              go_ret
              exact ⟨rfl, (Drawn.below ⟨_, rfl⟩ _).trans hb⟩
      · have hself : sameB zs x x = false := by rw [Hrefl.out, decide_eq_false hok, Bool.false_and]
        have e1 : s1 = false := by rw [← hs1]; simp only [sameB, decide_eq_false hok, Bool.false_and]
        have e2 : s2 = false := by rw [← hs2]; simp only [sameB, decide_eq_false hok, Bool.false_and]
        have e3 : s3 = false := by rw [← hs3]; simp only [sameB, decide_eq_false hok, Bool.false_and]
        subst e1
        subst e2
        subst e3
        clear htr
        have hc0 : (chk zs == 0) = false := by simpa using hok
        go_enter Try.func9, Try.ntmps9
        go_wp2
        go_quiet (fail)
        go_wp2_with (first
          | (go_at_call 13; refine (same_at _ _ _ zs rfl _ _ _ hn (Hz.out.drewN _)).mono ?_; rintro e w' ⟨rfl, n1, rfl⟩)
          | (go_at_call 12; refine (rcheck_any _ _ zs _ hn (Hz.out.drewN _)).mono ?_; rintro e w' ⟨rfl, n1, rfl⟩)
          | (go_at_call 11; refine (awake_any _).mono ?_; rintro e w' ⟨rfl, hb⟩))
        go_ret
        exact ⟨rfl, (Drawn.below ⟨_, rfl⟩ _).trans hb⟩
    · have hb3 : ((ms.length : Int) != 3) = true := by rw [bne_iff_ne]; omega
      go_enter Try.func9, Try.ntmps9
      go_wp2_with (go_at_call 11; refine (awake_any _).mono ?_; rintro e w' ⟨rfl, hb⟩)
      go_ret
      exact ⟨rfl, hb⟩
end Go.Proofs.Ytahfpkojkcnhiaa
