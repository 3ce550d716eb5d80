/-
  The bytes that the definition asks. (Written by gen_byte.py.)
-/
import Derived.Test.YtmnfonhfbolnkaaDoorLOne
namespace Go.Proofs.YtmnfonhfbolnkaaDoor
open Go.RowKit
set_option linter.unusedVariables false
set_option linter.unusedSimpArgs false

set_option maxHeartbeats 1000000 in
theorem rdigit_any (r : Int) (w : World) : Calls Tryd.prog 41 #[.int .u8 r] w fun e w' => e = .returned (.bool (isDigR r)) ∧ w' = w := by
  by_cases ha : 48 ≤ r
  · have ha' : decide (48 ≤ r) = true := decide_eq_true ha
    by_cases hb : r ≤ 57
    · have hb' : decide (r ≤ 57) = true := decide_eq_true hb
      have hr : Hid (true = isDigR r) := by show _ = _; unfold isDigR; simp [ha, hb]
      go_enter Tryd.func41, Tryd.ntmps41
      go_wp2
      go_ret
      exact ⟨ret_bool hr.out, rfl⟩
    · have hb' : decide (r ≤ 57) = false := decide_eq_false hb
      have hr : Hid (false = isDigR r) := by show _ = _; unfold isDigR; simp [ha, hb]
      go_enter Tryd.func41, Tryd.ntmps41
      go_wp2
      go_ret
      exact ⟨ret_bool hr.out, rfl⟩
  · have ha' : decide (48 ≤ r) = false := decide_eq_false ha
    have hr : Hid (false = isDigR r) := by show _ = _; unfold isDigR; simp [ha]
    go_enter Tryd.func41, Tryd.ntmps41
    go_wp2
    go_ret
    exact ⟨ret_bool hr.out, rfl⟩
set_option maxHeartbeats 1000000 in
theorem rletter_any (r : Int) (w : World) : Calls Tryd.prog 29 #[.int .u8 r] w fun e w' => e = .returned (.bool (isLetR r)) ∧ w' = w := by
  by_cases ha : 97 ≤ r
  · have ha' : decide (97 ≤ r) = true := decide_eq_true ha
    by_cases hb : r ≤ 122
    · have hb' : decide (r ≤ 122) = true := decide_eq_true hb
      have hr : Hid (true = isLetR r) := by show _ = _; unfold isLetR; simp [ha, hb]
      go_enter Tryd.func29, Tryd.ntmps29
      go_wp2
      go_ret
      exact ⟨ret_bool hr.out, rfl⟩
    · have hb' : decide (r ≤ 122) = false := decide_eq_false hb
      by_cases ka : 65 ≤ r
      · have ka' : decide (65 ≤ r) = true := decide_eq_true ka
        by_cases kb : r ≤ 90
        · have kb' : decide (r ≤ 90) = true := decide_eq_true kb
          have hr : Hid (true = isLetR r) := by show _ = _; unfold isLetR; simp [ha, hb, ka, kb]
          go_enter Tryd.func29, Tryd.ntmps29
          go_wp2
          go_ret
          exact ⟨ret_bool hr.out, rfl⟩
        · have kb' : decide (r ≤ 90) = false := decide_eq_false kb
          have hr : Hid (false = isLetR r) := by show _ = _; unfold isLetR; simp [ha, hb, ka, kb]
          go_enter Tryd.func29, Tryd.ntmps29
          go_wp2
          go_ret
          exact ⟨ret_bool hr.out, rfl⟩
      · have ka' : decide (65 ≤ r) = false := decide_eq_false ka
        have hr : Hid (false = isLetR r) := by show _ = _; unfold isLetR; simp [ha, hb, ka]
        go_enter Tryd.func29, Tryd.ntmps29
        go_wp2
        go_ret
        exact ⟨ret_bool hr.out, rfl⟩
  · have ha' : decide (97 ≤ r) = false := decide_eq_false ha
    by_cases ka : 65 ≤ r
    · have ka' : decide (65 ≤ r) = true := decide_eq_true ka
      by_cases kb : r ≤ 90
      · have kb' : decide (r ≤ 90) = true := decide_eq_true kb
        have hr : Hid (true = isLetR r) := by show _ = _; unfold isLetR; simp [ha, ka, kb]
        go_enter Tryd.func29, Tryd.ntmps29
        go_wp2
        go_ret
        exact ⟨ret_bool hr.out, rfl⟩
      · have kb' : decide (r ≤ 90) = false := decide_eq_false kb
        have hr : Hid (false = isLetR r) := by show _ = _; unfold isLetR; simp [ha, ka, kb]
        go_enter Tryd.func29, Tryd.ntmps29
        go_wp2
        go_ret
        exact ⟨ret_bool hr.out, rfl⟩
    · have ka' : decide (65 ≤ r) = false := decide_eq_false ka
      have hr : Hid (false = isLetR r) := by show _ = _; unfold isLetR; simp [ha, ka]
      go_enter Tryd.func29, Tryd.ntmps29
      go_wp2
      go_ret
      exact ⟨ret_bool hr.out, rfl⟩

theorem rletter_at (r : Int) (b : Bool) (hb : isLetR r = b) (w : World) : Calls Tryd.prog 29 #[.int .u8 r] w fun e w' => e = .returned (.bool b) ∧ w' = w := by subst hb; exact rletter_any r w
theorem rdigit_at (r : Int) (b : Bool) (hb : isDigR r = b) (w : World) : Calls Tryd.prog 41 #[.int .u8 r] w fun e w' => e = .returned (.bool b) ∧ w' = w := by subst hb; exact rdigit_any r w
set_option maxHeartbeats 1000000 in
theorem rpart_any (r : Int) (w : World) : Calls Tryd.prog 30 #[.int .u8 r] w fun e w' => e = .returned (.bool (isWordR r)) ∧ w' = w := by
  cases h1 : isLetR r with
  | true =>
    have hr : Hid (true = isWordR r) := by show _ = _; unfold isWordR; rw [h1]; rfl
    have H1 := Lib.hid h1
    clear h1
    go_enter Tryd.func30, Tryd.ntmps30
    go_wp2_with (go_at_call 29; refine (rletter_at r true H1.out _).mono ?_; rintro e w' ⟨rfl, rfl⟩)
    go_ret
    exact ⟨ret_bool hr.out, rfl⟩
  | false =>
    cases h2 : isDigR r with
    | true =>
      have hr : Hid (true = isWordR r) := by show _ = _; unfold isWordR; rw [h1, h2]; rfl
      have H1 := Lib.hid h1
      have H2 := Lib.hid h2
      clear h1 h2
      go_enter Tryd.func30, Tryd.ntmps30
      go_wp2_with (first
        | (go_at_call 29; refine (rletter_at r false H1.out _).mono ?_; rintro e w' ⟨rfl, rfl⟩)
        | (go_at_call 41; refine (rdigit_at r true H2.out _).mono ?_; rintro e w' ⟨rfl, rfl⟩))
      go_ret
      exact ⟨ret_bool hr.out, rfl⟩
    | false =>
      by_cases h3 : r = 95
      · have h3' : (r == 95) = true := by simp [h3]
        have hr : Hid (true = isWordR r) := by show _ = _; unfold isWordR; rw [h1, h2, h3']; rfl
        have hr0 := hr
        have H1 := Lib.hid h1
        have H2 := Lib.hid h2
        clear h1 h2 h3 hr0
        go_enter Tryd.func30, Tryd.ntmps30
        go_wp2_with (first
          | (go_at_call 29; refine (rletter_at r false H1.out _).mono ?_; rintro e w' ⟨rfl, rfl⟩)
          | (go_at_call 41; refine (rdigit_at r false H2.out _).mono ?_; rintro e w' ⟨rfl, rfl⟩))
        go_ret
        exact ⟨ret_bool hr.out, rfl⟩
      · have h3' : (r == 95) = false := by simp [h3]
        have hr : Hid (false = isWordR r) := by show _ = _; unfold isWordR; rw [h1, h2, h3']; rfl
        have hr0 := hr
        have H1 := Lib.hid h1
        have H2 := Lib.hid h2
        clear h1 h2 h3 hr0
        go_enter Tryd.func30, Tryd.ntmps30
        go_wp2_with (first
          | (go_at_call 29; refine (rletter_at r false H1.out _).mono ?_; rintro e w' ⟨rfl, rfl⟩)
          | (go_at_call 41; refine (rdigit_at r false H2.out _).mono ?_; rintro e w' ⟨rfl, rfl⟩))
        go_ret
        exact ⟨ret_bool hr.out, rfl⟩
end Go.Proofs.YtmnfonhfbolnkaaDoor
