/-
  The sets of runes that lex asks. (Written by gen_rune.py.)
-/
import Derived.Test.YtmnfonhfbolnkaaDoorRows
import Derived.WalkKit
import Derived.WalkSpells
import Derived.WalkLawsBesides
import Derived.Lib.Hide
import Derived.Laws.RangeAny
namespace Go.Proofs.YtmnfonhfbolnkaaDoor
open Go.RowKit
set_option linter.unusedVariables false
set_option linter.unusedSimpArgs false

theorem ret_bool {a b : Bool} (h : a = b) : Ending.returned (.bool a) = .returned (.bool b) := by rw [h]
def isLetR (r : Int) : Bool := (decide (97 ≤ r) && decide (r ≤ 122)) || (decide (65 ≤ r) && decide (r ≤ 90))
def isDigR (r : Int) : Bool := decide (48 ≤ r) && decide (r ≤ 57)
def isWordR (r : Int) : Bool := isLetR r || isDigR r || r == 95
def isSpcR (r : Int) : Bool := r == 32 || r == 9 || r == 13 || r == 10
def isLineR (r : Int) : Bool := r != 10
set_option maxHeartbeats 1000000 in
theorem isDigit_any (r : Int) (w : World) : Calls Tryd.prog 36 #[.int .i32 r] w fun e w' => e = .returned (.bool (isDigR r)) ∧ w' = w := by
  by_cases ha : 48 ≤ r
  · have ha' : decide (48 ≤ r) = true := decide_eq_true ha
    by_cases hb : r ≤ 57
    · have hb' : decide (r ≤ 57) = true := decide_eq_true hb
      have hr : Hid (true = isDigR r) := by show _ = _; unfold isDigR; simp [ha, hb]
      go_enter Tryd.func36, Tryd.ntmps36
      go_wp2
      go_ret
      exact ⟨ret_bool hr.out, rfl⟩
    · have hb' : decide (r ≤ 57) = false := decide_eq_false hb
      have hr : Hid (false = isDigR r) := by show _ = _; unfold isDigR; simp [ha, hb]
      go_enter Tryd.func36, Tryd.ntmps36
      go_wp2
      go_ret
      exact ⟨ret_bool hr.out, rfl⟩
  · have ha' : decide (48 ≤ r) = false := decide_eq_false ha
    have hr : Hid (false = isDigR r) := by show _ = _; unfold isDigR; simp [ha]
    go_enter Tryd.func36, Tryd.ntmps36
    go_wp2
    go_ret
    exact ⟨ret_bool hr.out, rfl⟩
set_option maxHeartbeats 1000000 in
theorem isLetter_any (r : Int) (w : World) : Calls Tryd.prog 50 #[.int .i32 r] w fun e w' => e = .returned (.bool (isLetR r)) ∧ w' = w := by
  by_cases ha : 97 ≤ r
  · have ha' : decide (97 ≤ r) = true := decide_eq_true ha
    by_cases hb : r ≤ 122
    · have hb' : decide (r ≤ 122) = true := decide_eq_true hb
      have hr : Hid (true = isLetR r) := by show _ = _; unfold isLetR; simp [ha, hb]
      go_enter Tryd.func50, Tryd.ntmps50
      go_wp2
      go_ret
      exact ⟨ret_bool hr.out, rfl⟩
    · have hb' : decide (r ≤ 122) = false := decide_eq_false hb
      by_cases ka : 65 ≤ r
      · have ka' : decide (65 ≤ r) = true := decide_eq_true ka
        by_cases kb : r ≤ 90
        · have kb' : decide (r ≤ 90) = true := decide_eq_true kb
          have hr : Hid (true = isLetR r) := by show _ = _; unfold isLetR; simp [ha, hb, ka, kb]
          go_enter Tryd.func50, Tryd.ntmps50
          go_wp2
          go_ret
          exact ⟨ret_bool hr.out, rfl⟩
        · have kb' : decide (r ≤ 90) = false := decide_eq_false kb
          have hr : Hid (false = isLetR r) := by show _ = _; unfold isLetR; simp [ha, hb, ka, kb]
          go_enter Tryd.func50, Tryd.ntmps50
          go_wp2
          go_ret
          exact ⟨ret_bool hr.out, rfl⟩
      · have ka' : decide (65 ≤ r) = false := decide_eq_false ka
        have hr : Hid (false = isLetR r) := by show _ = _; unfold isLetR; simp [ha, hb, ka]
        go_enter Tryd.func50, Tryd.ntmps50
        go_wp2
        go_ret
        exact ⟨ret_bool hr.out, rfl⟩
  · have ha' : decide (97 ≤ r) = false := decide_eq_false ha
    by_cases ka : 65 ≤ r
    · have ka' : decide (65 ≤ r) = true := decide_eq_true ka
      by_cases kb : r ≤ 90
      · have kb' : decide (r ≤ 90) = true := decide_eq_true kb
        have hr : Hid (true = isLetR r) := by show _ = _; unfold isLetR; simp [ha, ka, kb]
        go_enter Tryd.func50, Tryd.ntmps50
        go_wp2
        go_ret
        exact ⟨ret_bool hr.out, rfl⟩
      · have kb' : decide (r ≤ 90) = false := decide_eq_false kb
        have hr : Hid (false = isLetR r) := by show _ = _; unfold isLetR; simp [ha, ka, kb]
        go_enter Tryd.func50, Tryd.ntmps50
        go_wp2
        go_ret
        exact ⟨ret_bool hr.out, rfl⟩
    · have ka' : decide (65 ≤ r) = false := decide_eq_false ka
      have hr : Hid (false = isLetR r) := by show _ = _; unfold isLetR; simp [ha, ka]
      go_enter Tryd.func50, Tryd.ntmps50
      go_wp2
      go_ret
      exact ⟨ret_bool hr.out, rfl⟩
set_option maxHeartbeats 1000000 in
theorem isSpace_any (r : Int) (w : World) : Calls Tryd.prog 21 #[.int .i32 r] w fun e w' => e = .returned (.bool (isSpcR r)) ∧ w' = w := by
  by_cases e32 : r = 32
  · have e32' : decide (r = 32) = true := decide_eq_true e32
    have e32'' : (r == 32) = true := by simp [e32]
    have hr : Hid (true = isSpcR r) := by show _ = _; unfold isSpcR; simp [e32]
    go_enter Tryd.func21, Tryd.ntmps21
    go_wp2
    go_ret
    exact ⟨ret_bool hr.out, rfl⟩
  · have e32' : decide (r = 32) = false := decide_eq_false e32
    have e32'' : (r == 32) = false := by simp [e32]
    by_cases e9 : r = 9
    · have e9' : decide (r = 9) = true := decide_eq_true e9
      have e9'' : (r == 9) = true := by simp [e9]
      have hr : Hid (true = isSpcR r) := by show _ = _; unfold isSpcR; simp [e32, e9]
      go_enter Tryd.func21, Tryd.ntmps21
      go_wp2
      go_ret
      exact ⟨ret_bool hr.out, rfl⟩
    · have e9' : decide (r = 9) = false := decide_eq_false e9
      have e9'' : (r == 9) = false := by simp [e9]
      by_cases e13 : r = 13
      · have e13' : decide (r = 13) = true := decide_eq_true e13
        have e13'' : (r == 13) = true := by simp [e13]
        have hr : Hid (true = isSpcR r) := by show _ = _; unfold isSpcR; simp [e32, e9, e13]
        go_enter Tryd.func21, Tryd.ntmps21
        go_wp2
        go_ret
        exact ⟨ret_bool hr.out, rfl⟩
      · have e13' : decide (r = 13) = false := decide_eq_false e13
        have e13'' : (r == 13) = false := by simp [e13]
        by_cases e10 : r = 10
        · have e10' : decide (r = 10) = true := decide_eq_true e10
          have e10'' : (r == 10) = true := by simp [e10]
          have hr : Hid (true = isSpcR r) := by show _ = _; unfold isSpcR; simp [e32, e9, e13, e10]
          go_enter Tryd.func21, Tryd.ntmps21
          go_wp2
          go_ret
          exact ⟨ret_bool hr.out, rfl⟩
        · have e10' : decide (r = 10) = false := decide_eq_false e10
          have e10'' : (r == 10) = false := by simp [e10]
          have hr : Hid (false = isSpcR r) := by show _ = _; unfold isSpcR; simp [e32, e9, e13, e10]
          go_enter Tryd.func21, Tryd.ntmps21
          go_wp2
          go_ret
          exact ⟨ret_bool hr.out, rfl⟩
theorem isWithinLine_any (r : Int) (w : World) : Calls Tryd.prog 24 #[.int .i32 r] w fun e w' => e = .returned (.bool (isLineR r)) ∧ w' = w := by
  go_enter Tryd.func24, Tryd.ntmps24
  go_wp2
  go_ret
  exact ⟨rfl, rfl⟩
theorem isLetter_at (r : Int) (b : Bool) (hb : isLetR r = b) (w : World) : Calls Tryd.prog 50 #[.int .i32 r] w fun e w' => e = .returned (.bool b) ∧ w' = w := by subst hb; exact isLetter_any r w
theorem isDigit_at (r : Int) (b : Bool) (hb : isDigR r = b) (w : World) : Calls Tryd.prog 36 #[.int .i32 r] w fun e w' => e = .returned (.bool b) ∧ w' = w := by subst hb; exact isDigit_any r w
set_option maxHeartbeats 1000000 in
theorem isWordRune_any (r : Int) (w : World) : Calls Tryd.prog 35 #[.int .i32 r] w fun e w' => e = .returned (.bool (isWordR r)) ∧ w' = w := by
  cases h1 : isLetR r with
  | true =>
    have hr : Hid (true = isWordR r) := by show _ = _; unfold isWordR; rw [h1]; rfl
    have H1 := Lib.hid h1
    clear h1
    go_enter Tryd.func35, Tryd.ntmps35
    go_wp2_with (go_at_call 50; refine (isLetter_at r true H1.out _).mono ?_; rintro e w' ⟨rfl, rfl⟩)
    go_ret
    exact ⟨ret_bool hr.out, rfl⟩
  | false =>
    cases h2 : isDigR r with
    | true =>
      have hr : Hid (true = isWordR r) := by show _ = _; unfold isWordR; rw [h1, h2]; rfl
      have H1 := Lib.hid h1
      have H2 := Lib.hid h2
      clear h1 h2
      go_enter Tryd.func35, Tryd.ntmps35
      go_wp2_with (first
        | (go_at_call 50; refine (isLetter_at r false H1.out _).mono ?_; rintro e w' ⟨rfl, rfl⟩)
        | (go_at_call 36; refine (isDigit_at r true H2.out _).mono ?_; rintro e w' ⟨rfl, rfl⟩))
      go_ret
      exact ⟨ret_bool hr.out, rfl⟩
    | false =>
      by_cases h3 : r = 95
      · have h3' : (r == 95) = true := by simp [h3]
        have hr : Hid (true = isWordR r) := by show _ = _; unfold isWordR; rw [h1, h2, h3']; rfl
        have hr0 := hr
        have H1 := Lib.hid h1
        have H2 := Lib.hid h2
        clear h1 h2 h3 hr0
        go_enter Tryd.func35, Tryd.ntmps35
        go_wp2_with (first
          | (go_at_call 50; refine (isLetter_at r false H1.out _).mono ?_; rintro e w' ⟨rfl, rfl⟩)
          | (go_at_call 36; refine (isDigit_at r false H2.out _).mono ?_; rintro e w' ⟨rfl, rfl⟩))
        go_ret
        exact ⟨ret_bool hr.out, rfl⟩
      · have h3' : (r == 95) = false := by simp [h3]
        have hr : Hid (false = isWordR r) := by show _ = _; unfold isWordR; rw [h1, h2, h3']; rfl
        have hr0 := hr
        have H1 := Lib.hid h1
        have H2 := Lib.hid h2
        clear h1 h2 h3 hr0
        go_enter Tryd.func35, Tryd.ntmps35
        go_wp2_with (first
          | (go_at_call 50; refine (isLetter_at r false H1.out _).mono ?_; rintro e w' ⟨rfl, rfl⟩)
          | (go_at_call 36; refine (isDigit_at r false H2.out _).mono ?_; rintro e w' ⟨rfl, rfl⟩))
        go_ret
        exact ⟨ret_bool hr.out, rfl⟩
end Go.Proofs.YtmnfonhfbolnkaaDoor
