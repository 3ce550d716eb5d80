/-
  The definition's end: where a word ends, where digits end. (Written by gen_end.py.)
-/
import Derived.Test.YtmnfonhfbolnkaaDoorRSkip
namespace Go.Proofs.YtmnfonhfbolnkaaDoor
open Go.RowKit
set_option linter.unusedVariables false
set_option linter.unusedSimpArgs false

theorem rpart_at (r : Int) (b : Bool) (hb : isWordR r = b) (w : World) : Calls Tryd.prog 30 #[.int .u8 r] w fun e w' => e = .returned (.bool b) ∧ w' = w := by subst hb; exact rpart_any r w
set_option maxHeartbeats 4000000 in
theorem rend_word (s : ByteArray) (pos p : Nat) (hp : lb isWordR s pos = p) (hlt0 : pos < s.size) (hl : isLetR (byteI s pos) = true) (w : World) (hs : s.size ≤ 65536) :
    Calls Tryd.prog 40 #[.string s, .int .i64 pos] w fun e w' => e = .returned (.int .i64 p) ∧ w' = w := by
  have Hp := Lib.hid hp
  obtain ⟨c0, hc0⟩ : ∃ c : Nat, (s[pos]'hlt0).toNat = c := ⟨_, rfl⟩
  have Hl : Hid (isLetR (c0 : Int) = true) := by show _ = _; rw [← hl, byteI_at hlt0, hc0]
  clear hp hl
  go_enter Tryd.func40, Tryd.ntmps40
  go_wp2_with (go_at_call 29; refine (rletter_at _ true Hl.out _).mono ?_; rintro e w' ⟨rfl, rfl⟩)
  clear hc0
  go_loopw [1] (fun x W => ∃ k : Nat, k ≤ s.size ∧ x = .int .i64 k ∧ Hid (lb isWordR s k = p) ∧ W = w') (fun x _ => s.size - (intOf x).toNat)
  case atStart => exact ⟨pos, Nat.le_of_lt hlt0, rfl, Hp, rfl⟩
  case round =>
    obtain ⟨k, hk, rfl, hsk, rfl⟩ := hrel
    by_cases hlt : k < s.size
    · obtain ⟨c, hc⟩ : ∃ c : Nat, (s[k]'hlt).toNat = c := ⟨_, rfl⟩
      have hby := Lib.hid ((byteI_at hlt).trans (by rw [hc]) : byteI s k = (c : Int))
      cases hq : isWordR (c : Int) with
      | true =>
        have Hq := Lib.hid hq
        have Hn : Hid (lb isWordR s (k + 1) = p) := by show _ = _; rw [← lb_next hlt (by rw [hby.out]; exact hq)]; exact hsk.out
        clear hq hby
        go_wp2_with (go_at_call 30; refine (rpart_at _ true Hq.out _).mono ?_; rintro e w' ⟨rfl, rfl⟩)
        go_roundw
        case rel => exact ⟨k + 1, by omega, by go_num, Hn, by trivial⟩
        case measure => simp [intOf]; omega
      | false =>
        have Hq := Lib.hid hq
        have Hs : Hid (k = p) := by show _ = _; rw [← hsk.out, lb_stop hlt (by rw [hby.out]; exact hq)]
        clear hq hby
        go_wp2_with (go_at_call 30; refine (rpart_at _ false Hq.out _).mono ?_; rintro e w' ⟨rfl, rfl⟩)
        go_ret
        exact ⟨ret_i Hs.out, rfl⟩
    · have Hs : Hid (k = p) := by show _ = _; rw [← hsk.out, lb_end hlt]
      go_wp2
      go_ret
      exact ⟨ret_i Hs.out, rfl⟩
set_option maxHeartbeats 4000000 in
theorem rend_digits (s : ByteArray) (pos p : Nat) (hp : lb isDigR s pos = p) (hlt0 : pos < s.size) (hl : isLetR (byteI s pos) = false) (w : World) (hs : s.size ≤ 65536) :
    Calls Tryd.prog 40 #[.string s, .int .i64 pos] w fun e w' => e = .returned (.int .i64 p) ∧ w' = w := by
  have Hp := Lib.hid hp
  obtain ⟨c0, hc0⟩ : ∃ c : Nat, (s[pos]'hlt0).toNat = c := ⟨_, rfl⟩
  have Hl : Hid (isLetR (c0 : Int) = false) := by show _ = _; rw [← hl, byteI_at hlt0, hc0]
  clear hp hl
  go_enter Tryd.func40, Tryd.ntmps40
  go_wp2_with (go_at_call 29; refine (rletter_at _ false Hl.out _).mono ?_; rintro e w' ⟨rfl, rfl⟩)
  clear hc0
  go_loopw [1] (fun x W => ∃ k : Nat, k ≤ s.size ∧ x = .int .i64 k ∧ Hid (lb isDigR s k = p) ∧ W = w') (fun x _ => s.size - (intOf x).toNat)
  case atStart => exact ⟨pos, Nat.le_of_lt hlt0, rfl, Hp, rfl⟩
  case round =>
    obtain ⟨k, hk, rfl, hsk, rfl⟩ := hrel
    by_cases hlt : k < s.size
    · obtain ⟨c, hc⟩ : ∃ c : Nat, (s[k]'hlt).toNat = c := ⟨_, rfl⟩
      have hby := Lib.hid ((byteI_at hlt).trans (by rw [hc]) : byteI s k = (c : Int))
      cases hq : isDigR (c : Int) with
      | true =>
        have Hq := Lib.hid hq
        have Hn : Hid (lb isDigR s (k + 1) = p) := by show _ = _; rw [← lb_next hlt (by rw [hby.out]; exact hq)]; exact hsk.out
        clear hq hby
        go_wp2_with (go_at_call 41; refine (rdigit_at _ true Hq.out _).mono ?_; rintro e w' ⟨rfl, rfl⟩)
        go_roundw
        case rel => exact ⟨k + 1, by omega, by go_num, Hn, by trivial⟩
        case measure => simp [intOf]; omega
      | false =>
        have Hq := Lib.hid hq
        have Hs : Hid (k = p) := by show _ = _; rw [← hsk.out, lb_stop hlt (by rw [hby.out]; exact hq)]
        clear hq hby
        go_wp2_with (go_at_call 41; refine (rdigit_at _ false Hq.out _).mono ?_; rintro e w' ⟨rfl, rfl⟩)
        go_ret
        exact ⟨ret_i Hs.out, rfl⟩
    · have Hs : Hid (k = p) := by show _ = _; rw [← hsk.out, lb_end hlt]
      go_wp2
      go_ret
      exact ⟨ret_i Hs.out, rfl⟩
end Go.Proofs.YtmnfonhfbolnkaaDoor
