/-
  leading: the longest beginning of a text all of whose runes are within a set.
-/
import Derived.Test.YtmnfonhfbolnkaaDoorLRune
import Derived.LoopTactic
namespace Go.Proofs.YtmnfonhfbolnkaaDoor
open Go.RowKit
set_option linter.unusedVariables false

/-- Where the runes of p end, from pos on. -/
def ledP (p : Int → Bool) (s : ByteArray) : Nat → Nat → Nat
  | 0, _ => s.size
  | b + 1, pos => if pos < s.size then (if p (Utf8.decode s pos).1 = true then ledP p s b (pos + (Utf8.decode s pos).2) else pos) else s.size
theorem width_pos (s : ByteArray) (pos : Nat) (h : pos < s.size) : 1 ≤ (Utf8.decode s pos).2 := by
  by_cases ha : (s[pos]'h).toNat < 128
  · rw [decode_ascii s pos h ha]
    exact Nat.le_refl _
  · exact (decode_high s pos h (by omega)).2
theorem ledP_end {p : Int → Bool} {s : ByteArray} {b pos : Nat} (h : ¬ pos < s.size) : ledP p s b pos = s.size := by
  cases b with
  | zero => rfl
  | succ b => show (if _ then _ else _) = _; rw [if_neg h]
theorem ledP_go {p : Int → Bool} {s : ByteArray} {b pos : Nat} (h : pos < s.size) (hp : p (Utf8.decode s pos).1 = true) : ledP p s (b + 1) pos = ledP p s b (pos + (Utf8.decode s pos).2) := by
  show (if _ then _ else _) = _
  rw [if_pos h, if_pos hp]
theorem ledP_stop {p : Int → Bool} {s : ByteArray} {b pos : Nat} (h : pos < s.size) (hp : p (Utf8.decode s pos).1 = false) : ledP p s (b + 1) pos = pos := by
  show (if _ then _ else _) = _
  rw [if_pos h, if_neg (by rw [hp]; decide)]
/-- A function that tells whether a rune is in a set, and does nothing else. -/
structure Tells (f : Nat) (p : Int → Bool) : Prop where
  enter : ∀ (args : Array Value) (W : World), (callFunc f args).run Tryd.prog W = .ok (.enter f args) W
  tells : ∀ (r : Int) (W : World), Calls Tryd.prog f #[.int .i32 r] W fun e W' => e = .returned (.bool (p r)) ∧ W' = W

set_option maxHeartbeats 2000000 in
set_option maxRecDepth 1000000 in
theorem leading_any (f : Nat) (p : Int → Bool) (hp : Tells f p) (s : ByteArray) (w : World) (hs : s.size ≤ maxLen) :
    Calls Tryd.prog 23 #[.string s, .func (.func f) #[] #[]] w fun e w' => e = .returned (.string (s.extract 0 (ledP p s (s.size + 1) 0))) ∧ ∃ pos, w' = w.iter s pos := by
  unfold maxLen at hs
  have hen := hp.enter
  go_enter Tryd.func23, Tryd.ntmps23
  go_wp2
  go_loopw [5] (fun _ W => ∃ (pos b : Nat), W = w.iter s pos ∧ ledP p s (s.size + 1) 0 = ledP p s (b + 1) pos ∧ s.size ≤ pos + b) (fun _ W => s.size - W.iterPos w.heap.size)
  case atStart => exact ⟨0, s.size, rfl, rfl, by omega⟩
  case round =>
    obtain ⟨pos, b, rfl, he, hb⟩ := hrel
    have He := Lib.hid he
    clear he
    by_cases hlt : pos < s.size
    · have hnx := fun ty => run_next_any (P := Tryd.prog) w s pos ty hlt
      have hwp := width_pos s pos hlt
      obtain ⟨r, hr⟩ : ∃ r : Nat, (Utf8.decode s pos).1 = r := ⟨_, rfl⟩
      obtain ⟨n, hn⟩ : ∃ n : Nat, (Utf8.decode s pos).2 = n := ⟨_, rfl⟩
      rw [hr, hn] at hnx
      rw [hn] at hwp
      cases hpr : p (r : Int) with
      | true =>
        have hstep := ledP_go (p := p) (b := b) hlt (by rw [hr]; exact hpr)
        rw [hn] at hstep
        have Hstep := Lib.hid hstep
        have Hpr := Lib.hid hpr
        clear hstep hr hn hpr
        go_wp2_with (refine (hp.tells _ _).mono ?_; rintro e w' ⟨rfl, rfl⟩; rw [Hpr.out])
        go_roundw
        case rel =>
          obtain ⟨c, rfl⟩ : ∃ c, b = c + 1 := ⟨b - 1, by omega⟩
          refine ⟨pos + n, c, ?_, ?_, ?_⟩
          · rfl
          · rw [He.out]; exact Hstep.out
          · omega
        case measure =>
          simp
          omega
      | false =>
        have hstep := ledP_stop (p := p) (b := b) hlt (by rw [hr]; exact hpr)
        have Hstep : Hid (ledP p s (s.size + 1) 0 = pos) := by show _ = _; rw [He.out]; exact hstep
        have Hpr := Lib.hid hpr
        clear hstep hr hn hpr
        go_wp2_with (refine (hp.tells _ _).mono ?_; rintro e w' ⟨rfl, rfl⟩; rw [Hpr.out])
        go_ret
        rw [Hstep.out]
        exact ⟨rfl, _, rfl⟩
    · have hnx : ∀ ty, (Instr.next (.pointer (some ⟨w.heap.size, 0, none⟩)) true ty).run Tryd.prog (w.iter s pos) = _ := fun ty => run_next_end w s pos ty hlt
      have Hend : Hid (ledP p s (s.size + 1) 0 = s.size) := by show _ = _; rw [He.out]; exact ledP_end hlt
      go_wp2
      go_ret
      rw [Hend.out]
      exact ⟨by simp, _, rfl⟩
theorem tells_word : Tells 35 isWordR := ⟨fun _ _ => rfl, isWordRune_any⟩
theorem tells_digit : Tells 36 isDigR := ⟨fun _ _ => rfl, isDigit_any⟩
theorem tells_line : Tells 24 isLineR := ⟨fun _ _ => rfl, isWithinLine_any⟩
end Go.Proofs.YtmnfonhfbolnkaaDoor
