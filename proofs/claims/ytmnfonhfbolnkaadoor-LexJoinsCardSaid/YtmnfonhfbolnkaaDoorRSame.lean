/-
  The definition's Same at equal lists.
-/
import Derived.Test.YtmnfonhfbolnkaaDoorIsWord
import Derived.Deep.QuietTactic
import Derived.BigQuiet
import Derived.DataReads
import Derived.StillTailTactics
namespace Go.Proofs.YtmnfonhfbolnkaaDoor
open Go.RowKit
set_option linter.unusedVariables false
set_option linter.unusedSimpArgs false

set_option maxHeartbeats 4000000 in
theorem rsame_any (a : Option Addr) (c : Nat) (b : Option Addr) (d : Nat) (ts : List Tok) (w : World) (hn : ts.length ≤ 70000) (hx : Toks w a ts) (hy : Toks w b ts) :
    Calls Tryd.prog 10 #[.slice a ts.length c, .slice b ts.length d] w fun e w' => e = .returned (.bool true) ∧ Below w.heap.size w w' := by
  have Hx := Lib.hid hx
  have Hy := Lib.hid hy
  obtain ⟨n, hl⟩ : ∃ n, ts.length = n := ⟨_, rfl⟩
  have Hl := Lib.hid hl
  rw [hl] at hn ⊢
  clear hx hy hl
  go_enter Tryd.func10, Tryd.ntmps10
  have hb : ((n : Int) != (n : Int)) = false := by simp
  go_wp2
  go_loopw [5] (fun i wr => ∃ k : Nat, k ≤ n ∧ i = .int .i64 k ∧ ∃ m, wr = w.drewN m) (fun i _ => n - (intOf i).toNat)
  case atStart => exact ⟨0, Nat.zero_le _, rfl, 0, rfl⟩
  case round =>
    obtain ⟨k, hk, rfl, nw, rfl⟩ := hrel
    by_cases hlt : k < n
    · obtain ⟨b1, o1, rfl, hc1⟩ := Hx.out (by rw [Hl.out]; omega)
      obtain ⟨b2, o2, rfl, hc2⟩ := Hy.out (by rw [Hl.out]; omega)
      obtain ⟨p0, p1, p2, p3⟩ := hc1 k (by rw [Hl.out]; exact hlt)
      obtain ⟨q0, q1, q2, q3⟩ := hc2 k (by rw [Hl.out]; exact hlt)
      obtain ⟨⟨tk, ta, tt, tn⟩, ht⟩ : ∃ t, ts.getD k tokD = t := ⟨_, rfl⟩
      rw [ht] at p0 p1 p2 p3 q0 q1 q2 q3
      clear hc1 hc2 ht
      simp only at p0 p1 p2 p3 q0 q1 q2 q3
      go_wp2
      go_quiet (fail)
      go_wp2
      go_roundw
      case rel => exact ⟨k + 1, by omega, by go_num, _, rfl⟩
      case measure => simp [intOf]; omega
    · go_wp2
      go_ret
      exact ⟨rfl, rfl, rfl, rfl, Nat.le_refl _, fun _ _ => rfl⟩
end Go.Proofs.YtmnfonhfbolnkaaDoor
