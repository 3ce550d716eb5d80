/-
  at: the index of an item, or -1.
-/
import Derived.Test.YtpegkmancaoeiaaWOrd
namespace Go.Proofs.Ytpegkmancaoeiaa
open Go.RowKit
set_option linter.unusedVariables false

def atN (zs : List Int) (x : Int) : Nat → Nat → Int
  | 0, _ => -1
  | n + 1, k => if zs.getD k 0 = x then (k : Int) else atN zs x n (k + 1)
def atI (zs : List Int) (x : Int) : Int := atN zs x zs.length 0
theorem atN_spec (zs : List Int) (x : Int) : ∀ n k, k + n = zs.length → (0 ≤ atN zs x n k ↔ x ∈ zs.drop k)
  | 0, k, h => by
    rw [List.drop_eq_nil_of_le (by omega)]
    simp [atN]
  | n + 1, k, h => by
    have hlt : k < zs.length := by omega
    have ih := atN_spec zs x n (k + 1) (by omega)
    have e : zs.getD k 0 = zs[k] := by simp [List.getD, hlt]
    unfold atN
    rw [List.drop_eq_getElem_cons hlt, List.mem_cons, e]
    by_cases c : zs[k] = x
    · rw [if_pos c]
      exact ⟨fun _ => .inl c.symm, fun _ => by omega⟩
    · rw [if_neg c, ih]
      exact ⟨.inr, fun h => by rcases h with h | h; exact absurd h.symm c; exact h⟩
theorem atI_mem {zs : List Int} {x : Int} : 0 ≤ atI zs x ↔ x ∈ zs := by
  have := atN_spec zs x zs.length 0 (by omega)
  simpa [atI] using this
theorem atI_not {zs : List Int} {x : Int} : atI zs x < 0 ↔ ¬ x ∈ zs := by
  rw [← atI_mem]; omega

set_option maxHeartbeats 400000 in
theorem at_any (a : Option Addr) (n c : Nat) (zs : List Int) (hl : zs.length = n) (x : Int) (w : World) (hn : n ≤ maxLen) (hz : Ints w a zs) :
    Calls Try.prog 26 #[.slice a n c, .int .i64 x] w fun e w' => e = .returned (.int .i64 (atI zs x)) ∧ w = w' := by
  subst hl
  unfold maxLen at hn
  have hc := Lib.hid (show atI zs x = atN zs x (zs.length - 0) 0 from rfl)
  go_enter Try.func26, Try.ntmps26
  go_wp2
  go_loop [5] (fun i => ∃ k : Nat, k ≤ zs.length ∧ i = .int .i64 k ∧ atI zs x = atN zs x (zs.length - k) k) (fun i => zs.length - (intOf i).toNat)
  case atStart => exact ⟨0, Nat.zero_le _, rfl, hc.out⟩
  case round =>
    obtain ⟨k, hk, rfl, hr⟩ := hrel
    have Hr := Lib.hid hr
    clear hr
    by_cases hlt : k < zs.length
    · obtain ⟨b, off, rfl, hcell⟩ := hz (by omega)
      have hck := hcell k hlt
      have hu : atN zs x (zs.length - k) k = if zs.getD k 0 = x then (k : Int) else atN zs x (zs.length - (k + 1)) (k + 1) := by
        rw [show zs.length - k = (zs.length - (k + 1)) + 1 from by omega]; rfl
      generalize zs.getD k 0 = z at *
      clear hcell
      by_cases c1 : z = x
      · subst c1
        rw [if_pos rfl] at hu
        have T := Lib.hid (Hr.out.trans hu)
        clear hu
        go_wp2
        go_ret
        exact ⟨ret_int T.out.symm, rfl⟩
      · have hb : (z == x) = false := by rw [beq_eq_false_iff_ne]; exact c1
        rw [if_neg c1] at hu
        have T := Lib.hid (Hr.out.trans hu)
        clear hu
        go_wp2
        go_round
        case rel => exact ⟨k + 1, by omega, by go_num, T.out⟩
        case measure => simp [intOf]; omega
    · go_wp2
      go_ret
      exact ⟨ret_int (by rw [Hr.out, show zs.length - k = 0 from by omega]; rfl), rfl⟩
end Go.Proofs.Ytpegkmancaoeiaa
