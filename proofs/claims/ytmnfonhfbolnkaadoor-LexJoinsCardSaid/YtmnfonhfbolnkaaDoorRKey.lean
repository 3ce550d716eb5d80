/-
  The definition's Keyword.
-/
import Derived.Test.YtmnfonhfbolnkaaDoorREnd
namespace Go.Proofs.YtmnfonhfbolnkaaDoor
open Go.RowKit
set_option linter.unusedVariables false
set_option linter.unusedSimpArgs false

def Kwc (W : World) (g : Nat) : Prop := ∀ k, k < 17 → W.cell? ⟨g, k, none⟩ = some (.string (kwB.getD k ⟨#[]⟩))
set_option maxHeartbeats 4000000 in
set_option maxRecDepth 100000 in
theorem rkey_any (s : ByteArray) (w : World) (hs : s.size ≤ maxLen) :
    Calls Tryd.prog 15 #[.string s] w fun e w' => e = .returned (.bool (isKwd s)) ∧ Below w.heap.size w w' := by
  go_enter Tryd.func15, Tryd.ntmps15
  go_wp2
  go_loopw [4] (fun x W => ∃ k : Nat, k ≤ 17 ∧ x = .int .i64 k ∧ Hid (∀ i, i < k → isKw s i = false) ∧ Kwc W w.heap.size ∧ Below w.heap.size w W) (fun x _ => 17 - (intOf x).toNat)
  case atStart =>
    refine ⟨0, by omega, rfl, fun i hi => by omega, ?_, (Below.refl _ w).alloc (Nat.le_refl _) _⟩
    intro k hk
    have : k = 0 ∨ k = 1 ∨ k = 2 ∨ k = 3 ∨ k = 4 ∨ k = 5 ∨ k = 6 ∨ k = 7 ∨ k = 8 ∨ k = 9 ∨ k = 10 ∨ k = 11 ∨ k = 12 ∨ k = 13 ∨ k = 14 ∨ k = 15 ∨ k = 16 := by omega
    rcases this with rfl | rfl | rfl | rfl | rfl | rfl | rfl | rfl | rfl | rfl | rfl | rfl | rfl | rfl | rfl | rfl | rfl <;> simp [go_sem, kwB]
  case round =>
    obtain ⟨k, hk, rfl, hno, hcs, hb⟩ := hrel
    have Hcs := Lib.hid hcs
    have Hb := Lib.hid hb
    clear hb hcs
    by_cases hlt : k < 17
    · have hc := Hcs.out k hlt
      obtain ⟨x, hx⟩ : ∃ x, kwB.getD k ⟨#[]⟩ = x := ⟨_, rfl⟩
      rw [hx] at hc
      cases hq : (x.toList == s.toList) with
      | true =>
        have hr : Hid (true = isKwd s) := by
          show _ = _
          rw [(isKwd_iff s).mpr ⟨k, hlt, ?_⟩]
          unfold isKw
          rw [hx, ← Lib.toList_data]
          have := beq_iff_eq.mp hq
          rw [this]
          simp
        clear hx
        go_wp2
        go_ret
        exact ⟨ret_bool hr.out, Hb.out⟩
      | false =>
        have Hn : Hid (∀ i, i < k + 1 → isKw s i = false) := isKw_next hno.out (by
          unfold isKw
          rw [hx, ← Lib.toList_data]
          rw [beq_eq_false_iff_ne] at hq ⊢
          exact fun h => hq h.symm)
        clear hx
        go_wp2
        go_roundw
        case rel => exact ⟨k + 1, by omega, by go_num, Hn, Hcs.out, Hb.out⟩
        case measure => simp [intOf]; omega
    · have hr : Hid (false = isKwd s) := by show _ = _; rw [isKwd_not (fun j hj => hno.out j (by omega))]
      go_wp2
      go_ret
      exact ⟨ret_bool hr.out, Hb.out⟩
theorem rkey_at (s : ByteArray) (b : Bool) (hb : isKwd s = b) (w : World) (hs : s.size ≤ maxLen) :
    Calls Tryd.prog 15 #[.string s] w fun e w' => e = .returned (.bool b) ∧ Below w.heap.size w w' := by
  subst hb; exact rkey_any s w hs
end Go.Proofs.YtmnfonhfbolnkaaDoor
