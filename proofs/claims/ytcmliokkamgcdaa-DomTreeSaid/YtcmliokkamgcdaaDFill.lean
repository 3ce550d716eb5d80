/-
  A list of n numbers x.
-/
import Derived.Test.YtcmliokkamgcdaaSRows
import Derived.LoopTactic
import Derived.RegionTactic
namespace Go.Proofs.Ytcmliokkamgcdaa
open Go.RowKit
set_option linter.unusedVariables false

def fillTo (N : Nat) (x : Int) (k : Nat) : List Int := List.replicate k x ++ List.replicate (N - k) 0
theorem fillTo_len {N : Nat} {x : Int} {k : Nat} (h : k ≤ N) : (fillTo N x k).length = N := by simp [fillTo]; omega
theorem fillTo_all (N : Nat) (x : Int) : fillTo N x N = List.replicate N x := by simp [fillTo]
theorem fillTo_succ {N : Nat} {x : Int} {k : Nat} (h : k < N) : fillTo N x (k + 1) = (fillTo N x k).set k x := by
  apply List.ext_getElem
  · rw [List.length_set, fillTo_len h, fillTo_len (Nat.le_of_lt h)]
  · intro i h1 h2
    rw [List.getElem_set]
    simp only [fillTo, List.getElem_append, List.length_replicate, List.getElem_replicate]
    by_cases e : k = i
    · subst e; simp
    · rw [if_neg e]
      by_cases l : i < k
      · rw [dif_pos (by omega), dif_pos l]
      · rw [dif_neg (by omega), dif_neg l]

set_option maxHeartbeats 2000000 in
set_option maxRecDepth 100000 in
theorem filled_any (N : Nat) (x : Int) (w : World) (hN : N ≤ 100000) :
    Calls Try.prog 46 #[.int .i64 (N : Int), .int .i64 x] w fun e w' => e = .returned (.slice (some ⟨w.heap.size, 0, none⟩) N N) ∧ Row w' w.heap.size w.heap.size N (List.replicate N x) ∧ Below w.heap.size w w' := by
  obtain ⟨i0, hi, hz0, hz1, hz2⟩ := info_parts int_info
  go_enter Try.func46, Try.ntmps46
  go_wp2_with (at_make; refine wpList_make_full _ rfl _ _ 25 rfl w.heap.size 3 i0 (.int .i64 0) 1 Try.underlying25 hi hz0 hz1 _ _ _ _ N rfl rfl rfl rfl ?c1 ?c2 ?c3 ?_)
  case c1 => rw [hz2]; omega
  case c2 => unfold maxLen; omega
  case c3 => exact Nat.le_refl _
  intro w3 hown hg3
  have hrep : (madeCells #[Value.int .i64 0] N).toList = (fillTo N x 0).map (Value.int .i64) := by rw [toList_madeCells_one]; simp [fillTo]
  have hR0 : Row w3 w.heap.size w.heap.size N (fillTo N x 0) := by
    unfold Row
    rw [← hrep, fillTo_len (Nat.zero_le _)]
    exact hown
  have hb3 : Below w.heap.size w w3 := (Below.refl _ _).grown hg3 (Nat.le_refl _) (fun k hk => by cases hk)
  have HR := Lib.hid hR0
  have HB3 := Lib.hid hb3
  clear hown hrep hR0 hb3 hg3
  go_wp2
  go_loopw [11] (fun y W => ∃ k : Nat, y = .int .i64 k ∧ k ≤ N ∧ Hid (Row W w.heap.size w.heap.size N (fillTo N x k)) ∧ Hid (Below w.heap.size w W)) (fun y _ => N - (intOf y).toNat)
  case atStart => exact ⟨0, rfl, Nat.zero_le _, HR, HB3⟩
  case round =>
    obtain ⟨k, rfl, hk, hrow, hbw⟩ := hrel
    by_cases hlt : k < N
    · have fr := hrow.out.free k
      have hcx := hrow.out.cell (i := k) (by rw [fillTo_len hk]; exact hlt)
      have hnew := hrow.out.set k x
      rw [← fillTo_succ hlt] at hnew
      have Hnew := Lib.hid hnew
      have hb9 : Hid (Below w.heap.size w (wr.setCell ⟨w.heap.size, k, none⟩ (.int .i64 x))) := hbw.out.setCell (p := ⟨w.heap.size, k, none⟩) (Nat.le_refl _) _
      obtain ⟨z, hz⟩ : ∃ z, (fillTo N x k).getD k 0 = z := ⟨_, rfl⟩
      rw [hz] at hcx
      clear hnew hz
      go_wp2
      go_roundw
      case rel => exact ⟨k + 1, by go_num, hlt, Hnew, hb9⟩
      case measure => simp [intOf]; omega
    · obtain rfl : k = N := by omega
      go_wp2
      go_ret
      exact ⟨rfl, by rw [← fillTo_all]; exact hrow.out, hbw.out⟩
end Go.Proofs.Ytcmliokkamgcdaa
