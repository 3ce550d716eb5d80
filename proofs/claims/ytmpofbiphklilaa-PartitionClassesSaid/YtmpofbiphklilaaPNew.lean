/-
  New: the partition into single elements, in new memory.
-/
import Derived.Test.YtmpofbiphklilaaPRoot
namespace Go.Proofs.Ytmpofbiphklilaa
open Go.RowKit
set_option linter.unusedVariables false

def iota (n : Nat) : List Int := (List.range n).map Int.ofNat
def iotaTo (n k : Nat) : List Int := (List.range n).map fun i => if i < k then (i : Int) else 0
theorem length_iota (n : Nat) : (iota n).length = n := by simp [iota]
theorem length_iotaTo (n k : Nat) : (iotaTo n k).length = n := by simp [iotaTo]
theorem getD_iota (n i : Nat) (h : i < n) : (iota n).getD i 0 = i := by simp [iota, h]
theorem iotaTo_zero (n : Nat) : iotaTo n 0 = List.replicate n 0 := by
  apply List.ext_getElem <;> simp [iotaTo]
theorem iotaTo_end (n : Nat) : iotaTo n n = iota n := by
  apply List.ext_getElem
  · simp [iotaTo, iota]
  · intro i h1 h2
    simp only [length_iotaTo] at h1
    simp [iotaTo, iota, h1]
theorem iotaTo_succ (n k : Nat) (h : k < n) : (iotaTo n k).set k k = iotaTo n (k + 1) := by
  apply List.ext_getElem
  · simp [iotaTo]
  · intro i h1 h2
    simp only [length_iotaTo] at h2
    rw [List.getElem_set]
    by_cases e : k = i
    · subst e; simp [iotaTo]
    · simp only [iotaTo, List.getElem_map, List.getElem_range, if_neg e]
      by_cases h3 : i < k
      · rw [if_pos h3, if_pos (by omega)]
      · rw [if_neg h3, if_neg (by omega)]
theorem flat_iota (n : Nat) : Flat (iota n) := by
  refine ⟨fun i hi => ?_, fun i hi => ?_, fun i hi => ?_⟩
  all_goals rw [length_iota] at hi
  all_goals rw [getD_iota n i hi]
  · omega
  · omega
  · rw [Int.toNat_natCast, getD_iota n i hi]
theorem rep_iota (n : Nat) : Rep (iota n) (iota n) :=
  have h := flat_iota n
  ⟨rfl, h.lo, h.hi, fun i hi e => e, h.fix⟩

set_option maxHeartbeats 400000 in
theorem new_bad (n : Int) (w : World) (h : n < 0 ∨ 8192 < n) :
    Calls Try.prog 21 #[.int .i64 n] w fun e w' => e = .returned (.tuple #[.slice none 0 0, .int .i64 4]) ∧ w = w' := by
  rcases h with h | h
  all_goals
    go_enter Try.func21, Try.ntmps21
    go_wp2
    go_ret2
    exact ⟨rfl, rfl⟩

set_option maxHeartbeats 400000 in
theorem new_good (n : Nat) (w : World) (h : n ≤ 8192) :
    Calls Try.prog 21 #[.int .i64 n] w fun e w' => e = .returned (.tuple #[.slice (some ⟨w.heap.size, 0, none⟩) n n, .int .i64 0]) ∧
      Row w' w.heap.size w.heap.size n (iota n) ∧ Below w.heap.size w w' := by
  obtain ⟨i0, hi, hz0, hz1, hz2⟩ := info_parts int_info
  go_enter Try.func21, Try.ntmps21
  go_wp2_with (at_make; refine wpList_make_full _ rfl _ _ 22 rfl w.heap.size 3 i0 (.int .i64 0) 1 Try.underlying22 hi hz0 hz1 _ _ _ _ n rfl rfl rfl rfl ?c1 ?c2 ?c3 ?_)
  case c1 => rw [hz2]; omega
  case c2 => unfold maxLen; omega
  case c3 => exact Nat.le_refl _
  intro w1 hown hg
  have hb : Hid (Below w.heap.size w w1) := (Below.refl _ _).grown hg (Nat.le_refl _) (fun k hk => by cases hk)
  have hrow : Hid (Row w1 w.heap.size w.heap.size n (iotaTo n 0)) := by
    show Row _ _ _ _ _
    have e : (iotaTo n 0).map (Value.int .i64) = (madeCells #[Value.int .i64 0] n).toList := by
      rw [toList_madeCells_one, iotaTo_zero]; simp
    unfold Row
    rw [length_iotaTo, e]
    exact hown
  clear hown hg
  go_wp2
  go_loopw [5, 16] (fun _ i wr => ∃ k : Nat, k ≤ n ∧ i = .int .i64 k ∧ Row wr w.heap.size w.heap.size n (iotaTo n k) ∧ Below w.heap.size w wr) (fun _ i _ => n - (intOf i).toNat)
  case atStart => exact ⟨0, Nat.zero_le _, rfl, hrow.out, hb.out⟩
  case round =>
    obtain ⟨k, hk, rfl, hr, hbl⟩ := hrel
    by_cases hlt : k < n
    · have c := hr.cell (i := k) (by rw [length_iotaTo]; exact hlt)
      generalize (iotaTo n k).getD k 0 = z at c
      have fz := hr.free k
      have Hr := Lib.hid hr
      have Hb := Lib.hid hbl
      clear hr hbl
      go_wp2
      go_roundw
      case rel => exact ⟨k + 1, by omega, by go_num, by rw [← iotaTo_succ n k hlt]; exact Hr.out.set k k, Hb.out.setCell (Nat.le_refl _) _⟩
      case measure => simp [intOf]; omega
    · have e : n = k := by omega
      have Hr := Lib.hid hr
      have Hb := Lib.hid hbl
      clear hr hbl hk
      subst e
      go_wp2
      go_ret2
      exact ⟨rfl, by rw [← iotaTo_end]; exact Hr.out, Hb.out⟩
end Go.Proofs.Ytmpofbiphklilaa
