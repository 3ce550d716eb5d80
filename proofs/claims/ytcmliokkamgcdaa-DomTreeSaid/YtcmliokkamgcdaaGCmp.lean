/-
  The order of edges: cmp.Compare and cmp.Or at ints, byEnds.
-/
import Derived.Test.YtcmliokkamgcdaaGMem
import Derived.Shelf.SlSortCmp.InsertionK
namespace Go.Proofs.Ytcmliokkamgcdaa
open Go.RowKit Go.Lib Go.Sort Go.Shelf
set_option linter.unusedVariables false

def cmpZ (x y : Int) : Int := if x < y then -1 else if y < x then 1 else 0
def orZ (x y : Int) : Int := if x = 0 then y else x
def cmpE (a b : Int × Int) : Int := orZ (cmpZ a.1 b.1) (cmpZ a.2 b.2)

set_option maxHeartbeats 400000 in
theorem compare_any (x y : Int) (w : World) : Calls Try.prog 78 #[.int .i64 x, .int .i64 y] w fun e w' => e = .returned (.int .i64 (cmpZ x y)) ∧ w = w' := by
  rcases Int.lt_trichotomy x y with h | h | h
  · have hb : Hid (-1 = cmpZ x y) := by show -1 = cmpZ x y; unfold cmpZ; rw [if_pos h]
    go_enter Try.func78, Try.ntmps78
    go_wp2
    go_ret
    exact ⟨ret_int hb.out, rfl⟩
  · subst h
    have hb : Hid (0 = cmpZ x x) := by show 0 = cmpZ x x; unfold cmpZ; rw [if_neg (by omega), if_neg (by omega)]
    go_enter Try.func78, Try.ntmps78
    go_wp2
    go_ret
    exact ⟨ret_int hb.out, rfl⟩
  · have hb : Hid (1 = cmpZ x y) := by show 1 = cmpZ x y; unfold cmpZ; rw [if_neg (by omega), if_pos h]
    go_enter Try.func78, Try.ntmps78
    go_wp2
    go_ret
    exact ⟨ret_int hb.out, rfl⟩

set_option maxHeartbeats 400000 in
theorem or_any (g : Nat) (x y : Int) (w : World) (h0 : w.cell? ⟨g, 0, none⟩ = some (.int .i64 x)) (h1 : w.cell? ⟨g, 1, none⟩ = some (.int .i64 y)) :
    Calls Try.prog 79 #[.slice (some ⟨g, 0, none⟩) 2 2] w fun e w' => e = .returned (.int .i64 (orZ x y)) ∧ w = w' := by
  obtain ⟨z, hz⟩ : ∃ z, orZ x y = z := ⟨_, rfl⟩
  rw [hz]
  have Hz := Lib.hid hz
  clear hz
  by_cases e : x = 0
  · subst e
    have hzy : z = y := by rw [← Hz.out]; unfold orZ; rw [if_pos rfl]
    subst hzy
    by_cases e2 : z = 0
    · subst e2
      go_enter Try.func79, Try.ntmps79
      go_wp2
      refine wp_loop_rounds 3 ?_
      rw [rounds_succ]
      go_wp2
      rw [rounds_succ]
      go_wp2
      rw [rounds_succ]
      go_wp2
      go_ret
      exact ⟨rfl, rfl⟩
    · have t0 : (z != 0) = true := by simpa using e2
      go_enter Try.func79, Try.ntmps79
      go_wp2
      refine wp_loop_rounds 2 ?_
      rw [rounds_succ]
      go_wp2
      rw [rounds_succ]
      go_wp2
      go_ret
      exact ⟨rfl, rfl⟩
  · have hzy : z = x := by rw [← Hz.out]; unfold orZ; rw [if_neg e]
    subst hzy
    have t0 : (z != 0) = true := by simpa using e
    go_enter Try.func79, Try.ntmps79
    go_wp2
    refine wp_loop_rounds 1 ?_
    rw [rounds_succ]
    go_wp2
    go_ret
    exact ⟨rfl, rfl⟩

theorem compare_at (x y : Int) (w : World) : Calls Try.prog 78 #[.int .i64 x, .int .i64 y] w fun e w' => e = .returned (.int .i64 (cmpZ x y)) ∧ w' = w :=
  (compare_any x y w).mono fun _ _ h => ⟨h.1, h.2.symm⟩
set_option maxHeartbeats 1600000 in
theorem byEnds_any (a1 a2 b1 b2 : Int) (w : World) :
    Calls Try.prog 59 #[.agg #[.int .i64 a1, .int .i64 a2], .agg #[.int .i64 b1, .int .i64 b2]] w fun e w' => e = .returned (.int .i64 (cmpE (a1, a2) (b1, b2))) ∧ ∃ q os, w' = grow (w.drewN q) os := by
  go_enter Try.func59, Try.ntmps59
  go_wp2_with fail
  have hb : Below w.heap.size w ((w.alloc (Obj.cells #[Value.int .i64 a1, Value.int .i64 a2] 52)).alloc (Obj.cells #[Value.int .i64 b1, Value.int .i64 b2] 52)) := ((Below.refl _ w).alloc (Nat.le_refl _) _).alloc (by simp) _
  have q0 : ((w.alloc (Obj.cells #[Value.int .i64 a1, Value.int .i64 a2] 52)).alloc (Obj.cells #[Value.int .i64 b1, Value.int .i64 b2] 52)).cell? ⟨w.heap.size, 0, none⟩ = some (.int .i64 a1) := by simp
  have q1 : ((w.alloc (Obj.cells #[Value.int .i64 a1, Value.int .i64 a2] 52)).alloc (Obj.cells #[Value.int .i64 b1, Value.int .i64 b2] 52)).cell? ⟨w.heap.size, 1, none⟩ = some (.int .i64 a2) := by simp
  have q2 : ((w.alloc (Obj.cells #[Value.int .i64 a1, Value.int .i64 a2] 52)).alloc (Obj.cells #[Value.int .i64 b1, Value.int .i64 b2] 52)).cell? ⟨w.heap.size + 1, 0, none⟩ = some (.int .i64 b1) := by simp
  have q3 : ((w.alloc (Obj.cells #[Value.int .i64 a1, Value.int .i64 a2] 52)).alloc (Obj.cells #[Value.int .i64 b1, Value.int .i64 b2] 52)).cell? ⟨w.heap.size + 1, 1, none⟩ = some (.int .i64 b2) := by simp
  have hs : ((w.alloc (Obj.cells #[Value.int .i64 a1, Value.int .i64 a2] 52)).alloc (Obj.cells #[Value.int .i64 b1, Value.int .i64 b2] 52)).heap.size = w.heap.size + 1 + 1 := by simp
  generalize Hw1 : (w.alloc (Obj.cells #[Value.int .i64 a1, Value.int .i64 a2] 52)).alloc (Obj.cells #[Value.int .i64 b1, Value.int .i64 b2] 52) = w1 at *
  have hS : w1.drew.cell? ⟨w.heap.size, 0, none⟩ = some (.int .i64 a1) ∧ w1.drew.cell? ⟨w.heap.size, 1, none⟩ = some (.int .i64 a2) ∧ w1.drew.cell? ⟨w.heap.size + 1, 0, none⟩ = some (.int .i64 b1) ∧ w1.drew.cell? ⟨w.heap.size + 1, 1, none⟩ = some (.int .i64 b2) := ⟨q0, q1, q2, q3⟩
  have hSa : ∀ o, (w1.alloc o).cell? ⟨w.heap.size, 0, none⟩ = some (.int .i64 a1) ∧ (w1.alloc o).cell? ⟨w.heap.size, 1, none⟩ = some (.int .i64 a2) ∧ (w1.alloc o).cell? ⟨w.heap.size + 1, 0, none⟩ = some (.int .i64 b1) ∧ (w1.alloc o).cell? ⟨w.heap.size + 1, 1, none⟩ = some (.int .i64 b2) := fun o => by
    have hc : Below w1.heap.size w1 (w1.alloc o) := (Below.refl _ _).alloc (Nat.le_refl _) o
    exact ⟨(hc.cell (p := ⟨w.heap.size, 0, none⟩) (by simp; omega)).trans q0, (hc.cell (p := ⟨w.heap.size, 1, none⟩) (by simp; omega)).trans q1, (hc.cell (p := ⟨w.heap.size + 1, 0, none⟩) (by simp; omega)).trans q2, (hc.cell (p := ⟨w.heap.size + 1, 1, none⟩) (by simp; omega)).trans q3⟩
  have Hb := Lib.hid hb
  have Hs := Lib.hid hs
  have HW1 := Lib.hid Hw1
  clear hb hs q0 q1 q2 q3 Hw1
  go_region_held3 (fun X => X.cell? ⟨w.heap.size, 0, none⟩ = some (.int .i64 a1) ∧ X.cell? ⟨w.heap.size, 1, none⟩ = some (.int .i64 a2) ∧ X.cell? ⟨w.heap.size + 1, 0, none⟩ = some (.int .i64 b1) ∧ X.cell? ⟨w.heap.size + 1, 1, none⟩ = some (.int .i64 b2))
    (first | with_reducible assumption | (exact hSa _) | fail)
    (first
      | (go_at_call_of 78 (Value.int .i64 a1); (with_reducible refine Calls.mono (compare_at _ _ _) ?_); rintro e wA ⟨rfl, rfl⟩)
      | (go_at_call 78; (with_reducible refine Calls.mono (compare_at _ _ _) ?_); rintro e wB ⟨rfl, rfl⟩)
      | (go_at_call 79; (with_reducible refine Calls.mono (or_any _ (cmpZ a1 b1) (cmpZ a2 b2) _ (by simp [go_sem]) (by simp [go_sem])) ?_); rintro e wC ⟨rfl, rfl⟩))
  go_wp2
  go_ret
  exact ⟨rfl, 1, _, by rw [← HW1.out, alloc_eq_grow, alloc_eq_grow, alloc_eq_grow, grow_grow, grow_grow]; rfl⟩

theorem grow_below (w : World) (q : Nat) (os : Array Obj) (B : Nat) (hB : B ≤ w.heap.size) : Below B w (grow (w.drewN q) os) := by
  refine ⟨rfl, rfl, rfl, ?_, fun k hk => ?_⟩
  · show w.heap.size ≤ (w.heap ++ os).size
    simp
  · show (w.heap ++ os)[k]? = w.heap[k]?
    exact Array.getElem?_append_left (by omega)
theorem byEnds_at (a b : Int × Int) (w : World) :
    Calls Try.prog 59 #[.agg #[.int .i64 a.1, .int .i64 a.2], .agg #[.int .i64 b.1, .int .i64 b.2]] w fun e w' => e = .returned (.int .i64 (cmpE a b)) ∧ Below w.heap.size w w' :=
  (byEnds_any a.1 a.2 b.1 b.2 w).mono fun _ _ ⟨he, q, os, hw⟩ => ⟨he, by rw [hw]; exact grow_below w q os _ (Nat.le_refl _)⟩
end Go.Proofs.Ytcmliokkamgcdaa
