/-
  R04.Node and in.
-/
import Derived.Test.YtcmliokkamgcdaaGRCheck
import Derived.Test.YtcmliokkamgcdaaDAwk
namespace Go.Proofs.Ytcmliokkamgcdaa
open Go.RowKit Go.Shelf
set_option linter.unusedVariables false

set_option maxHeartbeats 4000000 in
theorem in_any (a : Option Addr) (n c : Nat) (zs : List Int) (x : Int) (hl : zs.length = n) (hn : n ≤ 100000) (w : World) (hz : Ints w a zs) :
    Calls Try.prog 27 #[.slice a n c, .int .i64 x] w fun e w' => e = .returned (.bool (decide (x ∈ zs))) ∧ Below w.heap.size w w' := by
  have Hz := Lib.hid hz
  have Hl := Lib.hid hl
  have hB : Hid (Below w.heap.size w w) := Below.refl _ _
  have hN : Hid (∀ i, i < 0 → zs.getD i 0 ≠ x) := fun i hi => by omega
  clear hz hl
  go_enter Try.func27, Try.ntmps27
  go_wp2
  go_loopw [5] (fun i W => ∃ k : Nat, i = .int .i64 (k : Int) ∧ k ≤ n ∧ Hid (∀ i, i < k → zs.getD i 0 ≠ x) ∧ Hid (Below w.heap.size w W)) (fun i _ => n - (intOf i).toNat)
  case atStart => exact ⟨0, rfl, Nat.zero_le _, hN, hB⟩
  case round =>
    clear hN hB
    obtain ⟨k, rfl, hk, hN, hB⟩ := hrel
    by_cases hlt : k < n
    · obtain ⟨b, o, rfl, hc⟩ := (Hz.out.below hB.out (Nat.le_refl _)) (by rw [Hl.out]; omega)
      have cK := hc k (by rw [Hl.out]; exact hlt)
      obtain ⟨y, hy⟩ : ∃ y, zs.getD k 0 = y := ⟨_, rfl⟩
      rw [hy] at cK
      by_cases e : y = x
      · have hmem : x ∈ zs := by
          have hkl : k < zs.length := by rw [Hl.out]; exact hlt
          rw [← e, ← hy, List.getD_eq_getElem?_getD, List.getElem?_eq_getElem hkl]; exact List.getElem_mem _
        have hd : Hid (decide (x ∈ zs) = true) := decide_eq_true hmem
        clear hc hy hmem hN
        subst e
        go_wp2
        go_ret
        exact ⟨by rw [hd.out]; rfl, hB.out⟩
      · have hN2 : Hid (∀ i, i < k + 1 → zs.getD i 0 ≠ x) := fun i hi => by
          rcases Nat.lt_succ_iff_lt_or_eq.1 hi with h | h
          · exact hN.out i h
          · subst h; rw [hy]; exact e
        have he : decide (y = x) = false := decide_eq_false e
        clear hc hy hN
        go_wp2
        go_roundw
        case rel => exact ⟨k + 1, by go_num, hlt, hN2, hB⟩
        case measure => simp [intOf]; omega
    · have hd : Hid (decide (x ∈ zs) = false) := by
        show _ = _
        refine decide_eq_false fun h => ?_
        obtain ⟨i, hi, e⟩ := List.getElem_of_mem h
        refine hN.out i (by rw [Hl.out] at hi; omega) ?_
        rw [List.getD_eq_getElem?_getD, List.getElem?_eq_getElem hi]; exact e
      clear hN
      go_wp2
      go_ret
      exact ⟨by rw [hd.out]; rfl, hB.out⟩
/-- Is a number a node of a valid graph? -/
def nodeB (N : Int) (ps : List (Int × Int)) (x : Int) : Bool := decide (gchk N ps = 0) && isNd N x
set_option maxHeartbeats 4000000 in
theorem node_any (N x : Int) (a : Option Addr) (n c : Nat) (ps : List (Int × Int)) (hl : ps.length = n) (w : World) (hE : Pairs w a ps) (hn : n ≤ maxLen) :
    Calls Try.prog 26 #[.agg #[.int .i64 N, .slice a n c], .int .i64 x] w fun e w' => e = .returned (.bool (nodeB N ps x)) ∧ Below w.heap.size w w' := by
  obtain ⟨w0, hw0⟩ : ∃ w0, w.alloc (Obj.cells #[Value.int .i64 N, Value.slice a n c] 24) = w0 := ⟨_, rfl⟩
  have hz0 : w0.heap.size = w.heap.size + 1 := by rw [← hw0]; simp
  have g0 : w0.cell? ⟨w.heap.size, 0, none⟩ = some (.int .i64 N) := by rw [← hw0]; simp [go_sem]
  have hb0 : Below w.heap.size w w0 := by rw [← hw0]; exact (Below.refl w.heap.size w).alloc (Nat.le_refl _) _
  have hcall := rcheck_any N a c ps w0 (by rw [hl]; exact hn) (hE.below hb0 (Nat.le_refl _))
  rw [hl] at hcall
  have Hcall := Lib.hid hcall
  have HB0 := Lib.hid hb0
  have Hw0 := Lib.hid hw0
  obtain ⟨q, hq⟩ : ∃ q, gchk N ps = q := ⟨_, rfl⟩
  rw [hq] at Hcall
  obtain ⟨r, hr⟩ : ∃ r, nodeB N ps x = r := ⟨_, rfl⟩
  unfold nodeB at hr
  rw [hq] at hr
  unfold nodeB
  rw [hq, hr]
  clear hE hcall hb0 hw0 hq hl
  by_cases h0 : q = 0
  · subst h0
    by_cases h1 : 0 ≤ x
    · by_cases h2 : x < N
      · obtain rfl : r = true := by rw [← hr]; simp; exact isNd_iff.2 ⟨h1, h2⟩
        clear hr
        go_enter Try.func26, Try.ntmps26
        go_wp2_with fail
        rw [Hw0.out]
        refine Hcall.out.mono ?_
        rintro e w1 ⟨rfl, hb1⟩
        have k0 := (hb1.cell (p := ⟨w.heap.size, 0, none⟩) (by show w.heap.size < _; omega)).trans g0
        have HB1 := Lib.hid (HB0.out.trans (hb1.mono (by omega)))
        clear hb1 g0
        go_wp2
        go_ret
        exact ⟨rfl, HB1.out⟩
      · obtain rfl : r = false := by rw [← hr]; simp; exact isNd_not.2 (.inr (by omega))
        clear hr
        go_enter Try.func26, Try.ntmps26
        go_wp2_with fail
        rw [Hw0.out]
        refine Hcall.out.mono ?_
        rintro e w1 ⟨rfl, hb1⟩
        have k0 := (hb1.cell (p := ⟨w.heap.size, 0, none⟩) (by show w.heap.size < _; omega)).trans g0
        have HB1 := Lib.hid (HB0.out.trans (hb1.mono (by omega)))
        clear hb1 g0
        go_wp2
        go_ret
        exact ⟨congrArg (fun b => Ending.returned (Value.bool b)) (decide_eq_false (by omega)), HB1.out⟩
    · obtain rfl : r = false := by rw [← hr]; simp; exact isNd_not.2 (.inl (by omega))
      clear hr
      go_enter Try.func26, Try.ntmps26
      go_wp2_with fail
      rw [Hw0.out]
      refine Hcall.out.mono ?_
      rintro e w1 ⟨rfl, hb1⟩
      have k0 := (hb1.cell (p := ⟨w.heap.size, 0, none⟩) (by show w.heap.size < _; omega)).trans g0
      have HB1 := Lib.hid (HB0.out.trans (hb1.mono (by omega)))
      clear hb1 g0
      go_wp2
      go_ret
      exact ⟨rfl, HB1.out⟩
  · obtain rfl : r = false := by rw [← hr, decide_eq_false h0]; rfl
    have hq0 : decide (q = 0) = false := decide_eq_false h0
    clear hr
    go_enter Try.func26, Try.ntmps26
    go_wp2_with fail
    rw [Hw0.out]
    refine Hcall.out.mono ?_
    rintro e w1 ⟨rfl, hb1⟩
    have k0 := (hb1.cell (p := ⟨w.heap.size, 0, none⟩) (by show w.heap.size < _; omega)).trans g0
    have HB1 := Lib.hid (HB0.out.trans (hb1.mono (by omega)))
    clear hb1 g0
    go_wp2
    go_ret
    exact ⟨by first | rfl | (rw [show (false : Bool) = decide (q = 0) from hq0.symm]; rfl), HB1.out⟩
end Go.Proofs.Ytcmliokkamgcdaa
