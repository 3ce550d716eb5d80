/-
  mark: the first of the marks with which a text begins.
-/
import Derived.Test.YtmnfonhfbolnkaaDoorLLead
import Derived.Test.YtmnfonhfbolnkaaDoorShelfP
import Derived.Shelf.Strings.Prefix
namespace Go.Proofs.YtmnfonhfbolnkaaDoor
open Go.RowKit Go.Shelf
set_option linter.unusedVariables false

theorem hasPrefix_at (s p : ByteArray) (r : Bool) (hr : Lib.hasPrefix s.data.toList p.data.toList = r) (w : World) : Calls Tryd.prog 22 #[.string s, .string p] w fun e w' => e = .returned (.bool r) ∧ w' = w := by
  subst hr; exact Any.strings_HasPrefix Tryd.hasPrefix s p w
def marksB : List ByteArray := [⟨#[58, 58]⟩, ⟨#[61, 61]⟩, ⟨#[58]⟩, ⟨#[123]⟩, ⟨#[125]⟩, ⟨#[40]⟩, ⟨#[41]⟩, ⟨#[59]⟩, ⟨#[44]⟩, ⟨#[46]⟩, ⟨#[61]⟩, ⟨#[60]⟩, ⟨#[43]⟩, ⟨#[45]⟩, ⟨#[42]⟩]
/-- The table of the marks lies where the program keeps it. -/
structure Mk (w : World) : Prop where
  cell : ∀ j (h : j < 15), w.cell? ⟨1, j, none⟩ = some (.string (marksB[j]'h))
  lt : 1 < w.heap.size
theorem Mk.below {w w' : World} {B : Nat} (h : Mk w) (hb : Below B w w') (hB : w.heap.size ≤ B) : Mk w' :=
  ⟨fun j hj => (hb.cell (p := ⟨1, j, none⟩) (Nat.lt_of_lt_of_le h.lt hB)).trans (h.cell j hj), Nat.lt_of_lt_of_le h.lt hb.size⟩
def pref (s : ByteArray) (j : Nat) : Bool := Lib.hasPrefix s.data.toList ((marksB.getD j ⟨#[]⟩).data.toList)
def MarkEnd (s : ByteArray) (w : World) (e : Ending) (w' : World) : Prop :=
  Below w.heap.size w w' ∧ ((∃ j, j < 15 ∧ (∀ i, i < j → pref s i = false) ∧ pref s j = true ∧ e = .returned (.tuple #[.agg #[.int .i64 4, .int .i64 0, .string (marksB.getD j ⟨#[]⟩), .int .i64 0], .int .i64 0])) ∨
    ((∀ i, i < 15 → pref s i = false) ∧ e = .returned (.tuple #[.agg #[.int .i64 0, .int .i64 0, .string ⟨#[]⟩, .int .i64 0], .int .i64 2])))

/-- The table as a value; each of its elements. -/
theorem mark_at0 (w : World) : (Instr.index 63 (.agg #[.string ⟨#[58, 58]⟩, .string ⟨#[61, 61]⟩, .string ⟨#[58]⟩, .string ⟨#[123]⟩, .string ⟨#[125]⟩, .string ⟨#[40]⟩, .string ⟨#[41]⟩, .string ⟨#[59]⟩, .string ⟨#[44]⟩, .string ⟨#[46]⟩, .string ⟨#[61]⟩, .string ⟨#[60]⟩, .string ⟨#[43]⟩, .string ⟨#[45]⟩, .string ⟨#[42]⟩]) (.int .i64 0)).run Tryd.prog w = .ok (.string ⟨#[58, 58]⟩) w := by kernel_rfl
theorem mark_at1 (w : World) : (Instr.index 63 (.agg #[.string ⟨#[58, 58]⟩, .string ⟨#[61, 61]⟩, .string ⟨#[58]⟩, .string ⟨#[123]⟩, .string ⟨#[125]⟩, .string ⟨#[40]⟩, .string ⟨#[41]⟩, .string ⟨#[59]⟩, .string ⟨#[44]⟩, .string ⟨#[46]⟩, .string ⟨#[61]⟩, .string ⟨#[60]⟩, .string ⟨#[43]⟩, .string ⟨#[45]⟩, .string ⟨#[42]⟩]) (.int .i64 1)).run Tryd.prog w = .ok (.string ⟨#[61, 61]⟩) w := by kernel_rfl
theorem mark_at2 (w : World) : (Instr.index 63 (.agg #[.string ⟨#[58, 58]⟩, .string ⟨#[61, 61]⟩, .string ⟨#[58]⟩, .string ⟨#[123]⟩, .string ⟨#[125]⟩, .string ⟨#[40]⟩, .string ⟨#[41]⟩, .string ⟨#[59]⟩, .string ⟨#[44]⟩, .string ⟨#[46]⟩, .string ⟨#[61]⟩, .string ⟨#[60]⟩, .string ⟨#[43]⟩, .string ⟨#[45]⟩, .string ⟨#[42]⟩]) (.int .i64 2)).run Tryd.prog w = .ok (.string ⟨#[58]⟩) w := by kernel_rfl
theorem mark_at3 (w : World) : (Instr.index 63 (.agg #[.string ⟨#[58, 58]⟩, .string ⟨#[61, 61]⟩, .string ⟨#[58]⟩, .string ⟨#[123]⟩, .string ⟨#[125]⟩, .string ⟨#[40]⟩, .string ⟨#[41]⟩, .string ⟨#[59]⟩, .string ⟨#[44]⟩, .string ⟨#[46]⟩, .string ⟨#[61]⟩, .string ⟨#[60]⟩, .string ⟨#[43]⟩, .string ⟨#[45]⟩, .string ⟨#[42]⟩]) (.int .i64 3)).run Tryd.prog w = .ok (.string ⟨#[123]⟩) w := by kernel_rfl
theorem mark_at4 (w : World) : (Instr.index 63 (.agg #[.string ⟨#[58, 58]⟩, .string ⟨#[61, 61]⟩, .string ⟨#[58]⟩, .string ⟨#[123]⟩, .string ⟨#[125]⟩, .string ⟨#[40]⟩, .string ⟨#[41]⟩, .string ⟨#[59]⟩, .string ⟨#[44]⟩, .string ⟨#[46]⟩, .string ⟨#[61]⟩, .string ⟨#[60]⟩, .string ⟨#[43]⟩, .string ⟨#[45]⟩, .string ⟨#[42]⟩]) (.int .i64 4)).run Tryd.prog w = .ok (.string ⟨#[125]⟩) w := by kernel_rfl
theorem mark_at5 (w : World) : (Instr.index 63 (.agg #[.string ⟨#[58, 58]⟩, .string ⟨#[61, 61]⟩, .string ⟨#[58]⟩, .string ⟨#[123]⟩, .string ⟨#[125]⟩, .string ⟨#[40]⟩, .string ⟨#[41]⟩, .string ⟨#[59]⟩, .string ⟨#[44]⟩, .string ⟨#[46]⟩, .string ⟨#[61]⟩, .string ⟨#[60]⟩, .string ⟨#[43]⟩, .string ⟨#[45]⟩, .string ⟨#[42]⟩]) (.int .i64 5)).run Tryd.prog w = .ok (.string ⟨#[40]⟩) w := by kernel_rfl
theorem mark_at6 (w : World) : (Instr.index 63 (.agg #[.string ⟨#[58, 58]⟩, .string ⟨#[61, 61]⟩, .string ⟨#[58]⟩, .string ⟨#[123]⟩, .string ⟨#[125]⟩, .string ⟨#[40]⟩, .string ⟨#[41]⟩, .string ⟨#[59]⟩, .string ⟨#[44]⟩, .string ⟨#[46]⟩, .string ⟨#[61]⟩, .string ⟨#[60]⟩, .string ⟨#[43]⟩, .string ⟨#[45]⟩, .string ⟨#[42]⟩]) (.int .i64 6)).run Tryd.prog w = .ok (.string ⟨#[41]⟩) w := by kernel_rfl
theorem mark_at7 (w : World) : (Instr.index 63 (.agg #[.string ⟨#[58, 58]⟩, .string ⟨#[61, 61]⟩, .string ⟨#[58]⟩, .string ⟨#[123]⟩, .string ⟨#[125]⟩, .string ⟨#[40]⟩, .string ⟨#[41]⟩, .string ⟨#[59]⟩, .string ⟨#[44]⟩, .string ⟨#[46]⟩, .string ⟨#[61]⟩, .string ⟨#[60]⟩, .string ⟨#[43]⟩, .string ⟨#[45]⟩, .string ⟨#[42]⟩]) (.int .i64 7)).run Tryd.prog w = .ok (.string ⟨#[59]⟩) w := by kernel_rfl
theorem mark_at8 (w : World) : (Instr.index 63 (.agg #[.string ⟨#[58, 58]⟩, .string ⟨#[61, 61]⟩, .string ⟨#[58]⟩, .string ⟨#[123]⟩, .string ⟨#[125]⟩, .string ⟨#[40]⟩, .string ⟨#[41]⟩, .string ⟨#[59]⟩, .string ⟨#[44]⟩, .string ⟨#[46]⟩, .string ⟨#[61]⟩, .string ⟨#[60]⟩, .string ⟨#[43]⟩, .string ⟨#[45]⟩, .string ⟨#[42]⟩]) (.int .i64 8)).run Tryd.prog w = .ok (.string ⟨#[44]⟩) w := by kernel_rfl
theorem mark_at9 (w : World) : (Instr.index 63 (.agg #[.string ⟨#[58, 58]⟩, .string ⟨#[61, 61]⟩, .string ⟨#[58]⟩, .string ⟨#[123]⟩, .string ⟨#[125]⟩, .string ⟨#[40]⟩, .string ⟨#[41]⟩, .string ⟨#[59]⟩, .string ⟨#[44]⟩, .string ⟨#[46]⟩, .string ⟨#[61]⟩, .string ⟨#[60]⟩, .string ⟨#[43]⟩, .string ⟨#[45]⟩, .string ⟨#[42]⟩]) (.int .i64 9)).run Tryd.prog w = .ok (.string ⟨#[46]⟩) w := by kernel_rfl
theorem mark_at10 (w : World) : (Instr.index 63 (.agg #[.string ⟨#[58, 58]⟩, .string ⟨#[61, 61]⟩, .string ⟨#[58]⟩, .string ⟨#[123]⟩, .string ⟨#[125]⟩, .string ⟨#[40]⟩, .string ⟨#[41]⟩, .string ⟨#[59]⟩, .string ⟨#[44]⟩, .string ⟨#[46]⟩, .string ⟨#[61]⟩, .string ⟨#[60]⟩, .string ⟨#[43]⟩, .string ⟨#[45]⟩, .string ⟨#[42]⟩]) (.int .i64 10)).run Tryd.prog w = .ok (.string ⟨#[61]⟩) w := by kernel_rfl
theorem mark_at11 (w : World) : (Instr.index 63 (.agg #[.string ⟨#[58, 58]⟩, .string ⟨#[61, 61]⟩, .string ⟨#[58]⟩, .string ⟨#[123]⟩, .string ⟨#[125]⟩, .string ⟨#[40]⟩, .string ⟨#[41]⟩, .string ⟨#[59]⟩, .string ⟨#[44]⟩, .string ⟨#[46]⟩, .string ⟨#[61]⟩, .string ⟨#[60]⟩, .string ⟨#[43]⟩, .string ⟨#[45]⟩, .string ⟨#[42]⟩]) (.int .i64 11)).run Tryd.prog w = .ok (.string ⟨#[60]⟩) w := by kernel_rfl
theorem mark_at12 (w : World) : (Instr.index 63 (.agg #[.string ⟨#[58, 58]⟩, .string ⟨#[61, 61]⟩, .string ⟨#[58]⟩, .string ⟨#[123]⟩, .string ⟨#[125]⟩, .string ⟨#[40]⟩, .string ⟨#[41]⟩, .string ⟨#[59]⟩, .string ⟨#[44]⟩, .string ⟨#[46]⟩, .string ⟨#[61]⟩, .string ⟨#[60]⟩, .string ⟨#[43]⟩, .string ⟨#[45]⟩, .string ⟨#[42]⟩]) (.int .i64 12)).run Tryd.prog w = .ok (.string ⟨#[43]⟩) w := by kernel_rfl
theorem mark_at13 (w : World) : (Instr.index 63 (.agg #[.string ⟨#[58, 58]⟩, .string ⟨#[61, 61]⟩, .string ⟨#[58]⟩, .string ⟨#[123]⟩, .string ⟨#[125]⟩, .string ⟨#[40]⟩, .string ⟨#[41]⟩, .string ⟨#[59]⟩, .string ⟨#[44]⟩, .string ⟨#[46]⟩, .string ⟨#[61]⟩, .string ⟨#[60]⟩, .string ⟨#[43]⟩, .string ⟨#[45]⟩, .string ⟨#[42]⟩]) (.int .i64 13)).run Tryd.prog w = .ok (.string ⟨#[45]⟩) w := by kernel_rfl
theorem mark_at14 (w : World) : (Instr.index 63 (.agg #[.string ⟨#[58, 58]⟩, .string ⟨#[61, 61]⟩, .string ⟨#[58]⟩, .string ⟨#[123]⟩, .string ⟨#[125]⟩, .string ⟨#[40]⟩, .string ⟨#[41]⟩, .string ⟨#[59]⟩, .string ⟨#[44]⟩, .string ⟨#[46]⟩, .string ⟨#[61]⟩, .string ⟨#[60]⟩, .string ⟨#[43]⟩, .string ⟨#[45]⟩, .string ⟨#[42]⟩]) (.int .i64 14)).run Tryd.prog w = .ok (.string ⟨#[42]⟩) w := by kernel_rfl
theorem pref_next {s : ByteArray} {k : Nat} (h : ∀ i, i < k → pref s i = false) (hk : pref s k = false) : ∀ i, i < k + 1 → pref s i = false := fun i hi => by
  rcases Nat.lt_or_ge i k with h1 | h1
  · exact h i h1
  · obtain rfl : i = k := by omega
    exact hk

set_option maxHeartbeats 8000000 in
set_option maxRecDepth 100000 in
theorem mark_any (s : ByteArray) (w : World) (hM : Mk w) : Calls Tryd.prog 39 #[.string s] w (MarkEnd s w) := by
  have hb : Below w.heap.size w (w.alloc (.cells #[.int .i64 0, .int .i64 0, .string ⟨#[]⟩, .int .i64 0] 30)) := (Below.refl _ _).alloc (Nat.le_refl _) _
  have hM1 := hM.below hb (Nat.le_refl _)
  have m0 := hM1.cell 0 (by decide)
  have m1 := hM1.cell 1 (by decide)
  have m2 := hM1.cell 2 (by decide)
  have m3 := hM1.cell 3 (by decide)
  have m4 := hM1.cell 4 (by decide)
  have m5 := hM1.cell 5 (by decide)
  have m6 := hM1.cell 6 (by decide)
  have m7 := hM1.cell 7 (by decide)
  have m8 := hM1.cell 8 (by decide)
  have m9 := hM1.cell 9 (by decide)
  have m10 := hM1.cell 10 (by decide)
  have m11 := hM1.cell 11 (by decide)
  have m12 := hM1.cell 12 (by decide)
  have m13 := hM1.cell 13 (by decide)
  have m14 := hM1.cell 14 (by decide)
  simp only [marksB, List.getElem_cons_zero, List.getElem_cons_succ] at m0 m1 m2 m3 m4 m5 m6 m7 m8 m9 m10 m11 m12 m13 m14
  have Hb := Lib.hid hb
  clear hb hM hM1
  have i0 := mark_at0
  have i1 := mark_at1
  have i2 := mark_at2
  have i3 := mark_at3
  have i4 := mark_at4
  have i5 := mark_at5
  have i6 := mark_at6
  have i7 := mark_at7
  have i8 := mark_at8
  have i9 := mark_at9
  have i10 := mark_at10
  have i11 := mark_at11
  have i12 := mark_at12
  have i13 := mark_at13
  have i14 := mark_at14
  go_enter Tryd.func39, Tryd.ntmps39
  go_wp2
  go_loopw [7] (fun i W => ∃ k : Nat, k ≤ 15 ∧ i = .int .i64 k ∧ (∀ i, i < k → pref s i = false) ∧ W = w.alloc (.cells #[.int .i64 0, .int .i64 0, .string ⟨#[]⟩, .int .i64 0] 30)) (fun i _ => 15 - (intOf i).toNat)
  case atStart => exact ⟨0, by decide, rfl, fun i hi => by omega, rfl⟩
  case round =>
    obtain ⟨k, hk, rfl, hpre, rfl⟩ := hrel
    by_cases hlt : k < 15
    · rcases (show k = 0 ∨ k = 1 ∨ k = 2 ∨ k = 3 ∨ k = 4 ∨ k = 5 ∨ k = 6 ∨ k = 7 ∨ k = 8 ∨ k = 9 ∨ k = 10 ∨ k = 11 ∨ k = 12 ∨ k = 13 ∨ k = 14 by omega) with hkJ | hkJ | hkJ | hkJ | hkJ | hkJ | hkJ | hkJ | hkJ | hkJ | hkJ | hkJ | hkJ | hkJ | hkJ
      · rw [hkJ] at hpre
        have hz : (k : Int) = 0 := by omega
        rw [hz]
        clear hz hkJ hlt hk
        cases hp : pref s 0 with
        | true =>
          have Hp := Lib.hid hp
          have Hpre := Lib.hid hpre
          clear hp hpre
          go_wp2_with (go_at_call 22; refine (hasPrefix_at s _ true (by exact Hp.out) _).mono ?_; rintro e w' ⟨rfl, rfl⟩)
          refine bodyPost_ret (v := .tuple #[.agg #[.int .i64 4, .int .i64 0, .string (marksB.getD 0 ⟨#[]⟩), .int .i64 0], .int .i64 0]) (by simp [results, Tryd.results39, go_sem, marksB]) rfl ?_
          exact ⟨by repeat (first | exact (Below.refl _ _).alloc (Nat.le_refl _) _ | refine Below.setCell ?_ (Nat.le_refl _) _), .inl ⟨0, by decide, Hpre.out, Hp.out, rfl⟩⟩
        | false =>
          have hpre2 := Lib.hid (pref_next (k := 0) hpre hp)
          have Hp := Lib.hid hp
          clear hp hpre
          go_wp2_with (go_at_call 22; refine (hasPrefix_at s _ false (by exact Hp.out) _).mono ?_; rintro e w' ⟨rfl, rfl⟩)
          go_roundw
          case rel => exact ⟨1, by decide, rfl, hpre2.out, by first | rfl | trivial⟩
          case measure => simp [intOf]
      · rw [hkJ] at hpre
        have hz : (k : Int) = 1 := by omega
        rw [hz]
        clear hz hkJ hlt hk
        cases hp : pref s 1 with
        | true =>
          have Hp := Lib.hid hp
          have Hpre := Lib.hid hpre
          clear hp hpre
          go_wp2_with (go_at_call 22; refine (hasPrefix_at s _ true (by exact Hp.out) _).mono ?_; rintro e w' ⟨rfl, rfl⟩)
          refine bodyPost_ret (v := .tuple #[.agg #[.int .i64 4, .int .i64 0, .string (marksB.getD 1 ⟨#[]⟩), .int .i64 0], .int .i64 0]) (by simp [results, Tryd.results39, go_sem, marksB]) rfl ?_
          exact ⟨by repeat (first | exact (Below.refl _ _).alloc (Nat.le_refl _) _ | refine Below.setCell ?_ (Nat.le_refl _) _), .inl ⟨1, by decide, Hpre.out, Hp.out, rfl⟩⟩
        | false =>
          have hpre2 := Lib.hid (pref_next (k := 1) hpre hp)
          have Hp := Lib.hid hp
          clear hp hpre
          go_wp2_with (go_at_call 22; refine (hasPrefix_at s _ false (by exact Hp.out) _).mono ?_; rintro e w' ⟨rfl, rfl⟩)
          go_roundw
          case rel => exact ⟨2, by decide, rfl, hpre2.out, by first | rfl | trivial⟩
          case measure => simp [intOf]
      · rw [hkJ] at hpre
        have hz : (k : Int) = 2 := by omega
        rw [hz]
        clear hz hkJ hlt hk
        cases hp : pref s 2 with
        | true =>
          have Hp := Lib.hid hp
          have Hpre := Lib.hid hpre
          clear hp hpre
          go_wp2_with (go_at_call 22; refine (hasPrefix_at s _ true (by exact Hp.out) _).mono ?_; rintro e w' ⟨rfl, rfl⟩)
          refine bodyPost_ret (v := .tuple #[.agg #[.int .i64 4, .int .i64 0, .string (marksB.getD 2 ⟨#[]⟩), .int .i64 0], .int .i64 0]) (by simp [results, Tryd.results39, go_sem, marksB]) rfl ?_
          exact ⟨by repeat (first | exact (Below.refl _ _).alloc (Nat.le_refl _) _ | refine Below.setCell ?_ (Nat.le_refl _) _), .inl ⟨2, by decide, Hpre.out, Hp.out, rfl⟩⟩
        | false =>
          have hpre2 := Lib.hid (pref_next (k := 2) hpre hp)
          have Hp := Lib.hid hp
          clear hp hpre
          go_wp2_with (go_at_call 22; refine (hasPrefix_at s _ false (by exact Hp.out) _).mono ?_; rintro e w' ⟨rfl, rfl⟩)
          go_roundw
          case rel => exact ⟨3, by decide, rfl, hpre2.out, by first | rfl | trivial⟩
          case measure => simp [intOf]
      · rw [hkJ] at hpre
        have hz : (k : Int) = 3 := by omega
        rw [hz]
        clear hz hkJ hlt hk
        cases hp : pref s 3 with
        | true =>
          have Hp := Lib.hid hp
          have Hpre := Lib.hid hpre
          clear hp hpre
          go_wp2_with (go_at_call 22; refine (hasPrefix_at s _ true (by exact Hp.out) _).mono ?_; rintro e w' ⟨rfl, rfl⟩)
          refine bodyPost_ret (v := .tuple #[.agg #[.int .i64 4, .int .i64 0, .string (marksB.getD 3 ⟨#[]⟩), .int .i64 0], .int .i64 0]) (by simp [results, Tryd.results39, go_sem, marksB]) rfl ?_
          exact ⟨by repeat (first | exact (Below.refl _ _).alloc (Nat.le_refl _) _ | refine Below.setCell ?_ (Nat.le_refl _) _), .inl ⟨3, by decide, Hpre.out, Hp.out, rfl⟩⟩
        | false =>
          have hpre2 := Lib.hid (pref_next (k := 3) hpre hp)
          have Hp := Lib.hid hp
          clear hp hpre
          go_wp2_with (go_at_call 22; refine (hasPrefix_at s _ false (by exact Hp.out) _).mono ?_; rintro e w' ⟨rfl, rfl⟩)
          go_roundw
          case rel => exact ⟨4, by decide, rfl, hpre2.out, by first | rfl | trivial⟩
          case measure => simp [intOf]
      · rw [hkJ] at hpre
        have hz : (k : Int) = 4 := by omega
        rw [hz]
        clear hz hkJ hlt hk
        cases hp : pref s 4 with
        | true =>
          have Hp := Lib.hid hp
          have Hpre := Lib.hid hpre
          clear hp hpre
          go_wp2_with (go_at_call 22; refine (hasPrefix_at s _ true (by exact Hp.out) _).mono ?_; rintro e w' ⟨rfl, rfl⟩)
          refine bodyPost_ret (v := .tuple #[.agg #[.int .i64 4, .int .i64 0, .string (marksB.getD 4 ⟨#[]⟩), .int .i64 0], .int .i64 0]) (by simp [results, Tryd.results39, go_sem, marksB]) rfl ?_
          exact ⟨by repeat (first | exact (Below.refl _ _).alloc (Nat.le_refl _) _ | refine Below.setCell ?_ (Nat.le_refl _) _), .inl ⟨4, by decide, Hpre.out, Hp.out, rfl⟩⟩
        | false =>
          have hpre2 := Lib.hid (pref_next (k := 4) hpre hp)
          have Hp := Lib.hid hp
          clear hp hpre
          go_wp2_with (go_at_call 22; refine (hasPrefix_at s _ false (by exact Hp.out) _).mono ?_; rintro e w' ⟨rfl, rfl⟩)
          go_roundw
          case rel => exact ⟨5, by decide, rfl, hpre2.out, by first | rfl | trivial⟩
          case measure => simp [intOf]
      · rw [hkJ] at hpre
        have hz : (k : Int) = 5 := by omega
        rw [hz]
        clear hz hkJ hlt hk
        cases hp : pref s 5 with
        | true =>
          have Hp := Lib.hid hp
          have Hpre := Lib.hid hpre
          clear hp hpre
          go_wp2_with (go_at_call 22; refine (hasPrefix_at s _ true (by exact Hp.out) _).mono ?_; rintro e w' ⟨rfl, rfl⟩)
          refine bodyPost_ret (v := .tuple #[.agg #[.int .i64 4, .int .i64 0, .string (marksB.getD 5 ⟨#[]⟩), .int .i64 0], .int .i64 0]) (by simp [results, Tryd.results39, go_sem, marksB]) rfl ?_
          exact ⟨by repeat (first | exact (Below.refl _ _).alloc (Nat.le_refl _) _ | refine Below.setCell ?_ (Nat.le_refl _) _), .inl ⟨5, by decide, Hpre.out, Hp.out, rfl⟩⟩
        | false =>
          have hpre2 := Lib.hid (pref_next (k := 5) hpre hp)
          have Hp := Lib.hid hp
          clear hp hpre
          go_wp2_with (go_at_call 22; refine (hasPrefix_at s _ false (by exact Hp.out) _).mono ?_; rintro e w' ⟨rfl, rfl⟩)
          go_roundw
          case rel => exact ⟨6, by decide, rfl, hpre2.out, by first | rfl | trivial⟩
          case measure => simp [intOf]
      · rw [hkJ] at hpre
        have hz : (k : Int) = 6 := by omega
        rw [hz]
        clear hz hkJ hlt hk
        cases hp : pref s 6 with
        | true =>
          have Hp := Lib.hid hp
          have Hpre := Lib.hid hpre
          clear hp hpre
          go_wp2_with (go_at_call 22; refine (hasPrefix_at s _ true (by exact Hp.out) _).mono ?_; rintro e w' ⟨rfl, rfl⟩)
          refine bodyPost_ret (v := .tuple #[.agg #[.int .i64 4, .int .i64 0, .string (marksB.getD 6 ⟨#[]⟩), .int .i64 0], .int .i64 0]) (by simp [results, Tryd.results39, go_sem, marksB]) rfl ?_
          exact ⟨by repeat (first | exact (Below.refl _ _).alloc (Nat.le_refl _) _ | refine Below.setCell ?_ (Nat.le_refl _) _), .inl ⟨6, by decide, Hpre.out, Hp.out, rfl⟩⟩
        | false =>
          have hpre2 := Lib.hid (pref_next (k := 6) hpre hp)
          have Hp := Lib.hid hp
          clear hp hpre
          go_wp2_with (go_at_call 22; refine (hasPrefix_at s _ false (by exact Hp.out) _).mono ?_; rintro e w' ⟨rfl, rfl⟩)
          go_roundw
          case rel => exact ⟨7, by decide, rfl, hpre2.out, by first | rfl | trivial⟩
          case measure => simp [intOf]
      · rw [hkJ] at hpre
        have hz : (k : Int) = 7 := by omega
        rw [hz]
        clear hz hkJ hlt hk
        cases hp : pref s 7 with
        | true =>
          have Hp := Lib.hid hp
          have Hpre := Lib.hid hpre
          clear hp hpre
          go_wp2_with (go_at_call 22; refine (hasPrefix_at s _ true (by exact Hp.out) _).mono ?_; rintro e w' ⟨rfl, rfl⟩)
          refine bodyPost_ret (v := .tuple #[.agg #[.int .i64 4, .int .i64 0, .string (marksB.getD 7 ⟨#[]⟩), .int .i64 0], .int .i64 0]) (by simp [results, Tryd.results39, go_sem, marksB]) rfl ?_
          exact ⟨by repeat (first | exact (Below.refl _ _).alloc (Nat.le_refl _) _ | refine Below.setCell ?_ (Nat.le_refl _) _), .inl ⟨7, by decide, Hpre.out, Hp.out, rfl⟩⟩
        | false =>
          have hpre2 := Lib.hid (pref_next (k := 7) hpre hp)
          have Hp := Lib.hid hp
          clear hp hpre
          go_wp2_with (go_at_call 22; refine (hasPrefix_at s _ false (by exact Hp.out) _).mono ?_; rintro e w' ⟨rfl, rfl⟩)
          go_roundw
          case rel => exact ⟨8, by decide, rfl, hpre2.out, by first | rfl | trivial⟩
          case measure => simp [intOf]
      · rw [hkJ] at hpre
        have hz : (k : Int) = 8 := by omega
        rw [hz]
        clear hz hkJ hlt hk
        cases hp : pref s 8 with
        | true =>
          have Hp := Lib.hid hp
          have Hpre := Lib.hid hpre
          clear hp hpre
          go_wp2_with (go_at_call 22; refine (hasPrefix_at s _ true (by exact Hp.out) _).mono ?_; rintro e w' ⟨rfl, rfl⟩)
          refine bodyPost_ret (v := .tuple #[.agg #[.int .i64 4, .int .i64 0, .string (marksB.getD 8 ⟨#[]⟩), .int .i64 0], .int .i64 0]) (by simp [results, Tryd.results39, go_sem, marksB]) rfl ?_
          exact ⟨by repeat (first | exact (Below.refl _ _).alloc (Nat.le_refl _) _ | refine Below.setCell ?_ (Nat.le_refl _) _), .inl ⟨8, by decide, Hpre.out, Hp.out, rfl⟩⟩
        | false =>
          have hpre2 := Lib.hid (pref_next (k := 8) hpre hp)
          have Hp := Lib.hid hp
          clear hp hpre
          go_wp2_with (go_at_call 22; refine (hasPrefix_at s _ false (by exact Hp.out) _).mono ?_; rintro e w' ⟨rfl, rfl⟩)
          go_roundw
          case rel => exact ⟨9, by decide, rfl, hpre2.out, by first | rfl | trivial⟩
          case measure => simp [intOf]
      · rw [hkJ] at hpre
        have hz : (k : Int) = 9 := by omega
        rw [hz]
        clear hz hkJ hlt hk
        cases hp : pref s 9 with
        | true =>
          have Hp := Lib.hid hp
          have Hpre := Lib.hid hpre
          clear hp hpre
          go_wp2_with (go_at_call 22; refine (hasPrefix_at s _ true (by exact Hp.out) _).mono ?_; rintro e w' ⟨rfl, rfl⟩)
          refine bodyPost_ret (v := .tuple #[.agg #[.int .i64 4, .int .i64 0, .string (marksB.getD 9 ⟨#[]⟩), .int .i64 0], .int .i64 0]) (by simp [results, Tryd.results39, go_sem, marksB]) rfl ?_
          exact ⟨by repeat (first | exact (Below.refl _ _).alloc (Nat.le_refl _) _ | refine Below.setCell ?_ (Nat.le_refl _) _), .inl ⟨9, by decide, Hpre.out, Hp.out, rfl⟩⟩
        | false =>
          have hpre2 := Lib.hid (pref_next (k := 9) hpre hp)
          have Hp := Lib.hid hp
          clear hp hpre
          go_wp2_with (go_at_call 22; refine (hasPrefix_at s _ false (by exact Hp.out) _).mono ?_; rintro e w' ⟨rfl, rfl⟩)
          go_roundw
          case rel => exact ⟨10, by decide, rfl, hpre2.out, by first | rfl | trivial⟩
          case measure => simp [intOf]
      · rw [hkJ] at hpre
        have hz : (k : Int) = 10 := by omega
        rw [hz]
        clear hz hkJ hlt hk
        cases hp : pref s 10 with
        | true =>
          have Hp := Lib.hid hp
          have Hpre := Lib.hid hpre
          clear hp hpre
          go_wp2_with (go_at_call 22; refine (hasPrefix_at s _ true (by exact Hp.out) _).mono ?_; rintro e w' ⟨rfl, rfl⟩)
          refine bodyPost_ret (v := .tuple #[.agg #[.int .i64 4, .int .i64 0, .string (marksB.getD 10 ⟨#[]⟩), .int .i64 0], .int .i64 0]) (by simp [results, Tryd.results39, go_sem, marksB]) rfl ?_
          exact ⟨by repeat (first | exact (Below.refl _ _).alloc (Nat.le_refl _) _ | refine Below.setCell ?_ (Nat.le_refl _) _), .inl ⟨10, by decide, Hpre.out, Hp.out, rfl⟩⟩
        | false =>
          have hpre2 := Lib.hid (pref_next (k := 10) hpre hp)
          have Hp := Lib.hid hp
          clear hp hpre
          go_wp2_with (go_at_call 22; refine (hasPrefix_at s _ false (by exact Hp.out) _).mono ?_; rintro e w' ⟨rfl, rfl⟩)
          go_roundw
          case rel => exact ⟨11, by decide, rfl, hpre2.out, by first | rfl | trivial⟩
          case measure => simp [intOf]
      · rw [hkJ] at hpre
        have hz : (k : Int) = 11 := by omega
        rw [hz]
        clear hz hkJ hlt hk
        cases hp : pref s 11 with
        | true =>
          have Hp := Lib.hid hp
          have Hpre := Lib.hid hpre
          clear hp hpre
          go_wp2_with (go_at_call 22; refine (hasPrefix_at s _ true (by exact Hp.out) _).mono ?_; rintro e w' ⟨rfl, rfl⟩)
          refine bodyPost_ret (v := .tuple #[.agg #[.int .i64 4, .int .i64 0, .string (marksB.getD 11 ⟨#[]⟩), .int .i64 0], .int .i64 0]) (by simp [results, Tryd.results39, go_sem, marksB]) rfl ?_
          exact ⟨by repeat (first | exact (Below.refl _ _).alloc (Nat.le_refl _) _ | refine Below.setCell ?_ (Nat.le_refl _) _), .inl ⟨11, by decide, Hpre.out, Hp.out, rfl⟩⟩
        | false =>
          have hpre2 := Lib.hid (pref_next (k := 11) hpre hp)
          have Hp := Lib.hid hp
          clear hp hpre
          go_wp2_with (go_at_call 22; refine (hasPrefix_at s _ false (by exact Hp.out) _).mono ?_; rintro e w' ⟨rfl, rfl⟩)
          go_roundw
          case rel => exact ⟨12, by decide, rfl, hpre2.out, by first | rfl | trivial⟩
          case measure => simp [intOf]
      · rw [hkJ] at hpre
        have hz : (k : Int) = 12 := by omega
        rw [hz]
        clear hz hkJ hlt hk
        cases hp : pref s 12 with
        | true =>
          have Hp := Lib.hid hp
          have Hpre := Lib.hid hpre
          clear hp hpre
          go_wp2_with (go_at_call 22; refine (hasPrefix_at s _ true (by exact Hp.out) _).mono ?_; rintro e w' ⟨rfl, rfl⟩)
          refine bodyPost_ret (v := .tuple #[.agg #[.int .i64 4, .int .i64 0, .string (marksB.getD 12 ⟨#[]⟩), .int .i64 0], .int .i64 0]) (by simp [results, Tryd.results39, go_sem, marksB]) rfl ?_
          exact ⟨by repeat (first | exact (Below.refl _ _).alloc (Nat.le_refl _) _ | refine Below.setCell ?_ (Nat.le_refl _) _), .inl ⟨12, by decide, Hpre.out, Hp.out, rfl⟩⟩
        | false =>
          have hpre2 := Lib.hid (pref_next (k := 12) hpre hp)
          have Hp := Lib.hid hp
          clear hp hpre
          go_wp2_with (go_at_call 22; refine (hasPrefix_at s _ false (by exact Hp.out) _).mono ?_; rintro e w' ⟨rfl, rfl⟩)
          go_roundw
          case rel => exact ⟨13, by decide, rfl, hpre2.out, by first | rfl | trivial⟩
          case measure => simp [intOf]
      · rw [hkJ] at hpre
        have hz : (k : Int) = 13 := by omega
        rw [hz]
        clear hz hkJ hlt hk
        cases hp : pref s 13 with
        | true =>
          have Hp := Lib.hid hp
          have Hpre := Lib.hid hpre
          clear hp hpre
          go_wp2_with (go_at_call 22; refine (hasPrefix_at s _ true (by exact Hp.out) _).mono ?_; rintro e w' ⟨rfl, rfl⟩)
          refine bodyPost_ret (v := .tuple #[.agg #[.int .i64 4, .int .i64 0, .string (marksB.getD 13 ⟨#[]⟩), .int .i64 0], .int .i64 0]) (by simp [results, Tryd.results39, go_sem, marksB]) rfl ?_
          exact ⟨by repeat (first | exact (Below.refl _ _).alloc (Nat.le_refl _) _ | refine Below.setCell ?_ (Nat.le_refl _) _), .inl ⟨13, by decide, Hpre.out, Hp.out, rfl⟩⟩
        | false =>
          have hpre2 := Lib.hid (pref_next (k := 13) hpre hp)
          have Hp := Lib.hid hp
          clear hp hpre
          go_wp2_with (go_at_call 22; refine (hasPrefix_at s _ false (by exact Hp.out) _).mono ?_; rintro e w' ⟨rfl, rfl⟩)
          go_roundw
          case rel => exact ⟨14, by decide, rfl, hpre2.out, by first | rfl | trivial⟩
          case measure => simp [intOf]
      · rw [hkJ] at hpre
        have hz : (k : Int) = 14 := by omega
        rw [hz]
        clear hz hkJ hlt hk
        cases hp : pref s 14 with
        | true =>
          have Hp := Lib.hid hp
          have Hpre := Lib.hid hpre
          clear hp hpre
          go_wp2_with (go_at_call 22; refine (hasPrefix_at s _ true (by exact Hp.out) _).mono ?_; rintro e w' ⟨rfl, rfl⟩)
          refine bodyPost_ret (v := .tuple #[.agg #[.int .i64 4, .int .i64 0, .string (marksB.getD 14 ⟨#[]⟩), .int .i64 0], .int .i64 0]) (by simp [results, Tryd.results39, go_sem, marksB]) rfl ?_
          exact ⟨by repeat (first | exact (Below.refl _ _).alloc (Nat.le_refl _) _ | refine Below.setCell ?_ (Nat.le_refl _) _), .inl ⟨14, by decide, Hpre.out, Hp.out, rfl⟩⟩
        | false =>
          have hpre2 := Lib.hid (pref_next (k := 14) hpre hp)
          have Hp := Lib.hid hp
          clear hp hpre
          go_wp2_with (go_at_call 22; refine (hasPrefix_at s _ false (by exact Hp.out) _).mono ?_; rintro e w' ⟨rfl, rfl⟩)
          go_roundw
          case rel => exact ⟨15, by decide, rfl, hpre2.out, by first | rfl | trivial⟩
          case measure => simp [intOf]
    · obtain rfl : k = 15 := by omega
      have Hpre := Lib.hid hpre
      clear hpre
      go_wp2
      refine bodyPost_ret (v := .tuple #[.agg #[.int .i64 0, .int .i64 0, .string ⟨#[]⟩, .int .i64 0], .int .i64 2]) (by simp [results, Tryd.results39, go_sem]) rfl ?_
      exact ⟨by repeat (first | exact (Below.refl _ _).alloc (Nat.le_refl _) _ | refine Below.setCell ?_ (Nat.le_refl _) _), .inr ⟨Hpre.out, rfl⟩⟩
end Go.Proofs.YtmnfonhfbolnkaaDoor
