/-
  PartitionOf: the walk of the law. New and Of return what the definition says, with its errors.
-/
import Derived.Test.YtahfpkojkcnhiaaPROf
namespace Go.Proofs.Ytahfpkojkcnhiaa
open Go.RowKit
set_option linter.unusedVariables false

/-- Of and New, as the definition has them: the list and the error. -/
def ofS (n : Int) (ps : List (Int × Int)) : List Int × Int :=
  if n < 0 ∨ 8192 < n then ([], 4) else if inB n.toNat ps then (joinAll (iota n.toNat) ps, 0) else ([], 4)
def newS (n : Int) : List Int × Int := if n < 0 ∨ 8192 < n then ([], 4) else (iota n.toNat, 0)
theorem ofS_bad {n : Int} {ps : List (Int × Int)} (h : n < 0 ∨ 8192 < n) : ofS n ps = ([], 4) := if_pos h
theorem newS_bad {n : Int} (h : n < 0 ∨ 8192 < n) : newS n = ([], 4) := if_pos h
theorem newS_good (n : Nat) (h : n ≤ 8192) : newS n = (iota n, 0) := by unfold newS; rw [if_neg (by omega), Int.toNat_natCast]
theorem ofS_good (n : Nat) (ps : List (Int × Int)) (h : n ≤ 8192) (hi : inB n ps = true) : ofS n ps = (joinAll (iota n) ps, 0) := by
  unfold ofS; rw [if_neg (by omega), Int.toNat_natCast, if_pos hi]
theorem ofS_out (n : Nat) (ps : List (Int × Int)) (h : n ≤ 8192) (hi : inB n ps = false) : ofS n ps = ([], 4) := by
  unfold ofS; rw [if_neg (by omega), Int.toNat_natCast, if_neg (by simp [hi])]
theorem length_ofS (n : Int) (ps : List (Int × Int)) : (ofS n ps).1.length ≤ 8192 := by
  unfold ofS
  split
  · simp
  · split
    · simp only [length_joinAll, length_iota]; omega
    · simp
theorem length_newS (n : Int) : (newS n).1.length ≤ 8192 := by
  unfold newS
  split
  · simp
  · simp only [length_iota]; omega

theorem of_any (n : Int) (a : Option Addr) (c : Nat) (ps : List (Int × Int)) (w : World) (hps : ps.length ≤ maxLen) (hp : PairsIn w.heap.size w a ps) :
    Calls Try.prog 19 #[.int .i64 n, .slice a ps.length c] w fun e w' => ∃ v, e = .returned (.tuple #[v, .int .i64 (ofS n ps).2]) ∧ Own w' w.heap.size v (ofS n ps).1 ∧ Below w.heap.size w w' := by
  by_cases h : n < 0 ∨ 8192 < n
  · refine (of_bad n a ps.length c w h).mono ?_
    rintro e w' ⟨rfl, rfl⟩
    exact ⟨_, by rw [ofS_bad h], by rw [ofS_bad h]; exact Own.nil _ _, Below.refl _ _⟩
  · obtain ⟨n, rfl⟩ : ∃ m : Nat, n = m := ⟨n.toNat, by omega⟩
    have hn : n ≤ 8192 := by omega
    refine (of_good n a c ps w hn hps hp).mono ?_
    rintro e w' ⟨hb, ⟨hi, g, rfl, hr⟩ | ⟨hi, rfl⟩⟩
    · have hl : (joinAll (iota n) ps).length = n := by rw [length_joinAll, length_iota]
      refine ⟨_, by rw [ofS_good n ps hn hi], ?_, hb⟩
      rw [ofS_good n ps hn hi]
      have := hr.own
      rw [hl] at this
      exact this
    · exact ⟨_, by rw [ofS_out n ps hn hi], by rw [ofS_out n ps hn hi]; exact Own.nil _ _, hb⟩

theorem rof_any (n : Int) (a : Option Addr) (c : Nat) (ps : List (Int × Int)) (w : World) (hps : ps.length ≤ maxLen) (hp : PairsIn w.heap.size w a ps) :
    Calls Try.prog 20 #[.int .i64 n, .slice a ps.length c] w fun e w' => ∃ v, e = .returned (.tuple #[v, .int .i64 (ofS n ps).2]) ∧ Own w' w.heap.size v (ofS n ps).1 ∧ Below w.heap.size w w' := by
  by_cases h : n < 0 ∨ 8192 < n
  · refine (rof_bad n a ps.length c w h).mono ?_
    rintro e w' ⟨rfl, rfl⟩
    exact ⟨_, by rw [ofS_bad h], by rw [ofS_bad h]; exact Own.nil _ _, Below.refl _ _⟩
  · obtain ⟨n, rfl⟩ : ∃ m : Nat, n = m := ⟨n.toNat, by omega⟩
    have hn : n ≤ 8192 := by omega
    refine (rof_good n a c ps w hn hps hp).mono ?_
    rintro e w' ⟨hb, ⟨hi, v, rfl, hr⟩ | ⟨hi, rfl⟩⟩
    · exact ⟨_, by rw [ofS_good n ps hn hi], by rw [ofS_good n ps hn hi]; exact hr, hb⟩
    · exact ⟨_, by rw [ofS_out n ps hn hi], by rw [ofS_out n ps hn hi]; exact Own.nil _ _, hb⟩

theorem new_any (n : Int) (w : World) :
    Calls Try.prog 21 #[.int .i64 n] w fun e w' => ∃ v, e = .returned (.tuple #[v, .int .i64 (newS n).2]) ∧ Own w' w.heap.size v (newS n).1 ∧ Below w.heap.size w w' := by
  by_cases h : n < 0 ∨ 8192 < n
  · refine (new_bad n w h).mono ?_
    rintro e w' ⟨rfl, rfl⟩
    exact ⟨_, by rw [newS_bad h], by rw [newS_bad h]; exact Own.nil _ _, Below.refl _ _⟩
  · obtain ⟨n, rfl⟩ : ∃ m : Nat, n = m := ⟨n.toNat, by omega⟩
    have hn : n ≤ 8192 := by omega
    refine (new_good n w hn).mono ?_
    rintro e w' ⟨rfl, hr, hb⟩
    refine ⟨_, by rw [newS_good n hn], ?_, hb⟩
    rw [newS_good n hn]
    have := hr.own
    rw [length_iota] at this
    exact this
theorem rnew_any (n : Int) (w : World) :
    Calls Try.prog 22 #[.int .i64 n] w fun e w' => ∃ v, e = .returned (.tuple #[v, .int .i64 (newS n).2]) ∧ Own w' w.heap.size v (newS n).1 ∧ Below w.heap.size w w' := by
  by_cases h : n < 0 ∨ 8192 < n
  · refine (rnew_bad n w h).mono ?_
    rintro e w' ⟨rfl, rfl⟩
    exact ⟨_, by rw [newS_bad h], by rw [newS_bad h]; exact Own.nil _ _, Below.refl _ _⟩
  · obtain ⟨n, rfl⟩ : ∃ m : Nat, n = m := ⟨n.toNat, by omega⟩
    have hn : n ≤ 8192 := by omega
    refine (rnew_good n w hn).mono ?_
    rintro e w' ⟨v, rfl, hr, hb⟩
    exact ⟨_, by rw [newS_good n hn], by rw [newS_good n hn]; exact hr, hb⟩

theorem PairsIn.below {w w' : World} {a : Option Addr} {ps : List (Int × Int)} {B B' : Nat} (h : PairsIn B w a ps) (hb : Below B' w w') (hB : B ≤ B') (hs : B ≤ w'.heap.size) : PairsIn w'.heap.size w' a ps := fun h0 => by
  obtain ⟨b, off, rfl, hbB, hc⟩ := h h0
  exact ⟨b, off, rfl, by omega, fun i hi => ⟨(hb.cell (p := ⟨b, off + i * 2, none⟩) (by show b < _; omega)).trans (hc i hi).1, (hb.cell (p := ⟨b, off + i * 2 + 1, none⟩) (by show b < _; omega)).trans (hc i hi).2⟩⟩

set_option maxHeartbeats 1600000 in
theorem lawOf_any (n : Int) (a : Option Addr) (c : Nat) (ps : List (Int × Int)) (w : World) (hwf : (Lit.int .i64 n).wf = true) (hps : ps.length ≤ maxLen) (hp : PairsIn w.heap.size w a ps) :
    Calls Try.prog 4 #[.int .i64 n, .slice a ps.length c] w fun e w' => e = .returned (.bool true) ∧ Below w.heap.size w w' := by
  have hps' := hps
  unfold maxLen at hps'
  clear hwf
  have Hp := Lib.hid hp
  clear hp
  have Lo := Lib.hid (show (ofS n ps).1.length ≤ maxLen by have := length_ofS n ps; unfold maxLen; omega)
  have Ln := Lib.hid (show (newS n).1.length ≤ maxLen by have := length_newS n; unfold maxLen; omega)
  by_cases hbig : 300 < ps.length
  · go_enter Try.func4, Try.ntmps4
    go_wp2_with (go_at_call 11; refine (awake_any _).mono ?_; rintro e w' ⟨rfl, hb⟩)
    go_ret
    exact ⟨rfl, hb⟩
  · go_enter Try.func4, Try.ntmps4
    go_wp2_with fail
    refine (of_any n a c ps w hps Hp.out).mono ?_
    rintro e w1 ⟨v1, rfl, ho1, hb1⟩
    obtain ⟨a1, c1, rfl, hi1⟩ := ho1.shape
    have Hi1 := Lib.hid hi1
    have Hb1 := Lib.hid hb1
    have Hp1 := Lib.hid (Hp.out.below hb1 (Nat.le_refl _) hb1.size)
    clear ho1 hi1 hb1
    go_wp2_with fail
    refine (rof_any n a c ps w1 hps Hp1.out).mono ?_
    rintro e w2 ⟨v2, rfl, ho2, hb2⟩
    obtain ⟨a2, c2, rfl, hi2⟩ := ho2.shape
    have Hi2 := Lib.hid hi2
    have Hi1b := Lib.hid (Hi1.out.below hb2 (Nat.le_refl _))
    have Hb2 := Lib.hid (Hb1.out.trans (hb2.mono Hb1.out.size))
    clear ho2 hi2 hb2
    go_wp2_with fail
    refine (new_any n w2).mono ?_
    rintro e w3 ⟨v3, rfl, ho3, hb3⟩
    obtain ⟨a3, c3, rfl, hi3⟩ := ho3.shape
    have Hi3 := Lib.hid hi3
    have Hi1c := Lib.hid (Hi1b.out.below hb3 (Nat.le_refl _))
    have Hi2c := Lib.hid (Hi2.out.below hb3 (Nat.le_refl _))
    have Hb3 := Lib.hid (Hb2.out.trans (hb3.mono Hb2.out.size))
    clear ho3 hi3 hb3
    go_wp2_with fail
    refine (rnew_any n w3).mono ?_
    rintro e w4 ⟨v4, rfl, ho4, hb4⟩
    obtain ⟨a4, c4, rfl, hi4⟩ := ho4.shape
    have Hi4 := Lib.hid hi4
    have Hi1d := Lib.hid (Hi1c.out.below hb4 (Nat.le_refl _))
    have Hi2d := Lib.hid (Hi2c.out.below hb4 (Nat.le_refl _))
    have Hi3d := Lib.hid (Hi3.out.below hb4 (Nat.le_refl _))
    have Hb4 := Lib.hid (Hb3.out.trans (hb4.mono Hb3.out.size))
    clear ho4 hi4 hb4
    go_wp2_with fail
    refine (requal_any a1 c1 _ a2 c2 _ w4 Lo.out Hi1d.out Lo.out Hi2d.out).mono ?_
    rintro e w5 ⟨rfl, n5, rfl⟩
    go_wp2_with fail
    refine (requal_any a3 c3 _ a4 c4 _ _ Ln.out (Hi3d.out.drewN _) Ln.out (Hi4.out.drewN _)).mono ?_
    rintro e w5 ⟨rfl, n6, rfl⟩
    go_wp2_with fail
    refine (awake_any _).mono ?_
    rintro e w6 ⟨rfl, hb6⟩
    go_wp2_with fail
    go_ret
    exact ⟨rfl, Hb4.out.trans ((Drawn.below ⟨_, rfl⟩ _).trans (hb6.mono Hb4.out.size))⟩
end Go.Proofs.Ytahfpkojkcnhiaa
