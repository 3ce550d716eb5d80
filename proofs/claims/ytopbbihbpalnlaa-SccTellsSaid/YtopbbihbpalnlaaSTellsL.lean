/-
  SccTells: the walk of the law.
-/
import Derived.Test.YtopbbihbpalnlaaSAwake
import Derived.Test.YtopbbihbpalnlaaSTellsP
namespace Go.Proofs.Ytopbbihbpalnlaa
open Go.RowKit Go.Shelf Go.WideShapes
set_option linter.unusedVariables false
def smallB (N : Int) (n : Nat) : Bool := decide (N ≤ 40) && decide (n ≤ 200)
theorem small_any (N : Int) (a : Option Addr) (n c : Nat) (w : World) : Calls Try.prog 9 #[.agg #[.int .i64 N, .slice a n c]] w fun e w' => e = .returned (.bool (smallB N n)) ∧ Below w.heap.size w w' := by
  have Hb0 := Lib.hid ((Below.refl w.heap.size w).alloc (Nat.le_refl _) (Obj.cells #[Value.int .i64 N, Value.slice a n c] 24))
  by_cases h1 : N ≤ 40
  · by_cases h2 : n ≤ 200
    · have e1 : decide (N ≤ 40) = true := decide_eq_true h1
      have e2 : decide ((n : Int) ≤ 200) = true := by rw [decide_eq_true_iff]; omega
      have Hs : Hid (smallB N n = true) := by show _ = _; unfold smallB; rw [e1, decide_eq_true h2]; rfl
      go_enter Try.func9, Try.ntmps9
      go_wp2
      go_ret
      exact ⟨by rw [Hs.out]; rfl, Hb0.out⟩
    · have e1 : decide (N ≤ 40) = true := decide_eq_true h1
      have e2 : decide ((n : Int) ≤ 200) = false := by rw [decide_eq_false_iff_not]; omega
      have Hs : Hid (smallB N n = false) := by show _ = _; unfold smallB; rw [e1, decide_eq_false h2]; rfl
      go_enter Try.func9, Try.ntmps9
      go_wp2
      go_ret
      exact ⟨by rw [Hs.out]; rfl, Hb0.out⟩
  · have e1 : decide (N ≤ 40) = false := decide_eq_false h1
    have Hs : Hid (smallB N n = false) := by show _ = _; unfold smallB; rw [e1]; rfl
    go_enter Try.func9, Try.ntmps9
    go_wp2
    go_ret
    exact ⟨by rw [Hs.out]; rfl, Hb0.out⟩
set_option maxHeartbeats 8000000 in
set_option maxRecDepth 100000 in
theorem tells_row (N : Int) (a : Option Addr) (c : Nat) (ps : List (Int × Int)) (w : World) (hE : Edg w a c ps) :
    Calls Try.prog 3 #[.agg #[.int .i64 N, .slice a ps.length c]] w fun e w' => e = .returned (.bool true) ∧ Below w.heap.size w w' := by
  have hcap : ps.length ≤ maxLen := by have := hE.cap; have := hE.max; omega
  obtain ⟨n, hl⟩ : ∃ n, ps.length = n := ⟨_, rfl⟩
  rw [hl] at hcap ⊢
  obtain ⟨k, hk⟩ : ∃ k, gchk N ps = k := ⟨_, rfl⟩
  obtain ⟨w0, hw0⟩ : ∃ w0, w.alloc (Obj.cells #[Value.int .i64 N, Value.slice a n c] 24) = w0 := ⟨_, rfl⟩
  have hz0 : w.heap.size < w0.heap.size := by rw [← hw0]; simp
  have q0 : w0.cell? ⟨w.heap.size, 0, none⟩ = some (.int .i64 N) := by rw [← hw0]; simp [go_sem]
  have q1 : w0.cell? ⟨w.heap.size, 1, none⟩ = some (.slice a n c) := by rw [← hw0]; simp [go_sem]
  have HB0 : Hid (Below w.heap.size w w0) := by show Below _ _ _; rw [← hw0]; exact (Below.refl w.heap.size w).alloc (Nat.le_refl _) _
  have HE := Lib.hid (hE.pairs.below HB0.out (Nat.le_refl _))
  obtain ⟨sm, hsm⟩ : ∃ s, smallB N n = s := ⟨_, rfl⟩
  have hsa := small_any N a n c w0
  rw [hsm] at hsa
  have Hsa := Lib.hid hsa
  have Hw0 := Lib.hid hw0
  have Hl := Lib.hid hl
  have Hk := Lib.hid hk
  clear hE hl hk hw0 hsa hsm
  go_enter Try.func3, Try.ntmps3
  go_wp2_with fail
  rw [Hw0.out]
  refine Hsa.out.mono ?_
  rintro e w1 ⟨rfl, hb1⟩
  have g0 := (hb1.cell (p := ⟨w.heap.size, 0, none⟩) hz0).trans q0
  have g1 := (hb1.cell (p := ⟨w.heap.size, 1, none⟩) hz0).trans q1
  have hz1 : w.heap.size < w1.heap.size := by have := hb1.size; omega
  have HB1 := Lib.hid (HB0.out.trans (hb1.mono (Nat.le_of_lt hz0)))
  have HE1 := Lib.hid (HE.out.below hb1 (Nat.le_refl _))
  clear hb1 q0 q1 HE
  cases sm with
  | false =>
    go_wp2_with fail
    refine (awake_any w1).mono ?_
    rintro e w2 ⟨rfl, hb2⟩
    have HB2 := Lib.hid (HB1.out.trans (hb2.mono HB1.out.size))
    clear hb2
    go_wp2
    go_ret
    exact ⟨rfl, HB2.out⟩
  | true =>
  go_wp2_with fail
  refine (comps_law N a n c ps Hl.out hcap w1 HE1.out k Hk.out).mono ?_
  rintro e w2 ⟨hb2, L, m, a1, c1, hm, rfl, hR, hC⟩
  have k0 := (hb2.cell (p := ⟨w.heap.size, 0, none⟩) hz1).trans g0
  have k1 := (hb2.cell (p := ⟨w.heap.size, 1, none⟩) hz1).trans g1
  have hz2 : w.heap.size < w2.heap.size := by have := hb2.size; omega
  have HB2 := Lib.hid (HB1.out.trans (hb2.mono (Nat.le_of_lt hz1)))
  have HE2 := Lib.hid (HE1.out.below hb2 (Nat.le_refl _))
  have HC := Lib.hid hC
  have HR2 := Lib.hid hR
  have Hm := Lib.hid hm
  clear hb2 g0 g1 HE1 hR hC hm
  go_wp2_with fail
  refine (rcomps_at N a n c ps Hl.out hcap w2 HE2.out k Hk.out L HC.out).mono ?_
  rintro e w3 ⟨hb3, m', a2, c2, hm2, rfl, hR⟩
  obtain rfl : m' = m := by rw [← hm2, Hm.out]
  have g0 := (hb3.cell (p := ⟨w.heap.size, 0, none⟩) hz2).trans k0
  have g1 := (hb3.cell (p := ⟨w.heap.size, 1, none⟩) hz2).trans k1
  have hz3 : w.heap.size < w3.heap.size := by have := hb3.size; omega
  have HB3 := Lib.hid (HB2.out.trans (hb3.mono (Nat.le_of_lt hz2)))
  have HE3 := Lib.hid (HE2.out.below hb3 (Nat.le_refl _))
  have HR3 := Lib.hid (HR2.out.below hb3 (Nat.le_refl _))
  have HW3 := Lib.hid hR
  clear hb3 k0 k1 HE2 hR HR2 hm2
  go_wp2_with fail
  refine (of_any N a n c ps Hl.out hcap w3 HE3.out k Hk.out).mono ?_
  rintro e w4 ⟨L2, p, b3, d3, hp, rfl, hi4, hb4, hC2⟩
  have k0 := (hb4.cell (p := ⟨w.heap.size, 0, none⟩) hz3).trans g0
  have k1 := (hb4.cell (p := ⟨w.heap.size, 1, none⟩) hz3).trans g1
  have hz4 : w.heap.size < w4.heap.size := by have := hb4.size; omega
  have HB4 := Lib.hid (HB3.out.trans (hb4.mono (Nat.le_of_lt hz3)))
  have HE4 := Lib.hid (HE3.out.below hb4 (Nat.le_refl _))
  have HR4 := Lib.hid (HR3.out.below hb4 (Nat.le_refl _))
  have HW4 := Lib.hid (HW3.out.below hb4 (Nat.le_refl _))
  have HO4 := Lib.hid hi4
  have Hp := Lib.hid hp
  have hro := rof_at N a n c ps Hl.out hcap w4 HE4.out k Hk.out L2 hC2 p hp
  have Hro := Lib.hid hro
  clear hb4 g0 g1 HE3 HR3 HW3 hi4 hp hC2 hro
  go_wp2_with fail
  refine Hro.out.mono ?_
  rintro e w5 ⟨b4, d4, rfl, hi5, hb5⟩
  have g0 := (hb5.cell (p := ⟨w.heap.size, 0, none⟩) hz4).trans k0
  have g1 := (hb5.cell (p := ⟨w.heap.size, 1, none⟩) hz4).trans k1
  have hz5 : w.heap.size < w5.heap.size := by have := hb5.size; omega
  have HB5 := Lib.hid (HB4.out.trans (hb5.mono (Nat.le_of_lt hz4)))
  have HE5 := Lib.hid (HE4.out.below hb5 (Nat.le_refl _))
  have HR5 := Lib.hid (HR4.out.below hb5 (Nat.le_refl _))
  have HW5 := Lib.hid (HW4.out.below hb5 (Nat.le_refl _))
  have HO5 := Lib.hid (HO4.out.below hb5 (Nat.le_refl _))
  have HP5 := Lib.hid hi5
  clear hb5 k0 k1 HE4 HR4 HW4 HO4 hi5 Hro
  go_wp2_with fail
  refine (bot_at N a n c ps Hl.out hcap w5 HE5.out k Hk.out).mono ?_
  rintro e w6 ⟨L3, r, b5, d5, hC3, hr, rfl, hi6, hb6⟩
  have k0 := (hb6.cell (p := ⟨w.heap.size, 0, none⟩) hz5).trans g0
  have k1 := (hb6.cell (p := ⟨w.heap.size, 1, none⟩) hz5).trans g1
  have hz6 : w.heap.size < w6.heap.size := by have := hb6.size; omega
  have HB6 := Lib.hid (HB5.out.trans (hb6.mono (Nat.le_of_lt hz5)))
  have HE6 := Lib.hid (HE5.out.below hb6 (Nat.le_refl _))
  have HR6 := Lib.hid (HR5.out.below hb6 (Nat.le_refl _))
  have HW6 := Lib.hid (HW5.out.below hb6 (Nat.le_refl _))
  have HO6 := Lib.hid (HO5.out.below hb6 (Nat.le_refl _))
  have HP6 := Lib.hid (HP5.out.below hb6 (Nat.le_refl _))
  have HU6 := Lib.hid hi6
  have Hr : Hid ((ni (preI L3 L3.length)).length = r) := by show _ = _; rw [ni_len]; exact hr
  have hrb := rbot_at N a n c ps Hl.out hcap w6 HE6.out k Hk.out L3 hC3 r Hr.out
  have Hrb := Lib.hid hrb
  have hr8 : r ≤ 8192 := by rw [← hr]; exact hC3.lb.le _
  clear hb6 g0 g1 HE5 HR5 HW5 HO5 HP5 hi6 hrb hr hC3
  go_wp2_with fail
  refine Hrb.out.mono ?_
  rintro e w7 ⟨b6, d6, rfl, hi7, hb7⟩
  have HB7 := Lib.hid (HB6.out.trans (hb7.mono (Nat.le_of_lt hz6)))
  have HR7 := Lib.hid (HR6.out.below hb7 (Nat.le_refl _))
  have HW7 := Lib.hid (HW6.out.below hb7 (Nat.le_refl _))
  have HO7 := Lib.hid (HO6.out.below hb7 (Nat.le_refl _))
  have HP7 := Lib.hid (HP6.out.below hb7 (Nat.le_refl _))
  have HU7 := Lib.hid (HU6.out.below hb7 (Nat.le_refl _))
  have HV7 := Lib.hid hi7
  have e1 : (k == k) = true := by simp
  clear hb7 k0 k1 HE6 HR6 HW6 HO6 HP6 HU6 hi7 Hrb
  have hlb := HC.out.lb
  have hm8 : m' ≤ 8192 := by rw [← Hm.out]; exact hlb.cnt
  have hp8 : p ≤ maxLen := by
    rw [← Hp.out]
    unfold ofL
    by_cases hk0 : gchk N ps = 0
    · have hg := gchk_ok hk0
      have := hg.hi
      have := hg.lo
      rw [if_pos hk0, idxTo_len]
      unfold maxLen
      omega
    · rw [if_neg hk0]; exact Nat.zero_le _
  have hsl := same_lists a1 a2 m' c1 c2 (L.map ni) (by rw [List.length_map]; exact Hm.out) (by omega) (fun i hi => by rw [map_ni_at, ni_len]; have := hlb.row (i := i) (by rw [Hm.out]; exact hi); omega) w7 HR7.out HW7.out
  have Hsl := Lib.hid hsl
  clear hlb hsl
  go_wp2_with fail
  refine Hsl.out.mono ?_
  rintro e w8 ⟨rfl, hb8⟩
  have HB8 := Lib.hid (HB7.out.trans (hb8.mono HB7.out.size))
  have HO8 := Lib.hid (HO7.out.below hb8 (Nat.le_refl _))
  have HP8 := Lib.hid (HP7.out.below hb8 (Nat.le_refl _))
  have HU8 := Lib.hid (HU7.out.below hb8 (Nat.le_refl _))
  have HV8 := Lib.hid (HV7.out.below hb8 (Nat.le_refl _))
  clear hb8
  go_wp2_with fail
  refine (eq_same 0 d3 0 d4 p _ b3 b4 Hp.out hp8 w8 HO8.out HP8.out).mono ?_
  rintro e w9 ⟨rfl, hd9⟩
  have hb9 : Below w8.heap.size w8 w9 := hd9.below _
  have HB9 := Lib.hid (HB8.out.trans (hb9.mono HB8.out.size))
  have HU9 := Lib.hid (HU8.out.below hb9 (Nat.le_refl _))
  have HV9 := Lib.hid (HV8.out.below hb9 (Nat.le_refl _))
  clear hb9 hd9
  go_wp2_with fail
  refine (eq_same 0 d5 0 d6 r _ b5 b6 Hr.out (by unfold maxLen; omega) w9 HU9.out HV9.out).mono ?_
  rintro e w10 ⟨rfl, hd10⟩
  have HB10 := Lib.hid (HB9.out.trans ((hd10.below w9.heap.size).mono HB9.out.size))
  clear hd10
  go_wp2_with fail
  refine (awake_any w10).mono ?_
  rintro e w11 ⟨rfl, hb11⟩
  have HB11 := Lib.hid (HB10.out.trans (hb11.mono HB10.out.size))
  clear hb11
  go_wp2
  go_ret
  exact ⟨rfl, HB11.out⟩
end Go.Proofs.Ytopbbihbpalnlaa
