/-
  Next: the least element from a number on.
-/
import Derived.Test.YtggkhbjhhglbbaaDoorMask
import Derived.Test.YtggkhbjhhglbbaaDoorSimple
namespace Go.Proofs.YtggkhbjhhglbbaaDoor
open Go.RowKit
set_option linter.unusedVariables false

/-- The least element that is at least x, or -1. -/
def nextS (ws : List Nat) (x : Int) : Int := match (elems ws).find? (fun i : Nat => decide (x ≤ (i : Int))) with
  | some i => i
  | none => -1
/-- r is the least element that is at least x, or -1 if there is none. -/
def IsNext (ws : List Nat) (x r : Int) : Prop :=
  (r = -1 ∧ ∀ i, mem ws i = true → (i : Int) < x) ∨ (∃ m : Nat, r = m ∧ mem ws m = true ∧ x ≤ m ∧ ∀ i, mem ws i = true → x ≤ (i : Int) → m ≤ i)
theorem isNext_nextS (ws : List Nat) (x : Int) : IsNext ws x (nextS ws x) := by
  unfold nextS
  cases h : (elems ws).find? (fun i : Nat => decide (x ≤ (i : Int))) with
  | none =>
    refine .inl ⟨rfl, fun i hi => ?_⟩
    have := List.find?_eq_none.1 h i (mem_elems.2 hi)
    simpa using this
  | some m =>
    obtain ⟨hp, l1, l2, hl, hno⟩ := List.find?_eq_some_iff_append.1 h
    refine .inr ⟨m, rfl, mem_elems.1 (by rw [hl]; simp), by simpa using hp, fun i hi hx => ?_⟩
    have hm := mem_elems.2 hi
    have hasc := asc_elems ws
    rw [hl] at hm hasc
    rcases List.mem_append.1 hm with h1 | h1
    · have := hno i h1
      simp at this; omega
    · rcases List.mem_cons.1 h1 with h2 | h2
      · omega
      · unfold Asc at hasc
        have := (List.pairwise_cons.1 (List.pairwise_append.1 hasc).2.1).1 i h2
        omega
theorem isNext_unique {ws : List Nat} {x r s : Int} (h1 : IsNext ws x r) (h2 : IsNext ws x s) : r = s := by
  rcases h1 with ⟨rfl, h1⟩ | ⟨m, rfl, hm, hx, hl⟩ <;> rcases h2 with ⟨rfl, h2⟩ | ⟨k, rfl, hk, hy, hj⟩
  · rfl
  · have := h1 k hk; omega
  · have := h2 m hm; omega
  · have := hl k hk hy; have := hj m hm hx; omega
theorem nextS_of {ws : List Nat} {x r : Int} (h : IsNext ws x r) : nextS ws x = r := isNext_unique (isNext_nextS ws x) h

theorem shr_zero {y r j : Nat} (h : y / 2 ^ r = 0) (hj : r ≤ j) : y.testBit j = false := by
  have : (y / 2 ^ r).testBit (j - r) = false := by rw [h]; simp
  rw [Nat.testBit_div_two_pow] at this
  rwa [show j - r + r = j from by omega] at this
/-- The next element lies in the same word. -/
theorem next_here {ws : List Nat} {x : Int} {n : Nat} (hx : x ≤ n) (hxl : ∀ i : Nat, x ≤ (i : Int) → n ≤ i) (hwf : Wf ws) (h0 : ws.getD (n / 64) 0 / 2 ^ (n % 64) ≠ 0) :
    IsNext ws x ((n + Lib.ctz 64 (ws.getD (n / 64) 0 / 2 ^ (n % 64)) : Nat) : Int) := by
  have hlt : ws.getD (n / 64) 0 / 2 ^ (n % 64) < 18446744073709551616 := Nat.lt_of_le_of_lt (Nat.div_le_self _ _) (hwf _)
  have hbit := ctz_bit h0 hlt
  have hlow := fun j => ctz_low (j := j) h0 hlt
  have hc := ctz_lt h0 hlt
  generalize Lib.ctz 64 (ws.getD (n / 64) 0 / 2 ^ (n % 64)) = c at *
  rw [Nat.testBit_div_two_pow] at hbit
  have hc2 : c + n % 64 < 64 := by
    rcases Nat.lt_or_ge (c + n % 64) 64 with h | h
    · exact h
    · rw [testBit_big (hwf _) h] at hbit; cases hbit
  refine .inr ⟨n + c, rfl, ?_, by omega, fun i hi hxi => ?_⟩
  · unfold mem
    rw [show (n + c) / 64 = n / 64 from by omega, show (n + c) % 64 = c + n % 64 from by omega]
    exact hbit
  · have hni := hxl i hxi
    rcases Nat.lt_or_ge i (n + c) with h | h
    · exfalso
      have h1 := hlow (i - n) (by omega)
      rw [Nat.testBit_div_two_pow] at h1
      unfold mem at hi
      rw [show i / 64 = n / 64 from by omega, show i % 64 = i - n + n % 64 from by omega, h1] at hi
      cases hi
    · exact h
/-- The next element lies in word w: all words between are empty. -/
theorem next_there {ws : List Nat} {x : Int} {n w : Nat} (hx : x ≤ n) (hxl : ∀ i : Nat, x ≤ (i : Int) → n ≤ i) (hwf : Wf ws) (h0 : ws.getD (n / 64) 0 / 2 ^ (n % 64) = 0) (hw : n / 64 < w) (hz : ∀ j, n / 64 < j → j < w → ws.getD j 0 = 0) (h1 : ws.getD w 0 ≠ 0) :
    IsNext ws x ((w * 64 + Lib.ctz 64 (ws.getD w 0) : Nat) : Int) := by
  have hbit := ctz_bit h1 (hwf w)
  have hlow := fun j => ctz_low (j := j) h1 (hwf w)
  have hc := ctz_lt h1 (hwf w)
  generalize Lib.ctz 64 (ws.getD w 0) = c at *
  refine .inr ⟨w * 64 + c, rfl, ?_, by omega, fun i hi hxi => ?_⟩
  · unfold mem
    rw [show (w * 64 + c) / 64 = w from by omega, show (w * 64 + c) % 64 = c from by omega]
    exact hbit
  · have hni := hxl i hxi
    rcases Nat.lt_or_ge i (w * 64 + c) with h | h
    · exfalso
      unfold mem at hi
      by_cases e : i / 64 = w
      · rw [e, hlow (i % 64) (by omega)] at hi; cases hi
      · by_cases e2 : i / 64 = n / 64
        · rw [e2, shr_zero h0 (by omega)] at hi; cases hi
        · rw [hz (i / 64) (by omega) (by omega)] at hi; simp at hi
    · exact h
theorem next_none {ws : List Nat} {x : Int} {n : Nat} (hxl : ∀ i : Nat, x ≤ (i : Int) → n ≤ i) (h0 : ws.getD (n / 64) 0 / 2 ^ (n % 64) = 0) (hz : ∀ j, n / 64 < j → ws.getD j 0 = 0) : IsNext ws x (-1) := by
  refine .inl ⟨rfl, fun i hi => ?_⟩
  rcases Int.lt_or_le (i : Int) x with h | h
  · exact h
  · exfalso
    have hni := hxl i h
    unfold mem at hi
    by_cases e2 : i / 64 = n / 64
    · rw [e2, shr_zero h0 (by omega)] at hi; cases hi
    · rw [hz (i / 64) (by omega)] at hi; simp at hi

set_option maxHeartbeats 1600000 in
theorem next_pos (a : Option Addr) (c : Nat) (ws : List Nat) (n : Nat) (w : World) (hx63 : n < 9223372036854775808) (hn : ws.length ≤ 1100) (hwf : Wf ws) (hz : Words w a ws) (hT : Tz w) :
    Calls Tryd.prog 19 #[.slice a ws.length c, .int .i64 (n : Int)] w fun e w' => e = .returned (.int .i64 (nextS ws (n : Int))) ∧ w = w' := by
  have hq : ((n : Int) / 64) = ((n / 64 : Nat) : Int) := by omega
  have hr : ((n : Int) % 64) = ((n % 64 : Nat) : Int) := by omega
  have hr2 : n % 64 < 64 := by omega
  have hnb : n / 64 ≤ 144115188075855872 := by omega
  have hnu : n < 64 * (n / 64) + 64 := by omega
  have hk := hwf (n / 64)
  have Hz := Lib.hid hz
  have HT := Lib.hid hT
  have Hhere := Lib.hid (fun h => nextS_of (next_here (ws := ws) (x := (n : Int)) (n := n) (by omega) (fun i h => by omega) hwf h))
  have Hthere := Lib.hid (fun k h0 hw hz h1 => nextS_of (next_there (ws := ws) (x := (n : Int)) (n := n) (w := k) (by omega) (fun i h => by omega) hwf h0 hw hz h1))
  have Hnone := Lib.hid (fun h0 hz => nextS_of (next_none (ws := ws) (x := (n : Int)) (n := n) (fun i h => by omega) h0 hz))
  have Hwf := Lib.hid hwf
  obtain ⟨res, hres⟩ : ∃ res, nextS ws (n : Int) = res := ⟨_, rfl⟩
  rw [hres] at Hhere Hthere Hnone ⊢
  obtain ⟨y, hy⟩ : ∃ y, ws.getD (n / 64) 0 = y := ⟨_, rfl⟩
  have Hy := Lib.hid hy
  rw [hy] at hk Hhere Hthere Hnone
  obtain ⟨z, hzz⟩ : ∃ z, y / 2 ^ (n % 64) = z := ⟨_, rfl⟩
  have hsh : ((y : Int) / 2 ^ (n % 64)) = (z : Int) := by rw [← hzz]; simp
  have hzlt : z < 18446744073709551616 := by rw [← hzz]; exact Nat.lt_of_le_of_lt (Nat.div_le_self _ _) hk
  rw [hzz] at Hhere Hthere Hnone
  have Hyz := Lib.hid (fun h : y = 0 => (by rw [← hzz, h]; simp : z = 0))
  clear hz hT hy hres hzz hwf
  generalize n / 64 = q at *
  generalize n % 64 = r at *
  by_cases h0 : z = 0
  · have Hr := Lib.hid h0
    subst h0
    have t0 : ((0 : Int) != 0) = false := by simp
    go_enter Tryd.func19, Tryd.ntmps19
    go_wp2_with (go_at_call 40; refine (word_at _ _ ws q y Hy.out _ hn Hz.out).mono ?_; rintro e w' ⟨rfl, rfl⟩)
    go_loop [7, 8, 30] (fun _ _ i => ∃ k : Nat, i = .int .i64 k ∧ (k = 0 ∨ q + 1 + k ≤ ws.length) ∧ ∀ j, q < j → j < q + 1 + k → ws.getD j 0 = 0) (fun _ _ i => ws.length - (intOf i).toNat)
    case atStart => exact ⟨0, rfl, .inl rfl, fun j h1 h2 => absurd h1 (by omega)⟩
    case round =>
      obtain ⟨k, rfl, hk2, hall⟩ := hrel
      have Hall := Lib.hid hall
      clear hall
      by_cases hlt : q + 1 + k < ws.length
      · obtain ⟨b, off, rfl, hc⟩ := Hz.out (by omega)
        have ck := hc (q + 1 + k) hlt
        obtain ⟨u, hu⟩ : ∃ u, ws.getD (q + 1 + k) 0 = u := ⟨_, rfl⟩
        have Hu := Lib.hid hu
        have hul : u < 18446744073709551616 := by rw [← hu]; exact Hwf.out _
        rw [hu] at ck
        clear hc hu hk2
        by_cases hu0 : u = 0
        · have HU := Lib.hid hu0
          subst hu0
          go_wp2
          go_round
          case rel =>
            refine ⟨k + 1, by go_num, .inr (by omega), fun j h1 h2 => ?_⟩
            by_cases e : j = q + 1 + k
            · rw [e]; exact Hu.out
            · exact Hall.out j h1 (by omega)
          case measure => simp [intOf]; omega
        · have t1 : ((u : Int) != 0) = true := by rw [bne_iff_ne]; omega
          have hfin := Lib.hid (Hthere.out (q + 1 + k) Hr.out (by omega) (fun j h1 h2 => Hall.out j h1 h2) (by rw [Hu.out]; exact hu0))
          rw [Hu.out] at hfin
          have hcz := ctz_lt hu0 hul
          go_wp2_with (go_at_call 39; refine (tz_any u hu0 hul _ HT.out).mono ?_; rintro e w' ⟨rfl, rfl⟩)
          go_ret
          exact ⟨ret_int (by rw [hfin.out]; omega), rfl⟩
      · have hfin := Lib.hid (Hnone.out Hr.out (fun j h1 => by
          rcases Nat.lt_or_ge j ws.length with c1 | c1
          · exact Hall.out j h1 (by omega)
          · exact getD_out c1))
        go_wp2
        go_ret
        exact ⟨ret_int hfin.out.symm, rfl⟩
  · have hfin := Lib.hid (Hhere.out h0)
    have t0 : ((z : Int) != 0) = true := by rw [bne_iff_ne]; omega
    have hcz := ctz_lt h0 hzlt
    have hsmall : n ≤ 70400 := by
      have : q < ws.length := by
        rcases Nat.lt_or_ge q ws.length with c1 | c1
        · exact c1
        · exact absurd (Hyz.out (by rw [← Hy.out]; exact getD_out c1)) h0
      omega
    go_enter Tryd.func19, Tryd.ntmps19
    go_wp2_with (first | (go_at_call 40; refine (word_at _ _ ws q y Hy.out _ hn Hz.out).mono ?_; rintro e w' ⟨rfl, rfl⟩) | (go_at_call 39; refine (tz_any z h0 hzlt _ HT.out).mono ?_; rintro e w' ⟨rfl, rfl⟩))
    go_ret
    exact ⟨ret_int (by rw [hfin.out]; omega), rfl⟩

set_option maxHeartbeats 1600000 in
theorem next_neg (a : Option Addr) (c : Nat) (ws : List Nat) (x : Int) (w : World) (hx0 : x < 0) (hn : ws.length ≤ 1100) (hwf : Wf ws) (hz : Words w a ws) (hT : Tz w) :
    Calls Tryd.prog 19 #[.slice a ws.length c, .int .i64 x] w fun e w' => e = .returned (.int .i64 (nextS ws x)) ∧ w = w' := by
  have hx1 : x ≤ 0 := by omega
  have hk := hwf (0 / 64)
  have Hz := Lib.hid hz
  have HT := Lib.hid hT
  have Hhere := Lib.hid (fun h => nextS_of (next_here (ws := ws) (x := x) (n := 0) (by omega) (fun i h => by omega) hwf h))
  have Hthere := Lib.hid (fun k h0 hw hz h1 => nextS_of (next_there (ws := ws) (x := x) (n := 0) (w := k) (by omega) (fun i h => by omega) hwf h0 hw hz h1))
  have Hnone := Lib.hid (fun h0 hz => nextS_of (next_none (ws := ws) (x := x) (n := 0) (fun i h => by omega) h0 hz))
  have Hwf := Lib.hid hwf
  obtain ⟨res, hres⟩ : ∃ res, nextS ws x = res := ⟨_, rfl⟩
  rw [hres] at Hhere Hthere Hnone ⊢
  obtain ⟨y, hy⟩ : ∃ y, ws.getD (0 / 64) 0 = y := ⟨_, rfl⟩
  have Hy := Lib.hid hy
  rw [hy] at hk Hhere Hthere Hnone
  obtain ⟨z, hzz⟩ : ∃ z, y / 2 ^ (0 % 64) = z := ⟨_, rfl⟩
  have hyz : z = y := by rw [← hzz]; simp
  subst hyz
  have hzlt : z < 18446744073709551616 := by exact hk
  rw [hzz] at Hhere Hthere Hnone
  have Hyz := Lib.hid (fun h : z = 0 => h)
  clear hz hT hy hres hzz hwf

  by_cases h0 : z = 0
  · have Hr := Lib.hid h0
    subst h0
    have t0 : ((0 : Int) != 0) = false := by simp
    go_enter Tryd.func19, Tryd.ntmps19
    go_wp2_with (go_at_call 40; refine (word_lit _ _ ws 0 0 rfl _ Hy.out _ hn Hz.out).mono ?_; rintro e w' ⟨rfl, rfl⟩)
    go_loop [7, 8, 30] (fun _ _ i => ∃ k : Nat, i = .int .i64 k ∧ (k = 0 ∨ 1 + k ≤ ws.length) ∧ ∀ j, 0 < j → j < 1 + k → ws.getD j 0 = 0) (fun _ _ i => ws.length - (intOf i).toNat)
    case atStart => exact ⟨0, rfl, .inl rfl, fun j h1 h2 => absurd h1 (by omega)⟩
    case round =>
      obtain ⟨k, rfl, hk2, hall⟩ := hrel
      have Hall := Lib.hid hall
      clear hall
      by_cases hlt : 1 + k < ws.length
      · obtain ⟨b, off, rfl, hc⟩ := Hz.out (by omega)
        have ck := hc (1 + k) hlt
        obtain ⟨u, hu⟩ : ∃ u, ws.getD (1 + k) 0 = u := ⟨_, rfl⟩
        have Hu := Lib.hid hu
        have hul : u < 18446744073709551616 := by rw [← hu]; exact Hwf.out _
        rw [hu] at ck
        clear hc hu hk2
        by_cases hu0 : u = 0
        · have HU := Lib.hid hu0
          subst hu0
          go_wp2
          go_round
          case rel =>
            refine ⟨k + 1, by go_num, .inr (by omega), fun j h1 h2 => ?_⟩
            by_cases e : j = 1 + k
            · rw [e]; exact Hu.out
            · exact Hall.out j h1 (by omega)
          case measure => simp [intOf]; omega
        · have t1 : ((u : Int) != 0) = true := by rw [bne_iff_ne]; omega
          have hfin := Lib.hid (Hthere.out (1 + k) Hr.out (by omega) (fun j h1 h2 => Hall.out j h1 h2) (by rw [Hu.out]; exact hu0))
          rw [Hu.out] at hfin
          have hcz := ctz_lt hu0 hul
          go_wp2_with (go_at_call 39; refine (tz_any u hu0 hul _ HT.out).mono ?_; rintro e w' ⟨rfl, rfl⟩)
          go_ret
          exact ⟨ret_int (by rw [hfin.out]; omega), rfl⟩
      · have hfin := Lib.hid (Hnone.out Hr.out (fun j h1 => by
          rcases Nat.lt_or_ge j ws.length with c1 | c1
          · exact Hall.out j h1 (by omega)
          · exact getD_out c1))
        go_wp2
        go_ret
        exact ⟨ret_int hfin.out.symm, rfl⟩
  · have hfin := Lib.hid (Hhere.out h0)
    have t0 : ((z : Int) != 0) = true := by rw [bne_iff_ne]; omega
    have hcz := ctz_lt h0 hzlt
    have hsmall : 0 ≤ 70400 := by
      have : 0 < ws.length := by
        rcases Nat.lt_or_ge 0 ws.length with c1 | c1
        · exact c1
        · exact absurd (Hyz.out (by rw [← Hy.out]; exact getD_out c1)) h0
      omega
    go_enter Tryd.func19, Tryd.ntmps19
    go_wp2_with (first | (go_at_call 40; refine (word_lit _ _ ws 0 0 rfl _ Hy.out _ hn Hz.out).mono ?_; rintro e w' ⟨rfl, rfl⟩) | (go_at_call 39; refine (tz_any z h0 hzlt _ HT.out).mono ?_; rintro e w' ⟨rfl, rfl⟩))
    go_ret
    exact ⟨ret_int (by rw [hfin.out]; omega), rfl⟩

end Go.Proofs.YtggkhbjhhglbbaaDoor
