/-
  The definition's Check: it returns what the plain mathematics says.
-/
import Derived.Test.YtpegkmancaoeiaaWCheck
namespace Go.Proofs.Ytpegkmancaoeiaa
open Go.RowKit
set_option linter.unusedVariables false

theorem check_any (ra : Option Addr) (rc : Nat) (rs : List Int) (za : Option Addr) (zc : Nat) (zs : List Int) (w : World) (hn : rs.length ≤ maxLen) (hm : zs.length ≤ maxLen) (hr : Ints w ra rs) (hz : Ints w za zs) :
    Calls Try.prog 9 #[.agg #[.slice ra rs.length rc, .slice za zs.length zc]] w fun e w' => e = .returned (.int .i64 (qchk rs zs)) ∧ Below w.heap.size w w' := by
  by_cases h : 8192 < rs.length ∨ 8192 < zs.length
  · rw [qchk_big h]; exact check_big ra rc rs za zc zs w hn hm h
  · exact check_good ra rc rs za zc zs w (by omega) (by omega) hr hz

set_option maxHeartbeats 400000 in
theorem rcheck_big (ra : Option Addr) (rc : Nat) (rs : List Int) (za : Option Addr) (zc : Nat) (zs : List Int) (w : World) (hn : rs.length ≤ maxLen) (hm : zs.length ≤ maxLen) (h : 8192 < rs.length ∨ 8192 < zs.length) :
    Calls Try.prog 10 #[.agg #[.slice ra rs.length rc, .slice za zs.length zc]] w fun e w' => e = .returned (.int .i64 3) ∧ Below w.heap.size w w' := by
  unfold maxLen at hn hm
  by_cases h1 : 8192 < rs.length
  · clear h
    go_enter Try.func10, Try.ntmps10
    go_wp2
    go_ret
    exact ⟨rfl, (Below.refl _ _).alloc (Nat.le_refl _) _⟩
  · have h2 : 8192 < zs.length := by omega
    clear h
    go_enter Try.func10, Try.ntmps10
    go_wp2
    go_ret
    exact ⟨rfl, (Below.refl _ _).alloc (Nat.le_refl _) _⟩

theorem rprec_at (a : Option Addr) (c : Nat) (rs : List Int) (x y : Nat) (r : Bool) (hp : prec rs (x : Int) (y : Int) = r) (w : World) (hn : rs.length ≤ 8200) (hz : Ints w a rs) (hx : x < rs.length) (hy : y < rs.length) :
    Calls Try.prog 27 #[.slice a rs.length c, .int .i64 x, .int .i64 y] w fun e w' => e = .returned (.bool r) ∧ Drawn w w' := by
  subst hp
  exact before_any a c rs x y w hn hz hx hy
theorem at_take (a : Option Addr) (c : Nat) (zs : List Int) (k : Nat) (hk : k ≤ zs.length) (x : Int) (r : Int) (hr : atI (zs.take k) x = r) (w : World) (hn : zs.length ≤ 8192) (hz : Ints w a zs) :
    Calls Try.prog 26 #[.slice a k c, .int .i64 x] w fun e w' => e = .returned (.int .i64 r) ∧ w = w' := by
  subst hr
  refine at_any a k c (zs.take k) (by rw [List.length_take]; omega) x w (by unfold maxLen; omega) fun h0 => ?_
  rw [List.length_take] at h0
  obtain ⟨b, off, rfl, hc⟩ := hz (by omega)
  refine ⟨b, off, rfl, fun i hi => ?_⟩
  rw [List.length_take] at hi
  rw [hc i (by omega), List.getD_eq_getElem?_getD, List.getD_eq_getElem?_getD, List.getElem?_take, if_pos (by omega)]

set_option maxHeartbeats 1000000 in
set_option maxRecDepth 100000 in
theorem rcheck_good (ra : Option Addr) (rc : Nat) (rs : List Int) (za : Option Addr) (zc : Nat) (zs : List Int) (w : World) (hn : rs.length ≤ 8192) (hm : zs.length ≤ 8192) (hzc : zs.length ≤ zc) (hzc2 : zc ≤ maxLen) (hr : Ints w ra rs) (hz : Ints w za zs) :
    Calls Try.prog 10 #[.agg #[.slice ra rs.length rc, .slice za zs.length zc]] w fun e w' => e = .returned (.int .i64 (qchk rs zs)) ∧ Below w.heap.size w w' := by
  unfold maxLen at hzc2
  have hs := Lib.hid (qchk_start hn hm)
  have Hr := Lib.hid hr
  have Hz := Lib.hid hz
  clear hr hz
  go_enter Try.func10, Try.ntmps10
  go_wp2
  go_loopw [3] (fun i wr => ∃ (k : Nat), k ≤ zs.length ∧ i = .int .i64 k ∧ qchk rs zs = qchkN rs zs (zs.length - k) k ∧ (∀ y ∈ zs.take k, isI rs y = true) ∧
    wr.cell? ⟨w.heap.size, 0, none⟩ = some (.slice ra rs.length rc) ∧ wr.cell? ⟨w.heap.size, 1, none⟩ = some (.slice za zs.length zc) ∧ Below w.heap.size w wr) (fun i _ => zs.length - (intOf i).toNat)
  case atStart => exact ⟨0, Nat.zero_le _, rfl, hs.out, by simp, by simp, by simp, (Below.refl _ _).alloc (Nat.le_refl _) _⟩
  case round =>
    obtain ⟨k, hk, rfl, hq0, hrng, cb0, cb1, hbl⟩ := hrel
    have Hq := Lib.hid hq0
    have Hrng := Lib.hid hrng
    have Hbl := Lib.hid hbl
    have Hr' := Lib.hid (Hr.out.below hbl (Nat.le_refl _))
    have Hz' := Lib.hid (Hz.out.below hbl (Nat.le_refl _))
    have hle := lim_le hn
    clear hq0 hrng hbl
    by_cases hlt : k < zs.length
    · obtain ⟨b, off, rfl, hcell⟩ := Hz'.out (by omega)
      have ck := hcell k hlt
      obtain ⟨x, hx⟩ : ∃ x, zs.getD k 0 = x := ⟨_, rfl⟩
      rw [hx] at ck
      have Hx := Lib.hid hx
      have Hc := Lib.hid hcell
      clear hcell hx
      by_cases h1 : isI rs x = false
      · have T := Lib.hid (qchk_rng Hq.out hlt Hx.out h1)
        go_wp2_with (go_at_call 25; refine (item_any _ _ rs _ _ hn).mono ?_; rw [h1]; rintro e w' ⟨rfl, rfl⟩)
        go_ret
        exact ⟨ret_int T.out.symm, Hbl.out⟩
      · have h1' : isI rs x = true := by simpa using h1
        have H1 := Lib.hid h1'
        have hxr := isI_iff.1 h1'
        obtain ⟨m, rfl⟩ : ∃ m : Nat, x = m := ⟨x.toNat, by omega⟩
        have hm6 : m < 65536 := by omega
        obtain ⟨r, hr⟩ : ∃ r, atI (zs.take k) (m : Int) = r := ⟨_, rfl⟩
        have Hra := Lib.hid hr
        have hmem := atI_mem (zs := zs.take k) (x := (m : Int))
        rw [hr] at hmem
        clear hr h1 hxr
        by_cases ht : 0 ≤ r
        · have T := Lib.hid (qchk_dup Hq.out hlt Hx.out h1' (hmem.1 ht))
          clear hmem h1'
          go_wp2_with (first | (go_at_call 25; refine (item_any _ _ rs _ _ hn).mono ?_; rw [H1.out]; rintro e w' ⟨rfl, rfl⟩) | (go_at_call 26; refine (at_take _ _ zs k hk _ r Hra.out _ hm Hz'.out).mono ?_; rintro e w' ⟨rfl, rfl⟩))
          go_ret
          exact ⟨ret_int T.out.symm, Hbl.out⟩
        · have Hnot := Lib.hid (show ¬ (m : Int) ∈ zs.take k from fun h => ht (hmem.2 h))
          clear hmem
          have Hrng2 := Lib.hid (show ∀ y ∈ zs.take (k + 1), isI rs y = true from fun y hy => by
            rw [mem_take_succ hlt] at hy
            rcases hy with hy | rfl
            · exact Hrng.out y hy
            · rw [Hx.out]; exact h1')
          by_cases hord : 0 < rs.length ∧ 0 < k
          · obtain ⟨ho1, ho2⟩ := hord
            obtain ⟨j, rfl⟩ : ∃ j, k = j + 1 := ⟨k - 1, by omega⟩
            have cj := Hc.out j (by omega)
            have hjm : zs.getD j 0 ∈ zs.take (j + 1) := by rw [mem_take_succ (by omega)]; exact .inr rfl
            have hji := Hrng.out _ hjm
            rw [isI_iff, lim_rank ho1] at hji
            rw [isI_iff, lim_rank ho1] at h1'
            obtain ⟨y, hy⟩ : ∃ y, zs.getD j 0 = y := ⟨_, rfl⟩
            rw [hy] at cj hji
            obtain ⟨i, rfl⟩ : ∃ i : Nat, y = i := ⟨y.toNat, by omega⟩
            have Hy := Lib.hid hy
            clear hy hjm
            have hi2 : i < rs.length := by omega
            have hm2 : m < rs.length := by omega
            clear h1' hji
            have hw1 : IntKind.i64.wrap ((j : Int) + 1 - 1) = (j : Int) := by rw [IntKind.wrap_i64]; omega
            cases hpr : prec rs (m : Int) (i : Int) with
            | true =>
              have Hpr := Lib.hid hpr
              have T := Lib.hid (qchk_ord Hq.out hlt Hx.out H1.out Hnot.out ho1 ho2 (by rw [show j + 1 - 1 = j from rfl, Hy.out]; exact Hpr.out))
              clear hpr
              go_wp2_with (first | (go_at_call 25; refine (item_any _ _ rs _ _ hn).mono ?_; rw [H1.out]; rintro e w' ⟨rfl, rfl⟩) | (go_at_call 26; refine (at_take _ _ zs (j + 1) hk _ r Hra.out _ hm Hz'.out).mono ?_; rintro e w' ⟨rfl, rfl⟩))
              go_quiet ((go_at_call 27; exact quiet_drawn (rprec_at _ _ rs m i true Hpr.out _ (by omega) (Hr'.out.drewN _) hm2 hi2)))
              go_wp2
              go_ret
              exact ⟨ret_int T.out.symm, Hbl.out.trans (Drawn.below ⟨_, rfl⟩ _)⟩
            | false =>
              have Hpr := Lib.hid hpr
              have T := Lib.hid (qchk_next Hq.out hlt Hx.out H1.out Hnot.out (fun h => by
                have h3 := h.2.2
                rw [show j + 1 - 1 = j from rfl, Hy.out, Hpr.out] at h3; cases h3))
              clear hpr
              go_wp2_with (first | (go_at_call 25; refine (item_any _ _ rs _ _ hn).mono ?_; rw [H1.out]; rintro e w' ⟨rfl, rfl⟩) | (go_at_call 26; refine (at_take _ _ zs (j + 1) hk _ r Hra.out _ hm Hz'.out).mono ?_; rintro e w' ⟨rfl, rfl⟩))
              go_quiet ((go_at_call 27; exact quiet_drawn (rprec_at _ _ rs m i false Hpr.out _ (by omega) (Hr'.out.drewN _) hm2 hi2)))
              go_wp2
              go_roundw
              case rel => exact ⟨j + 2, by omega, by go_num, T.out, Hrng2.out, cb0, cb1, Hbl.out.trans (Drawn.below ⟨_, rfl⟩ _)⟩
              case measure => simp [intOf]; omega
          · have T := Lib.hid (qchk_next Hq.out hlt Hx.out h1' Hnot.out (fun h => hord ⟨h.1, h.2.1⟩))
            clear h1'
            by_cases ho : 0 < rs.length
            · have hk0 : k = 0 := by
                rcases Nat.eq_zero_or_pos k with h0 | h0
                · exact h0
                · exact absurd ⟨ho, h0⟩ hord
              have hd : decide (0 < (k : Int)) = false := decide_eq_false (by omega)
              have hd2 : ¬ 0 < k := by omega
              clear hk0 hord
              go_wp2_with (first | (go_at_call 25; refine (item_any _ _ rs _ _ hn).mono ?_; rw [H1.out]; rintro e w' ⟨rfl, rfl⟩) | (go_at_call 26; refine (at_take _ _ zs k hk _ r Hra.out _ hm Hz'.out).mono ?_; rintro e w' ⟨rfl, rfl⟩))
              go_quiet (fail)
              go_wp2
              go_roundw
              case rel => exact ⟨_, hlt, by go_num, T.out, Hrng2.out, cb0, cb1, Hbl.out.trans (Drawn.below ⟨_, rfl⟩ _)⟩
              case measure => simp [intOf]; omega
            · clear hord
              go_wp2_with (first | (go_at_call 25; refine (item_any _ _ rs _ _ hn).mono ?_; rw [H1.out]; rintro e w' ⟨rfl, rfl⟩) | (go_at_call 26; refine (at_take _ _ zs k hk _ r Hra.out _ hm Hz'.out).mono ?_; rintro e w' ⟨rfl, rfl⟩))
              go_quiet (fail)
              go_wp2
              go_roundw
              case rel => exact ⟨_, hlt, by go_num, T.out, Hrng2.out, cb0, cb1, Hbl.out.trans (Drawn.below ⟨_, rfl⟩ _)⟩
              case measure => simp [intOf]; omega
    · have T := Lib.hid (qchk_end Hq.out hlt)
      go_wp2
      go_ret
      exact ⟨ret_int T.out.symm, Hbl.out⟩
theorem rcheck_any (ra : Option Addr) (rc : Nat) (rs : List Int) (za : Option Addr) (zc : Nat) (zs : List Int) (w : World) (hn : rs.length ≤ maxLen) (hm : zs.length ≤ maxLen) (hzc : zs.length ≤ zc) (hzc2 : zc ≤ maxLen) (hr : Ints w ra rs) (hz : Ints w za zs) :
    Calls Try.prog 10 #[.agg #[.slice ra rs.length rc, .slice za zs.length zc]] w fun e w' => e = .returned (.int .i64 (qchk rs zs)) ∧ Below w.heap.size w w' := by
  by_cases h : 8192 < rs.length ∨ 8192 < zs.length
  · rw [qchk_big h]; exact rcheck_big ra rc rs za zc zs w hn hm h
  · exact rcheck_good ra rc rs za zc zs w (by omega) (by omega) hzc hzc2 hr hz
end Go.Proofs.Ytpegkmancaoeiaa
