/-
  The law LexPlaces.
-/
import Derived.Test.YtmnfonhfbolnkaaDoorPos
namespace Go.Proofs.YtmnfonhfbolnkaaDoor
open Go.RowKit
set_option linter.unusedVariables false
set_option linter.unusedSimpArgs false

set_option maxHeartbeats 8000000 in
set_option maxRecDepth 100000 in
theorem law_places (s : ByteArray) (i : Int) (w : World) (hs : s.size ≤ maxLen) (hw : (Lit.int .i64 i).wf = true) (hT : Tabs w) : Calls Tryd.prog 5 #[.string s, .int .i64 i] w (BoolEnd true w) := by
  have hi : -9223372036854775808 ≤ i ∧ i ≤ 9223372036854775807 := by
    have a1 : IntKind.i64.min = -9223372036854775808 := rfl
    have a2 : IntKind.i64.max = 9223372036854775807 := rfl
    simp only [Lit.wf, Bool.and_eq_true, decide_eq_true_eq] at hw
    omega
  obtain ⟨p, hp⟩ : ∃ p, posA s i = p := ⟨_, rfl⟩
  have HT := Lib.hid hT
  have Hc := Lib.hid (fun W => pos_any s i p hp W hs hi)
  have Hd := Lib.hid (fun W => rpos_any s i p hp W hs hi)
  obtain ⟨L, C, E⟩ := p
  have q1 : (L != L) = false := by simp
  have q2 : (C != C) = false := by simp
  have q3 : (E != E) = false := by simp
  have hs' : s.size ≤ 9223372036854775807 := hs
  clear hT hw
  by_cases hE : E = 0
  · subst hE
    by_cases hlt : i < (s.size : Int)
    · have g1 : decide (i < (s.size : Int)) = true := by simpa using hlt
      have hbig : ¬ 65536 < s.size := fun h => by unfold posA at hp; rw [if_pos h] at hp; injection hp with _ h2; injection h2 with _ h3; exact absurd h3 (by decide)
      have hneg : ¬ (i < 0 ∨ (s.size : Int) < i) := fun h => by unfold posA at hp; rw [if_neg hbig, if_pos h] at hp; injection hp with _ h2; injection h2 with _ h3; exact absurd h3 (by decide)
      obtain ⟨n, rfl⟩ : ∃ n : Nat, i = (n : Int) := ⟨i.toNat, by omega⟩
      have hn : n < s.size := by omega
      have hp1 : posA s (n : Int) = (((posR s n).1 : Int), ((posR s n).2 : Int), 0) := by unfold posA; rw [if_neg hbig, if_neg hneg, Int.toNat_natCast]
      have hp2 : posA s ((n : Int) + 1) = (((posR s (n + 1)).1 : Int), ((posR s (n + 1)).2 : Int), 0) := by
        unfold posA
        rw [if_neg hbig, if_neg (by omega), show ((n : Int) + 1).toNat = n + 1 from by omega]
      have hle := posR_le s n
      rw [hp1] at hp
      injection hp with e1 e2
      injection e2 with e2 _
      have hL1 : -70000 ≤ L ∧ L ≤ 70000 := by omega
      have hC1 : -70000 ≤ C ∧ C ≤ 70000 := by omega
      obtain ⟨c, hc⟩ : ∃ c : Nat, (s[n]'hn).toNat = c := ⟨_, rfl⟩
      have hby := (byteI_at hn).trans (by rw [hc] : _ = (c : Int))
      obtain ⟨l1, l2⟩ := hL1
      obtain ⟨l3, l4⟩ := hC1
      by_cases h10 : c = 10
      · have e10 : ((c : Int) == 10) = true := by simp; omega
        have hq : posA s ((n : Int) + 1) = (L + 1, 1, 0) := by
          rw [hp2]
          unfold posR
          rw [hby, if_pos (by omega), ← e1]
          rfl
        have Hq := Lib.hid (fun W => pos_any s ((n : Int) + 1) _ hq W hs (by omega))
        clear hq hp1 hp2 hby hle e1 e2 hs hi
        go_enter Tryd.func5, Tryd.ntmps5
        go_wp2_with fail
        refine (Hc.out _).mono ?_
        rintro e w1 ⟨rfl, rfl⟩
        go_wp2_with fail
        refine (Hd.out _).mono ?_
        rintro e w1 ⟨rfl, rfl⟩
        go_wp2_with (first
          | (go_at_call 16; refine (Hq.out _).mono ?_; rintro e w1 ⟨rfl, rfl⟩)
          | (go_at_call 11; refine (awake_any _ HT.out).mono ?_; rintro e w8 ⟨rfl, hb8⟩; have Hb8 := Lib.hid hb8; clear hb8))
        go_ret
        exact ⟨rfl, Hb8.out⟩
      · have e10 : ((c : Int) == 10) = false := by simp; omega
        have hq : posA s ((n : Int) + 1) = (L, C + 1, 0) := by
          rw [hp2]
          unfold posR
          rw [hby, if_neg (by omega), ← e1, ← e2]
          rfl
        have Hq := Lib.hid (fun W => pos_any s ((n : Int) + 1) _ hq W hs (by omega))
        clear hq hp1 hp2 hby hle e1 e2 hs hi
        go_enter Tryd.func5, Tryd.ntmps5
        go_wp2_with fail
        refine (Hc.out _).mono ?_
        rintro e w1 ⟨rfl, rfl⟩
        go_wp2_with fail
        refine (Hd.out _).mono ?_
        rintro e w1 ⟨rfl, rfl⟩
        go_wp2_with (first
          | (go_at_call 16; refine (Hq.out _).mono ?_; rintro e w1 ⟨rfl, rfl⟩)
          | (go_at_call 11; refine (awake_any _ HT.out).mono ?_; rintro e w8 ⟨rfl, hb8⟩; have Hb8 := Lib.hid hb8; clear hb8))
        go_ret
        exact ⟨rfl, Hb8.out⟩
    · have g1 : decide (i < (s.size : Int)) = false := by simpa using hlt
      clear hp hs hi
      go_enter Tryd.func5, Tryd.ntmps5
      go_wp2_with fail
      refine (Hc.out _).mono ?_
      rintro e w1 ⟨rfl, rfl⟩
      go_wp2_with fail
      refine (Hd.out _).mono ?_
      rintro e w1 ⟨rfl, rfl⟩
      go_wp2_with (first
        | (go_at_call 11; refine (awake_any _ HT.out).mono ?_; rintro e w8 ⟨rfl, hb8⟩; have Hb8 := Lib.hid hb8; clear hb8))
      go_ret
      exact ⟨rfl, Hb8.out⟩
  · have g0 : (E == 0) = false := by simpa using hE
    clear hp hs hi
    go_enter Tryd.func5, Tryd.ntmps5
    go_wp2_with fail
    refine (Hc.out _).mono ?_
    rintro e w1 ⟨rfl, rfl⟩
    go_wp2_with fail
    refine (Hd.out _).mono ?_
    rintro e w1 ⟨rfl, rfl⟩
    go_wp2_with (first
      | (go_at_call 11; refine (awake_any _ HT.out).mono ?_; rintro e w8 ⟨rfl, hb8⟩; have Hb8 := Lib.hid hb8; clear hb8))
    go_ret
    exact ⟨rfl, Hb8.out⟩
end Go.Proofs.YtmnfonhfbolnkaaDoor
