/-
  The definition's skip: behind separators and comments. (Written by gen_skip.py.)
-/
import Derived.Test.YtmnfonhfbolnkaaDoorRByte
import Derived.LoopTactic
namespace Go.Proofs.YtmnfonhfbolnkaaDoor
open Go.RowKit
set_option linter.unusedVariables false
set_option linter.unusedSimpArgs false

theorem ret_i {a b : Nat} (h : a = b) : Ending.returned (.int .i64 (a : Int)) = .returned (.int .i64 (b : Int)) := by rw [h]
theorem lb_next {p : Int → Bool} {s : ByteArray} {k : Nat} (h : k < s.size) (hp : p (byteI s k) = true) : lb p s k = lb p s (k + 1) := by rw [lb, if_pos h, if_pos hp]
theorem lb_stop {p : Int → Bool} {s : ByteArray} {k : Nat} (h : k < s.size) (hp : p (byteI s k) = false) : lb p s k = k := by rw [lb, if_pos h, if_neg (by rw [hp]; decide)]
theorem lb_end {p : Int → Bool} {s : ByteArray} {k : Nat} (h : ¬ k < s.size) : lb p s k = k := by rw [lb, if_neg h]
set_option maxHeartbeats 4000000 in
theorem rskip_any (s : ByteArray) (pos p : Nat) (hp : skp s pos = p) (hle : pos ≤ s.size) (w : World) (hs : s.size ≤ 65536) :
    Calls Tryd.prog 26 #[.string s, .int .i64 pos] w fun e w' => e = .returned (.int .i64 p) ∧ w' = w := by
  have Hp := Lib.hid hp
  clear hp
  go_enter Tryd.func26, Tryd.ntmps26
  go_wp2
  go_loopw [1] (fun x W => ∃ k : Nat, k ≤ s.size ∧ x = .int .i64 k ∧ Hid (skp s k = p) ∧ W = w) (fun x _ => s.size - (intOf x).toNat)
  case atStart => exact ⟨pos, hle, rfl, Hp, rfl⟩
  case round =>
    obtain ⟨k, hk, rfl, hsk, rfl⟩ := hrel
    by_cases hlt : k < s.size
    · obtain ⟨c, hc⟩ : ∃ c : Nat, (s[k]'hlt).toNat = c := ⟨_, rfl⟩
      have hby := Lib.hid ((byteI_at hlt).trans (by rw [hc]) : byteI s k = (c : Int))
      by_cases h32 : c = 32
      · have e32 : ((c : Int) == 32) = true := by simp; omega
        have e9 : ((c : Int) == 9) = false := by simp; omega
        have e13 : ((c : Int) == 13) = false := by simp; omega
        have e10 : ((c : Int) == 10) = false := by simp; omega
        have Hn : Hid (skp s (k + 1) = p) := by show _ = _; rw [← skp_space hlt (by rw [hby.out]; unfold isSpcR; simp [e32, e9, e13, e10])]; exact hsk.out
        go_wp2
        go_roundw
        case rel => exact ⟨k + 1, by omega, by go_num, Hn, by trivial⟩
        case measure => simp [intOf]; omega
      have e32 : ((c : Int) == 32) = false := by simp; omega
      by_cases h9 : c = 9
      · have e9 : ((c : Int) == 9) = true := by simp; omega
        have e13 : ((c : Int) == 13) = false := by simp; omega
        have e10 : ((c : Int) == 10) = false := by simp; omega
        have Hn : Hid (skp s (k + 1) = p) := by show _ = _; rw [← skp_space hlt (by rw [hby.out]; unfold isSpcR; simp [e32, e9, e13, e10])]; exact hsk.out
        go_wp2
        go_roundw
        case rel => exact ⟨k + 1, by omega, by go_num, Hn, by trivial⟩
        case measure => simp [intOf]; omega
      have e9 : ((c : Int) == 9) = false := by simp; omega
      by_cases h13 : c = 13
      · have e13 : ((c : Int) == 13) = true := by simp; omega
        have e10 : ((c : Int) == 10) = false := by simp; omega
        have Hn : Hid (skp s (k + 1) = p) := by show _ = _; rw [← skp_space hlt (by rw [hby.out]; unfold isSpcR; simp [e32, e9, e13, e10])]; exact hsk.out
        go_wp2
        go_roundw
        case rel => exact ⟨k + 1, by omega, by go_num, Hn, by trivial⟩
        case measure => simp [intOf]; omega
      have e13 : ((c : Int) == 13) = false := by simp; omega
      by_cases h10 : c = 10
      · have e10 : ((c : Int) == 10) = true := by simp; omega
        have Hn : Hid (skp s (k + 1) = p) := by show _ = _; rw [← skp_space hlt (by rw [hby.out]; unfold isSpcR; simp [e32, e9, e13, e10])]; exact hsk.out
        go_wp2
        go_roundw
        case rel => exact ⟨k + 1, by omega, by go_num, Hn, by trivial⟩
        case measure => simp [intOf]; omega
      have e10 : ((c : Int) == 10) = false := by simp; omega
      have hsp : Hid (isSpcR (byteI s k) = false) := by show _ = _; rw [hby.out]; unfold isSpcR; simp [e32, e9, e13, e10]
      have stop : ¬ (byteI s k = 47 ∧ byteI s (k + 1) = 47) → Hid (k = p) := fun h => by show _ = _; rw [← hsk.out, skp_stop hsp.out h]
      by_cases h47 : c = 47
      · have e47 : ((c : Int) != 47) = false := by simp; omega
        by_cases hn1 : k + 1 < s.size
        · obtain ⟨d, hd⟩ : ∃ d : Nat, (s[k + 1]'hn1).toNat = d := ⟨_, rfl⟩
          have hdy := Lib.hid ((byteI_at hn1).trans (by rw [hd]) : byteI s (k + 1) = (d : Int))
          by_cases d47 : d = 47
          · have f47 : ((d : Int) != 47) = false := by simp; omega
            have hco : byteI s k = 47 ∧ byteI s (k + 1) = 47 := ⟨by rw [hby.out]; omega, by rw [hdy.out]; omega⟩
            have Hn : Hid (skp s (lb isLineR s k) = p) := by show _ = _; rw [← skp_comment hco]; exact hsk.out
            have Hgt := Lib.hid (line_gt hlt hco.1)
            have Hle := Lib.hid (lb_led isLineR s k hk).le
            clear stop hco hsp hby hdy
            go_wp2
            go_loopw [1] (fun x W => ∃ j : Nat, k ≤ j ∧ j ≤ s.size ∧ x = .int .i64 j ∧ Hid (lb isLineR s j = lb isLineR s k) ∧ W = wr) (fun x _ => s.size - (intOf x).toNat)
            case atStart => exact ⟨k, Nat.le_refl _, hk, rfl, rfl, rfl⟩
            case round =>
              obtain ⟨j, hkj, hj, rfl, hlb, rfl⟩ := hrel
              by_cases hjl : j < s.size
              · obtain ⟨g, hg⟩ : ∃ g : Nat, (s[j]'hjl).toNat = g := ⟨_, rfl⟩
                have hgy := Lib.hid ((byteI_at hjl).trans (by rw [hg]) : byteI s j = (g : Int))
                by_cases g10 : g = 10
                · have q10 : ((g : Int) != 10) = false := by simp; omega
                  have hst : Hid (lb isLineR s k = j) := by show _ = _; rw [← hlb.out, lb_stop hjl (by rw [hgy.out]; unfold isLineR; exact q10)]
                  have Hn2 : Hid (skp s j = p) := by show _ = _; rw [← hst.out]; exact Hn.out
                  have Hgt2 : k + 1 ≤ j := by rw [← hst.out]; exact Hgt.out
                  clear hst
                  go_wp2
                  go_roundw
                  case rel => exact ⟨j, hj, by go_num, Hn2, by trivial⟩
                  case measure => simp [intOf]; omega
                · have q10 : ((g : Int) != 10) = true := by simp; omega
                  have Hl2 : Hid (lb isLineR s (j + 1) = lb isLineR s k) := by show _ = _; rw [← lb_next hjl (by rw [hgy.out]; unfold isLineR; exact q10)]; exact hlb.out
                  go_wp2
                  go_roundw
                  case rel => exact ⟨j + 1, by omega, by omega, by go_num, Hl2, by trivial⟩
                  case measure => simp [intOf]; omega
              · have hst : Hid (lb isLineR s k = j) := by show _ = _; rw [← hlb.out, lb_end hjl]
                have Hn2 : Hid (skp s j = p) := by show _ = _; rw [← hst.out]; exact Hn.out
                have Hgt2 : k + 1 ≤ j := by rw [← hst.out]; exact Hgt.out
                clear hst
                go_wp2
                go_roundw
                case rel => exact ⟨j, hj, by go_num, Hn2, by trivial⟩
                case measure => simp [intOf]; omega
          · have f47 : ((d : Int) != 47) = true := by simp; omega
            have Hs := stop (by rw [hby.out, hdy.out]; omega)
            clear stop
            go_wp2
            go_ret
            exact ⟨ret_i Hs.out, rfl⟩
        · have Hs := stop (by rw [byteI_out (show s.size ≤ k + 1 by omega)]; omega)
          have hge : (decide ((s.size : Int) ≤ (k : Int) + 1)) = true := by simp; omega
          clear stop
          go_wp2
          go_ret
          exact ⟨ret_i Hs.out, rfl⟩
      · have e47 : ((c : Int) != 47) = true := by simp; omega
        have Hs := stop (by rw [hby.out]; omega)
        clear stop
        go_wp2
        go_ret
        exact ⟨ret_i Hs.out, rfl⟩
    · have Hs : Hid (k = p) := by show _ = _; rw [← hsk.out, skp_end hlt]
      go_wp2
      go_ret
      exact ⟨ret_i Hs.out, rfl⟩
end Go.Proofs.YtmnfonhfbolnkaaDoor
