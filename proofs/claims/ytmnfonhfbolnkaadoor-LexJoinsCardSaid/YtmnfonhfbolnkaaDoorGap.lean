/-
  gap: what lies between two tokens. (Written by gen_gap.py.)
-/
import Derived.Test.YtmnfonhfbolnkaaDoorSpansM
namespace Go.Proofs.YtmnfonhfbolnkaaDoor
open Go.RowKit
set_option linter.unusedVariables false
set_option linter.unusedSimpArgs false

set_option maxHeartbeats 4000000 in
theorem gap_any (s : ByteArray) (p a : Nat) (hp : skp s p = a) (hpa : p ≤ a) (has : a ≤ s.size) (u : ByteArray) (hu : s.extract p a = u) (w : World) (hs : s.size ≤ 65536) :
    Calls Tryd.prog 18 #[.string u] w fun e w' => e = .returned (.bool true) ∧ w' = w := by
  have hz : u.size = a - p := by rw [← hu, size_extract s p a has]
  have hby : ∀ i, p + i < a → byteI u i = byteI s (p + i) := fun i hi => by rw [← hu, byteI_extract s p a i has (by omega)]
  have Hby := Lib.hid hby
  have Hp := Lib.hid hp
  obtain ⟨n, hn⟩ : ∃ n, u.size = n := ⟨_, rfl⟩
  have hn2 : p + n = a := by omega
  have hn3 : n ≤ 65536 := by omega
  clear hby hp hu hz
  go_enter Tryd.func18, Tryd.ntmps18
  go_wp2
  go_loopw [3] (fun x W => ∃ k : Nat, x = .int .i64 k ∧ k ≤ n + 1 ∧ Hid (k ≤ n → skp s (p + k) = a) ∧ W = w) (fun x _ => n + 1 - (intOf x).toNat)
  case atStart => exact ⟨0, rfl, by omega, fun _ => Hp.out, rfl⟩
  case round =>
    obtain ⟨k, rfl, hk, hsk, rfl⟩ := hrel
    by_cases hlt : k < n
    · have hlu : k < u.size := by omega
      obtain ⟨c, hc⟩ : ∃ c : Nat, (u[k]'hlu).toNat = c := ⟨_, rfl⟩
      have hb1 := Lib.hid ((byteI_at hlu).trans (by rw [hc]) : byteI u k = (c : Int))
      have hb2 : Hid (byteI s (p + k) = (c : Int)) := by show _ = _; rw [← Hby.out k (by omega)]; exact hb1.out
      have hsk1 := Lib.hid (hsk.out (by omega))
      by_cases hcm : byteI s (p + k) = 47 ∧ byteI s (p + k + 1) = 47
      · have h2 := line_two hcm
        obtain ⟨f, hf⟩ : ∃ f, lb isLineR s (p + k) = f := ⟨_, rfl⟩
        have hled := lb_led isLineR s (p + k) (by omega)
        rw [hf] at h2 hled
        have hfs : skp s f = a := by rw [← hf, ← skp_comment hcm]; exact hsk1.out
        have hfa := (skp_ge s f hled.le).1
        rw [hfs] at hfa
        obtain ⟨m, rfl⟩ : ∃ m, f = p + m := ⟨f - p, by omega⟩
        have hmn : m ≤ n := by omega
        have hkm : k + 2 ≤ m := by omega
        have hlu1 : k + 1 < u.size := by omega
        obtain ⟨d, hd⟩ : ∃ d : Nat, (u[k + 1]'hlu1).toNat = d := ⟨_, rfl⟩
        have hd47 : d = 47 := by
          have h1 : byteI u (k + 1) = (d : Int) := (byteI_at hlu1).trans (by rw [hd])
          have h2 := Hby.out (k + 1) (by omega)
          have h3 := hcm.2
          rw [show p + (k + 1) = p + k + 1 from by omega] at h2
          omega
        have hc47 : c = 47 := by have := hb2.out; have := hcm.1; omega
        have e47 : ((c : Int) == 47) = true := by simp; omega
        have f47 : ((d : Int) == 47) = true := by simp; omega
        have Hled := Lib.hid hled
        have Hfs := Lib.hid hfs
        have g1 : decide ((k : Int) + 1 < (n : Int)) = true := by simp; omega
        clear hcm hf hled hfs hfa hb1 hb2 h2
        go_wp2
        go_loopw [3] (fun x W => ∃ j : Nat, x = .int .i64 j ∧ k ≤ j ∧ j ≤ m ∧ W = wr) (fun x _ => m - (intOf x).toNat)
        case atStart => exact ⟨k, rfl, Nat.le_refl _, by omega, rfl⟩
        case round =>
          obtain ⟨j, rfl, hkj, hjm, rfl⟩ := hrel
          by_cases hjl : j < m
          · have hju : j < u.size := by omega
            obtain ⟨g, hg⟩ : ∃ g : Nat, (u[j]'hju).toNat = g := ⟨_, rfl⟩
            have hg10 : g ≠ 10 := by
              have h1 : byteI u j = (g : Int) := (byteI_at hju).trans (by rw [hg])
              have h2 := Hby.out j (by omega)
              have h3 := Hled.out.all (p + j) (by omega) (by omega)
              rw [← h2, h1] at h3
              intro h
              rw [h] at h3
              exact absurd h3 (by decide)
            have q10 : ((g : Int) != 10) = true := by simp; omega
            go_wp2
            go_roundw
            case rel => exact ⟨j + 1, by go_num, by omega, by omega, by trivial⟩
            case measure => simp [intOf]; omega
          · obtain rfl : j = m := by omega
            by_cases hjn : j < n
            · have hju : j < u.size := by omega
              obtain ⟨g, hg⟩ : ∃ g : Nat, (u[j]'hju).toNat = g := ⟨_, rfl⟩
              have h1 : byteI u j = (g : Int) := (byteI_at hju).trans (by rw [hg])
              have h2 := Hby.out j (by omega)
              have h3 := line_ten (Hled.out.stop (by omega))
              have q10 : ((g : Int) != 10) = false := by simp; omega
              have Hn : Hid (j + 1 ≤ n → skp s (p + (j + 1)) = a) := fun _ => by
                rw [← Nat.add_assoc, ← skp_space (show p + j < s.size by omega) (by rw [h3]; decide)]
                exact Hfs.out
              clear h1 h2 h3
              go_wp2
              go_roundw
              case rel => exact ⟨j + 1, by go_num, by omega, Hn, by trivial⟩
              case measure => simp [intOf]; omega
            · have Hn : Hid (j + 1 ≤ n → skp s (p + (j + 1)) = a) := fun h => by omega
              go_wp2
              go_roundw
              case rel => exact ⟨j + 1, by go_num, by omega, Hn, by trivial⟩
              case measure => simp [intOf]; omega
      · have hsp : isSpcR (byteI s (p + k)) = true := by
          cases h : isSpcR (byteI s (p + k)) with
          | true => rfl
          | false =>
            have h1 := hsk1.out
            rw [skp_stop h hcm] at h1
            omega
        have Hn : Hid (k + 1 ≤ n → skp s (p + (k + 1)) = a) := fun _ => by
          rw [← Nat.add_assoc, ← skp_space (show p + k < s.size by omega) hsp]
          exact hsk1.out
        have hsc : c = 32 ∨ c = 9 ∨ c = 13 ∨ c = 10 := by
          rw [hb2.out] at hsp
          unfold isSpcR at hsp
          simp only [Bool.or_eq_true, beq_iff_eq] at hsp
          omega
        have e47 : ((c : Int) == 47) = false := by simp; omega
        clear hcm hb1 hb2 hsp
        rcases hsc with hv | hv | hv | hv
        · have n32 : ((c : Int) != 32) = false := by simp; omega
          have n9 : ((c : Int) != 9) = true := by simp; omega
          have n13 : ((c : Int) != 13) = true := by simp; omega
          have n10 : ((c : Int) != 10) = true := by simp; omega
          clear hv
          go_wp2
          go_roundw
          case rel => exact ⟨k + 1, by go_num, by omega, Hn, by trivial⟩
          case measure => simp [intOf]; omega
        · have n32 : ((c : Int) != 32) = true := by simp; omega
          have n9 : ((c : Int) != 9) = false := by simp; omega
          have n13 : ((c : Int) != 13) = true := by simp; omega
          have n10 : ((c : Int) != 10) = true := by simp; omega
          clear hv
          go_wp2
          go_roundw
          case rel => exact ⟨k + 1, by go_num, by omega, Hn, by trivial⟩
          case measure => simp [intOf]; omega
        · have n32 : ((c : Int) != 32) = true := by simp; omega
          have n9 : ((c : Int) != 9) = true := by simp; omega
          have n13 : ((c : Int) != 13) = false := by simp; omega
          have n10 : ((c : Int) != 10) = true := by simp; omega
          clear hv
          go_wp2
          go_roundw
          case rel => exact ⟨k + 1, by go_num, by omega, Hn, by trivial⟩
          case measure => simp [intOf]; omega
        · have n32 : ((c : Int) != 32) = true := by simp; omega
          have n9 : ((c : Int) != 9) = true := by simp; omega
          have n13 : ((c : Int) != 13) = true := by simp; omega
          have n10 : ((c : Int) != 10) = false := by simp; omega
          clear hv
          go_wp2
          go_roundw
          case rel => exact ⟨k + 1, by go_num, by omega, Hn, by trivial⟩
          case measure => simp [intOf]; omega
    · have g0 : decide ((k : Int) < (n : Int)) = false := by simp; omega
      go_wp2
      go_ret
      exact ⟨rfl, rfl⟩
end Go.Proofs.YtmnfonhfbolnkaaDoor
