/-
  Position, the program's and the definition's.
-/
import Derived.Test.YtmnfonhfbolnkaaDoorPosM
import Derived.Test.YtmnfonhfbolnkaaDoorShelfBP
import Derived.Shelf.Strings.Count
import Derived.Shelf.Strings.LastIndex
namespace Go.Proofs.YtmnfonhfbolnkaaDoor
open Go.RowKit Go.Shelf
set_option linter.unusedVariables false
set_option linter.unusedSimpArgs false

def PosEnd (p : Int × Int × Int) (w : World) (e : Ending) (w' : World) : Prop := e = .returned (.tuple #[.int .i64 p.1, .int .i64 p.2.1, .int .i64 p.2.2]) ∧ w' = w
theorem count_at (t : ByteArray) (n : Nat) (hn : Lib.countByte t.data.toList 10 = n) (w : World) : Calls Tryd.prog 31 #[.string t, .string ⟨#[10]⟩] w fun e w' => e = .returned (.int .i64 (n : Int)) ∧ w' = w := by
  subst hn; exact Any.strings_Count_one Tryd.count t 10 w
theorem lastByte_at (t : ByteArray) (n : Int) (hn : Lib.lastIndexByte t 10 = n) (w : World) (hs : t.size ≤ 65536) : Calls Tryd.prog 32 #[.string t, .int .u8 10] w fun e w' => e = .returned (.int .i64 n) ∧ w' = w := by
  subst hn; exact Any.strings_LastIndexByte Tryd.lastByte t 10 (by omega) w
set_option maxHeartbeats 4000000 in
set_option maxRecDepth 100000 in
theorem pos_any (s : ByteArray) (i : Int) (p : Int × Int × Int) (hp : posA s i = p) (w : World) (hs : s.size ≤ maxLen) (hi : -9223372036854775808 ≤ i ∧ i ≤ 9223372036854775807) : Calls Tryd.prog 16 #[.string s, .int .i64 i] w (PosEnd p w) := by
  unfold posA at hp
  unfold maxLen at hs
  by_cases hbig : 65536 < s.size
  · rw [if_pos hbig] at hp
    subst hp
    have g : decide ((65536 : Int) < (s.size : Int)) = true := by simp; omega
    go_enter Tryd.func16, Tryd.ntmps16
    go_wp2
    refine bodyPost_ret (v := .tuple #[.int .i64 0, .int .i64 0, .int .i64 3]) (by simp [results, Tryd.results16, go_sem]) rfl ?_
    exact ⟨rfl, rfl⟩
  · rw [if_neg hbig] at hp
    have g : decide ((65536 : Int) < (s.size : Int)) = false := by simp; omega
    by_cases hneg : i < 0
    · rw [if_pos (.inl hneg)] at hp
      subst hp
      have g1 : decide (i < (0 : Int)) = true := by simpa using hneg
      go_enter Tryd.func16, Tryd.ntmps16
      go_wp2
      refine bodyPost_ret (v := .tuple #[.int .i64 0, .int .i64 0, .int .i64 4]) (by simp [results, Tryd.results16, go_sem]) rfl ?_
      exact ⟨rfl, rfl⟩
    · have g1 : decide (i < (0 : Int)) = false := by simpa using hneg
      by_cases hgt : (s.size : Int) < i
      · rw [if_pos (.inr hgt)] at hp
        subst hp
        have g2 : decide ((s.size : Int) < i) = true := by simpa using hgt
        go_enter Tryd.func16, Tryd.ntmps16
        go_wp2
        refine bodyPost_ret (v := .tuple #[.int .i64 0, .int .i64 0, .int .i64 4]) (by simp [results, Tryd.results16, go_sem]) rfl ?_
        exact ⟨rfl, rfl⟩
      · rw [if_neg (by omega)] at hp
        obtain ⟨n, rfl⟩ : ∃ n : Nat, i = (n : Int) := ⟨i.toNat, by omega⟩
        have hn : n ≤ s.size := by omega
        rw [Int.toNat_natCast] at hp
        have g2 : decide ((s.size : Int) < (n : Int)) = false := by simp; omega
        have hc := count_pos s n hn
        have hl := lastByte_pos s n hn
        have hle := posR_le s n
        have hz : (s.extract 0 n).size = n := by rw [size_extract s 0 n hn]; omega
        obtain ⟨q, hq⟩ : ∃ q, Lib.countByte (s.extract 0 n).data.toList 10 = q := ⟨_, rfl⟩
        obtain ⟨m, hm⟩ : ∃ m, Lib.lastIndexByte (s.extract 0 n) 10 = m := ⟨_, rfl⟩
        rw [hq] at hc
        rw [hm] at hl
        have Hq := Lib.hid hq
        have Hm := Lib.hid hm
        have hm1 : m = (n : Int) - ((posR s n).2 : Int) := by omega
        obtain ⟨L, hL⟩ : ∃ L, (posR s n).1 = L := ⟨_, rfl⟩
        obtain ⟨C, hC⟩ : ∃ C, (posR s n).2 = C := ⟨_, rfl⟩
        rw [hL, hC] at hp
        rw [hL] at hc
        rw [hC] at hl hm1
        rw [hL, hC] at hle
        have hq1 : q ≤ 70000 := by omega
        have hC1 : C ≤ 70000 := by omega
        have Hp : Hid (p = ((L : Int), (C : Int), 0)) := hp.symm
        have Hc := Lib.hid hc
        have Hl := Lib.hid hl
        have hm2 : m ≤ 70000 := by omega
        have hm3 : -70000 ≤ m := by omega
        clear hp hq hm hc hl hm1 hL hC hle
        go_enter Tryd.func16, Tryd.ntmps16
        go_wp2_with (first | (go_at_call 31; refine (count_at _ q Hq.out _).mono ?_; rintro e w' ⟨rfl, rfl⟩) | (go_at_call 32; refine (lastByte_at _ m Hm.out _ (by omega)).mono ?_; rintro e w' ⟨rfl, rfl⟩))
        refine bodyPost_ret (v := .tuple #[.int .i64 (1 + (q : Int)), .int .i64 ((n : Int) - m), .int .i64 0]) (by simp [results, Tryd.results16, go_sem]) rfl ?_
        have e1 : (1 + (q : Int)) = (L : Int) := by have := Hc.out; omega
        have e2 : ((n : Int) - m) = (C : Int) := by have := Hl.out; omega
        exact ⟨by rw [Hp.out, e1, e2], rfl⟩
set_option maxHeartbeats 4000000 in
set_option maxRecDepth 100000 in
theorem rpos_any (s : ByteArray) (i : Int) (p : Int × Int × Int) (hp : posA s i = p) (w : World) (hs : s.size ≤ maxLen) (hi : -9223372036854775808 ≤ i ∧ i ≤ 9223372036854775807) : Calls Tryd.prog 17 #[.string s, .int .i64 i] w (PosEnd p w) := by
  unfold posA at hp
  unfold maxLen at hs
  by_cases hbig : 65536 < s.size
  · rw [if_pos hbig] at hp
    subst hp
    have g : decide ((65536 : Int) < (s.size : Int)) = true := by simp; omega
    go_enter Tryd.func17, Tryd.ntmps17
    go_wp2
    refine bodyPost_ret (v := .tuple #[.int .i64 0, .int .i64 0, .int .i64 3]) (by simp [results, Tryd.results17, go_sem]) rfl ?_
    exact ⟨rfl, rfl⟩
  · rw [if_neg hbig] at hp
    have g : decide ((65536 : Int) < (s.size : Int)) = false := by simp; omega
    by_cases hneg : i < 0
    · rw [if_pos (.inl hneg)] at hp
      subst hp
      have g1 : decide (i < (0 : Int)) = true := by simpa using hneg
      go_enter Tryd.func17, Tryd.ntmps17
      go_wp2
      refine bodyPost_ret (v := .tuple #[.int .i64 0, .int .i64 0, .int .i64 4]) (by simp [results, Tryd.results17, go_sem]) rfl ?_
      exact ⟨rfl, rfl⟩
    · have g1 : decide (i < (0 : Int)) = false := by simpa using hneg
      by_cases hgt : (s.size : Int) < i
      · rw [if_pos (.inr hgt)] at hp
        subst hp
        have g2 : decide ((s.size : Int) < i) = true := by simpa using hgt
        go_enter Tryd.func17, Tryd.ntmps17
        go_wp2
        refine bodyPost_ret (v := .tuple #[.int .i64 0, .int .i64 0, .int .i64 4]) (by simp [results, Tryd.results17, go_sem]) rfl ?_
        exact ⟨rfl, rfl⟩
      · rw [if_neg (by omega)] at hp
        obtain ⟨n, rfl⟩ : ∃ n : Nat, i = (n : Int) := ⟨i.toNat, by omega⟩
        have hn : n ≤ s.size := by omega
        rw [Int.toNat_natCast] at hp
        have g2 : decide ((s.size : Int) < (n : Int)) = false := by simp; omega
        have Hp : Hid (p = (((posR s n).1 : Int), ((posR s n).2 : Int), 0)) := hp.symm
        clear hp
        go_enter Tryd.func17, Tryd.ntmps17
        go_wp2
        go_loopw [7, 8, 9] (fun x y z W => ∃ k : Nat, k ≤ n ∧ z = .int .i64 k ∧ x = .int .i64 ((posR s k).1 : Int) ∧ y = .int .i64 ((posR s k).2 : Int) ∧ W = w) (fun _ _ z _ => n - (intOf z).toNat)
        case atStart => exact ⟨0, Nat.zero_le _, rfl, rfl, rfl, rfl⟩
        case round =>
          obtain ⟨k, hk, rfl, rfl, rfl, rfl⟩ := hrel
          have hle := posR_le s k
          obtain ⟨L, hL⟩ : ∃ L, (posR s k).1 = L := ⟨_, rfl⟩
          obtain ⟨C, hC⟩ : ∃ C, (posR s k).2 = C := ⟨_, rfl⟩
          rw [hL, hC] at hle ⊢
          have HL := Lib.hid hL
          have HC := Lib.hid hC
          obtain ⟨l1, l2⟩ := hle
          clear hL hC
          by_cases hlt : k < n
          · have hls : k < s.size := by omega
            obtain ⟨c, hc⟩ : ∃ c : Nat, (s[k]'hls).toNat = c := ⟨_, rfl⟩
            have hby := Lib.hid ((byteI_at hls).trans (by rw [hc]) : byteI s k = (c : Int))
            by_cases h10 : c = 10
            · have e : ((c : Int) == 10) = true := by simp; omega
              have Hn : Hid (posR s (k + 1) = (L + 1, 1)) := by show _ = _; unfold posR; rw [hby.out, if_pos (by omega), HL.out]
              go_wp2
              go_roundw
              case rel => exact ⟨k + 1, by omega, by go_num, by rw [Hn.out]; go_num, by rw [Hn.out]; rfl, by trivial⟩
              case measure => simp [intOf]; omega
            · have e : ((c : Int) == 10) = false := by simp; omega
              have Hn : Hid (posR s (k + 1) = (L, C + 1)) := by show _ = _; unfold posR; rw [hby.out, if_neg (by omega), HL.out, HC.out]
              go_wp2
              go_roundw
              case rel => exact ⟨k + 1, by omega, by go_num, by rw [Hn.out], by rw [Hn.out]; go_num, by trivial⟩
              case measure => simp [intOf]; omega
          · obtain rfl : k = n := by omega
            go_wp2
            refine bodyPost_ret (v := .tuple #[.int .i64 (L : Int), .int .i64 (C : Int), .int .i64 0]) (by simp [results, Tryd.results17, go_sem]) rfl ?_
            exact ⟨by rw [Hp.out, HL.out, HC.out], rfl⟩
end Go.Proofs.YtmnfonhfbolnkaaDoor
