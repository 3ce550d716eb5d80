/-
  The law LexWords. (Written by gen_words.py.)
-/
import Derived.Test.YtmnfonhfbolnkaaDoorWordsM
namespace Go.Proofs.YtmnfonhfbolnkaaDoor
open Go.RowKit
set_option linter.unusedVariables false
set_option linter.unusedSimpArgs false

theorem rkeyW_any (s : ByteArray) (b : Bool) (hb : isW s 2 = b) (w : World) (hs : s.size ≤ maxLen) : Calls Tryd.prog 15 #[.string s] w (BoolEnd b w) := by
  rw [isW_key] at hb
  exact rkey_at s b hb w hs
set_option maxHeartbeats 8000000 in
set_option maxRecDepth 100000 in
theorem words_err (s : ByteArray) (w : World) (hs : s.size ≤ 281474976710656) (hT : Tabs w) (r : Whole) (hr : whole s = r) (b1 b2 : Bool) (h1 : isW s 1 = b1) (h2 : isW s 2 = b2) (he : (r.e == 0) = false) (n1 : b1 = false) (n2 : b2 = false) : Calls Tryd.prog 4 #[.string s] w (BoolEnd true w) := by
  have hs' : s.size ≤ maxLen := by unfold maxLen; omega
  have HT := Lib.hid hT
  have Hc := Lib.hid (fun W (hW : Tabs W) => tokens_any s r hr W hs' hW)
  have HI := Lib.hid (fun W (hW : Tabs W) => ident_any s b1 h1 W hs hW)
  have HK := Lib.hid (fun W (hW : Tabs W) => keyword_any s b2 h2 W hs hW)
  have HJ := Lib.hid (fun W => rident_any s b1 h1 W hs')
  have HL := Lib.hid (fun W => rkeyW_any s b2 h2 W hs')
  subst n1 n2
  have q1 : (false != false) = false := by simp
  have q2 : (false != false) = false := by simp
  clear hr hT hs h1 h2
  go_enter Tryd.func4, Tryd.ntmps4
  go_wp2_with fail
  refine (HI.out w HT.out).mono ?_
  rintro e w1 ⟨rfl, hb1⟩
  have HT1 := Lib.hid (HT.out.below hb1 (Nat.le_refl _))
  have Hb1 := Lib.hid (hb1)
  clear hb1
  go_wp2_with fail
  refine (HJ.out w1).mono ?_
  rintro e w2 ⟨rfl, hb2⟩
  have HT2 := Lib.hid (HT1.out.below hb2 (Nat.le_refl _))
  have Hb2 := Lib.hid (Hb1.out.trans (hb2.mono Hb1.out.size))
  clear hb2
  go_wp2_with fail
  refine (HK.out w2 HT2.out).mono ?_
  rintro e w3 ⟨rfl, hb3⟩
  have HT3 := Lib.hid (HT2.out.below hb3 (Nat.le_refl _))
  have Hb3 := Lib.hid (Hb2.out.trans (hb3.mono Hb2.out.size))
  clear hb3
  go_wp2_with fail
  refine (HL.out w3).mono ?_
  rintro e w4 ⟨rfl, hb4⟩
  have HT4 := Lib.hid (HT3.out.below hb4 (Nat.le_refl _))
  have Hb4 := Lib.hid (Hb3.out.trans (hb4.mono Hb3.out.size))
  clear hb4
  go_wp2_with fail
  refine (Hc.out w4 HT4.out).mono ?_
  rintro e w5 ⟨v, rfl, hown, hb5⟩
  obtain ⟨a, c, rfl, hrd⟩ := hown.shape
  have HT5 := Lib.hid (HT4.out.below hb5 (Nat.le_refl _))
  have Hb5 := Lib.hid (Hb4.out.trans (hb5.mono Hb4.out.size))
  clear hb5 hown
  go_wp2_with (first
    | (go_at_call 12; refine (HI.out _ HT5.out).mono ?_; rintro e w6 ⟨rfl, hb6⟩; have HT6 := Lib.hid (HT5.out.below hb6 (Nat.le_refl _)); have Hb6 := Lib.hid (Hb5.out.trans (hb6.mono Hb5.out.size)); clear hb6)
    | (go_at_call 14; refine (HK.out _ HT6.out).mono ?_; rintro e w7 ⟨rfl, hb7⟩; have HT7 := Lib.hid (HT6.out.below hb7 (Nat.le_refl _)); have Hb7 := Lib.hid (Hb6.out.trans (hb7.mono Hb6.out.size)); clear hb7)
    | (go_at_call 11; refine (awake_any _ HT7.out).mono ?_; rintro e w8 ⟨rfl, hb8⟩; have Hb8 := Lib.hid (Hb7.out.trans (hb8.mono Hb7.out.size)); clear hb8))
  go_ret
  exact ⟨rfl, Hb8.out⟩
set_option maxHeartbeats 8000000 in
set_option maxRecDepth 100000 in
theorem words_len (s : ByteArray) (w : World) (hs : s.size ≤ 281474976710656) (hT : Tabs w) (r : Whole) (hr : whole s = r) (b1 b2 : Bool) (h1 : isW s 1 = b1) (h2 : isW s 2 = b2) (he : (r.e == 0) = true) (hl : ((r.l.length : Int) == 2) = false) (n1 : b1 = false) (n2 : b2 = false) : Calls Tryd.prog 4 #[.string s] w (BoolEnd true w) := by
  have hs' : s.size ≤ maxLen := by unfold maxLen; omega
  have HT := Lib.hid hT
  have Hc := Lib.hid (fun W (hW : Tabs W) => tokens_any s r hr W hs' hW)
  have HI := Lib.hid (fun W (hW : Tabs W) => ident_any s b1 h1 W hs hW)
  have HK := Lib.hid (fun W (hW : Tabs W) => keyword_any s b2 h2 W hs hW)
  have HJ := Lib.hid (fun W => rident_any s b1 h1 W hs')
  have HL := Lib.hid (fun W => rkeyW_any s b2 h2 W hs')
  subst n1 n2
  have q1 : (false != false) = false := by simp
  have q2 : (false != false) = false := by simp
  clear hr hT hs h1 h2
  go_enter Tryd.func4, Tryd.ntmps4
  go_wp2_with fail
  refine (HI.out w HT.out).mono ?_
  rintro e w1 ⟨rfl, hb1⟩
  have HT1 := Lib.hid (HT.out.below hb1 (Nat.le_refl _))
  have Hb1 := Lib.hid (hb1)
  clear hb1
  go_wp2_with fail
  refine (HJ.out w1).mono ?_
  rintro e w2 ⟨rfl, hb2⟩
  have HT2 := Lib.hid (HT1.out.below hb2 (Nat.le_refl _))
  have Hb2 := Lib.hid (Hb1.out.trans (hb2.mono Hb1.out.size))
  clear hb2
  go_wp2_with fail
  refine (HK.out w2 HT2.out).mono ?_
  rintro e w3 ⟨rfl, hb3⟩
  have HT3 := Lib.hid (HT2.out.below hb3 (Nat.le_refl _))
  have Hb3 := Lib.hid (Hb2.out.trans (hb3.mono Hb2.out.size))
  clear hb3
  go_wp2_with fail
  refine (HL.out w3).mono ?_
  rintro e w4 ⟨rfl, hb4⟩
  have HT4 := Lib.hid (HT3.out.below hb4 (Nat.le_refl _))
  have Hb4 := Lib.hid (Hb3.out.trans (hb4.mono Hb3.out.size))
  clear hb4
  go_wp2_with fail
  refine (Hc.out w4 HT4.out).mono ?_
  rintro e w5 ⟨v, rfl, hown, hb5⟩
  obtain ⟨a, c, rfl, hrd⟩ := hown.shape
  have HT5 := Lib.hid (HT4.out.below hb5 (Nat.le_refl _))
  have Hb5 := Lib.hid (Hb4.out.trans (hb5.mono Hb4.out.size))
  clear hb5 hown
  go_wp2_with (first
    | (go_at_call 12; refine (HI.out _ HT5.out).mono ?_; rintro e w6 ⟨rfl, hb6⟩; have HT6 := Lib.hid (HT5.out.below hb6 (Nat.le_refl _)); have Hb6 := Lib.hid (Hb5.out.trans (hb6.mono Hb5.out.size)); clear hb6)
    | (go_at_call 14; refine (HK.out _ HT6.out).mono ?_; rintro e w7 ⟨rfl, hb7⟩; have HT7 := Lib.hid (HT6.out.below hb7 (Nat.le_refl _)); have Hb7 := Lib.hid (Hb6.out.trans (hb7.mono Hb6.out.size)); clear hb7)
    | (go_at_call 11; refine (awake_any _ HT7.out).mono ?_; rintro e w8 ⟨rfl, hb8⟩; have Hb8 := Lib.hid (Hb7.out.trans (hb8.mono Hb7.out.size)); clear hb8))
  go_ret
  exact ⟨rfl, Hb8.out⟩
set_option maxHeartbeats 8000000 in
set_option maxRecDepth 100000 in
theorem words_txt (s : ByteArray) (w : World) (hs : s.size ≤ 281474976710656) (hT : Tabs w) (r : Whole) (hr : whole s = r) (b1 b2 : Bool) (h1 : isW s 1 = b1) (h2 : isW s 2 = b2) (he : (r.e == 0) = true) (hl : r.l.length = 2) (t0 : ByteArray) (k : Int) (htt : (r.l.getD 0 tokD).t = t0) (hkk : (r.l.getD 0 tokD).k = k) (ht : (t0.toList == s.toList) = false) (n1 : b1 = false) (n2 : b2 = false) : Calls Tryd.prog 4 #[.string s] w (BoolEnd true w) := by
  have hs' : s.size ≤ maxLen := by unfold maxLen; omega
  have HT := Lib.hid hT
  have Hc := Lib.hid (fun W (hW : Tabs W) => tokens_any s r hr W hs' hW)
  have HI := Lib.hid (fun W (hW : Tabs W) => ident_any s b1 h1 W hs hW)
  have HK := Lib.hid (fun W (hW : Tabs W) => keyword_any s b2 h2 W hs hW)
  have HJ := Lib.hid (fun W => rident_any s b1 h1 W hs')
  have HL := Lib.hid (fun W => rkeyW_any s b2 h2 W hs')
  subst n1 n2
  have q1 : (false != false) = false := by simp
  have q2 : (false != false) = false := by simp
  clear hr hT hs h1 h2
  go_enter Tryd.func4, Tryd.ntmps4
  go_wp2_with fail
  refine (HI.out w HT.out).mono ?_
  rintro e w1 ⟨rfl, hb1⟩
  have HT1 := Lib.hid (HT.out.below hb1 (Nat.le_refl _))
  have Hb1 := Lib.hid (hb1)
  clear hb1
  go_wp2_with fail
  refine (HJ.out w1).mono ?_
  rintro e w2 ⟨rfl, hb2⟩
  have HT2 := Lib.hid (HT1.out.below hb2 (Nat.le_refl _))
  have Hb2 := Lib.hid (Hb1.out.trans (hb2.mono Hb1.out.size))
  clear hb2
  go_wp2_with fail
  refine (HK.out w2 HT2.out).mono ?_
  rintro e w3 ⟨rfl, hb3⟩
  have HT3 := Lib.hid (HT2.out.below hb3 (Nat.le_refl _))
  have Hb3 := Lib.hid (Hb2.out.trans (hb3.mono Hb2.out.size))
  clear hb3
  go_wp2_with fail
  refine (HL.out w3).mono ?_
  rintro e w4 ⟨rfl, hb4⟩
  have HT4 := Lib.hid (HT3.out.below hb4 (Nat.le_refl _))
  have Hb4 := Lib.hid (Hb3.out.trans (hb4.mono Hb3.out.size))
  clear hb4
  go_wp2_with fail
  refine (Hc.out w4 HT4.out).mono ?_
  rintro e w5 ⟨v, rfl, hown, hb5⟩
  obtain ⟨a, c, rfl, hrd⟩ := hown.shape
  obtain ⟨b, off, rfl, hcell⟩ := hrd (by omega)
  obtain ⟨k0, _, k2, _⟩ := hcell 0 (by omega)
  simp only [Nat.zero_mul, Nat.add_zero] at k0 k2
  rw [hl]
  rw [htt] at k2
  rw [hkk] at k0
  have HT5 := Lib.hid (HT4.out.below hb5 (Nat.le_refl _))
  have Hb5 := Lib.hid (Hb4.out.trans (hb5.mono Hb4.out.size))
  clear hb5 hown
  go_wp2_with (first
    | (go_at_call 12; refine (HI.out _ HT5.out).mono ?_; rintro e w6 ⟨rfl, hb6⟩; have HT6 := Lib.hid (HT5.out.below hb6 (Nat.le_refl _)); have Hb6 := Lib.hid (Hb5.out.trans (hb6.mono Hb5.out.size)); clear hb6)
    | (go_at_call 14; refine (HK.out _ HT6.out).mono ?_; rintro e w7 ⟨rfl, hb7⟩; have HT7 := Lib.hid (HT6.out.below hb7 (Nat.le_refl _)); have Hb7 := Lib.hid (Hb6.out.trans (hb7.mono Hb6.out.size)); clear hb7)
    | (go_at_call 11; refine (awake_any _ HT7.out).mono ?_; rintro e w8 ⟨rfl, hb8⟩; have Hb8 := Lib.hid (Hb7.out.trans (hb8.mono Hb7.out.size)); clear hb8))
  go_ret
  exact ⟨rfl, Hb8.out⟩
set_option maxHeartbeats 8000000 in
set_option maxRecDepth 100000 in
theorem words_yes' (s : ByteArray) (w : World) (hs : s.size ≤ 281474976710656) (hT : Tabs w) (r : Whole) (hr : whole s = r) (b1 b2 : Bool) (h1 : isW s 1 = b1) (h2 : isW s 2 = b2) (he : (r.e == 0) = true) (hl : r.l.length = 2) (t0 : ByteArray) (k : Int) (htt : (r.l.getD 0 tokD).t = t0) (hkk : (r.l.getD 0 tokD).k = k) (ht : (t0.toList == s.toList) = true) (n1 : b1 = (k == 1)) (n2 : b2 = (k == 2)) : Calls Tryd.prog 4 #[.string s] w (BoolEnd true w) := by
  have hs' : s.size ≤ maxLen := by unfold maxLen; omega
  have HT := Lib.hid hT
  have Hc := Lib.hid (fun W (hW : Tabs W) => tokens_any s r hr W hs' hW)
  have HI := Lib.hid (fun W (hW : Tabs W) => ident_any s b1 h1 W hs hW)
  have HK := Lib.hid (fun W (hW : Tabs W) => keyword_any s b2 h2 W hs hW)
  have HJ := Lib.hid (fun W => rident_any s b1 h1 W hs')
  have HL := Lib.hid (fun W => rkeyW_any s b2 h2 W hs')
  have q3 : (b1 == (k == 1)) = true := by simp [n1]
  have q4 : (b2 == (k == 2)) = true := by simp [n2]
  have q1 : (b1 != b1) = false := by simp
  have q2 : (b2 != b2) = false := by simp
  clear hr hT hs h1 h2
  go_enter Tryd.func4, Tryd.ntmps4
  go_wp2_with fail
  refine (HI.out w HT.out).mono ?_
  rintro e w1 ⟨rfl, hb1⟩
  have HT1 := Lib.hid (HT.out.below hb1 (Nat.le_refl _))
  have Hb1 := Lib.hid (hb1)
  clear hb1
  go_wp2_with fail
  refine (HJ.out w1).mono ?_
  rintro e w2 ⟨rfl, hb2⟩
  have HT2 := Lib.hid (HT1.out.below hb2 (Nat.le_refl _))
  have Hb2 := Lib.hid (Hb1.out.trans (hb2.mono Hb1.out.size))
  clear hb2
  go_wp2_with fail
  refine (HK.out w2 HT2.out).mono ?_
  rintro e w3 ⟨rfl, hb3⟩
  have HT3 := Lib.hid (HT2.out.below hb3 (Nat.le_refl _))
  have Hb3 := Lib.hid (Hb2.out.trans (hb3.mono Hb2.out.size))
  clear hb3
  go_wp2_with fail
  refine (HL.out w3).mono ?_
  rintro e w4 ⟨rfl, hb4⟩
  have HT4 := Lib.hid (HT3.out.below hb4 (Nat.le_refl _))
  have Hb4 := Lib.hid (Hb3.out.trans (hb4.mono Hb3.out.size))
  clear hb4
  go_wp2_with fail
  refine (Hc.out w4 HT4.out).mono ?_
  rintro e w5 ⟨v, rfl, hown, hb5⟩
  obtain ⟨a, c, rfl, hrd⟩ := hown.shape
  obtain ⟨b, off, rfl, hcell⟩ := hrd (by omega)
  obtain ⟨k0, _, k2, _⟩ := hcell 0 (by omega)
  simp only [Nat.zero_mul, Nat.add_zero] at k0 k2
  rw [hl]
  rw [htt] at k2
  rw [hkk] at k0
  have hblk := World.block_lt_of_cell? w5 _ k0
  have HT5 := Lib.hid (HT4.out.below hb5 (Nat.le_refl _))
  have Hb5 := Lib.hid (Hb4.out.trans (hb5.mono Hb4.out.size))
  clear hb5 hown
  go_wp2_with (first
    | (go_at_call 12; refine (HI.out _ HT5.out).mono ?_; rintro e w6 ⟨rfl, hb6⟩; have HT6 := Lib.hid (HT5.out.below hb6 (Nat.le_refl _)); have Hb6 := Lib.hid (Hb5.out.trans (hb6.mono Hb5.out.size)); have k6 := (hb6.cell (p := ⟨b, off, none⟩) hblk).trans k0; have Hz6 := Lib.hid hb6.size; clear hb6)
    | (go_at_call 14; refine (HK.out _ HT6.out).mono ?_; rintro e w7 ⟨rfl, hb7⟩; have HT7 := Lib.hid (HT6.out.below hb7 (Nat.le_refl _)); have Hb7 := Lib.hid (Hb6.out.trans (hb7.mono Hb6.out.size)); have k7 := (hb7.cell (p := ⟨b, off, none⟩) (Nat.lt_of_lt_of_le hblk Hz6.out)).trans k6; clear hb7)
    | (go_at_call 11; refine (awake_any _ HT7.out).mono ?_; rintro e w8 ⟨rfl, hb8⟩; have Hb8 := Lib.hid (Hb7.out.trans (hb8.mono Hb7.out.size)); clear hb8))
  go_ret
  exact ⟨rfl, Hb8.out⟩
theorem law_words (s : ByteArray) (w : World) (hs : s.size ≤ 281474976710656) (hT : Tabs w) : Calls Tryd.prog 4 #[.string s] w (BoolEnd true w) := by
  obtain ⟨r, hr⟩ : ∃ r, whole s = r := ⟨_, rfl⟩
  by_cases he : r.e = 0
  · have he' : (r.e == 0) = true := by simpa using he
    by_cases hl : r.l.length = 2
    · by_cases ht : (r.l.getD 0 tokD).t = s
      · exact words_yes' s w hs hT r hr _ _ rfl rfl he' hl _ _ rfl rfl (by rw [ht]; simp) (words_yes hr 1 (.inl rfl) he hl ht) (words_yes hr 2 (.inr rfl) he hl ht)
      · exact words_txt s w hs hT r hr _ _ rfl rfl he' hl _ _ rfl rfl (by rw [beq_eq_false_iff_ne]; exact fun h => ht (bytes_eq h)) (words_no hr 1 (.inl rfl) (fun h => ht h.2.2)) (words_no hr 2 (.inr rfl) (fun h => ht h.2.2))
    · exact words_len s w hs hT r hr _ _ rfl rfl he' (by simp; omega) (words_no hr 1 (.inl rfl) (fun h => hl h.2.1)) (words_no hr 2 (.inr rfl) (fun h => hl h.2.1))
  · exact words_err s w hs hT r hr _ _ rfl rfl (by simpa using he) (words_no hr 1 (.inl rfl) (fun h => he h.1)) (words_no hr 2 (.inr rfl) (fun h => he h.1))
end Go.Proofs.YtmnfonhfbolnkaaDoor
