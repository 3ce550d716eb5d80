/-
  The law LexSpans.
-/
import Derived.Test.YtmnfonhfbolnkaaDoorGap
namespace Go.Proofs.YtmnfonhfbolnkaaDoor
open Go.RowKit
set_option linter.unusedVariables false
set_option linter.unusedSimpArgs false

theorem gap_at (s : ByteArray) (p a : Nat) (h : Sp s p ⟨0, a, ⟨#[]⟩, 0⟩) (w : World) (hs : s.size ≤ 65536) :
    Calls Tryd.prog 18 #[.string (s.extract p a)] w fun e w' => e = .returned (.bool true) ∧ w' = w :=
  gap_any s p a h.skip h.le (by have := h.fit; simp at this; omega) _ rfl w hs
theorem drop_at (ts : List Tok) (k : Nat) (h : k < ts.length) : ts.drop k = ts.getD k tokD :: ts.drop (k + 1) := by
  rw [List.drop_eq_getElem_cons h]
  congr 1
  simp [List.getD, h]
theorem wrap_add (a b : Nat) (h : a + b ≤ 65536) : IntKind.i64.wrap ((a : Int) + (b : Int)) = ((a + b : Nat) : Int) := by
  rw [IntWalk.i64_in _ (by omega)]
  omega
theorem drawn_below {B : Nat} {w W : World} (h : Below B w W) (n : Nat) : Below B w (W.drewN n) := h.trans ⟨rfl, rfl, rfl, Nat.le_refl _, fun _ _ => rfl⟩
set_option maxHeartbeats 8000000 in
set_option maxRecDepth 100000 in
theorem spans_ok (s : ByteArray) (w : World) (hs : s.size ≤ 65536) (hT : Tabs w) (r : Whole) (hr : whole s = r) (he : (r.e != 0) = false) (hch : Ch s 0 r.l) (hlen : r.l.length ≤ 70000) : Calls Tryd.prog 6 #[.string s] w (BoolEnd true w) := by
  have HT := Lib.hid hT
  have Hc := Lib.hid (fun W (hW : Tabs W) => tokens_any s r hr W (by unfold maxLen; omega) hW)
  obtain ⟨E, hE⟩ : ∃ E, r.e = E := ⟨_, rfl⟩
  rw [hE] at he
  obtain ⟨n, hn⟩ : ∃ n, r.l.length = n := ⟨_, rfl⟩
  rw [hn] at hlen
  have Hn := Lib.hid hn
  have Hch := Lib.hid hch
  clear hT hr hch
  go_enter Tryd.func6, Tryd.ntmps6
  go_wp2_with fail
  refine (Hc.out w HT.out).mono ?_
  rintro e w1 ⟨v, rfl, hown, hb1⟩
  obtain ⟨a, c, rfl, hrd⟩ := hown.shape
  rw [hn, hE]
  have HT1 := Lib.hid (HT.out.below hb1 (Nat.le_refl _))
  have Hb1 := Lib.hid hb1
  have Hrd := Lib.hid hrd
  clear hrd hown hb1 hn hE
  go_wp2
  go_loopw [9, 10] (fun x y W => ∃ k p : Nat, y = .int .i64 k ∧ x = .int .i64 p ∧ k ≤ n ∧ p ≤ s.size ∧ Hid (k < n → Ch s p (r.l.drop k)) ∧ Hid (k = n → p = s.size) ∧ Below w1.heap.size w1 W) (fun _ y _ => n - (intOf y).toNat)
  case atStart => exact ⟨0, 0, rfl, rfl, Nat.zero_le _, Nat.zero_le _, fun _ => Hch.out, fun h => by have h2 := Hch.out.ne; have h3 := Hn.out; exact absurd (List.length_eq_zero_iff.mp (by omega)) h2, Below.refl _ _⟩
  case round =>
    obtain ⟨k, p, rfl, rfl, hk, hp, hchk, hfin, hb⟩ := hrel
    have Hb := Lib.hid hb
    have hsz := hb.size
    clear hb
    by_cases hlt : k < n
    · obtain ⟨b, off, rfl, hcell⟩ := (Hrd.out.below Hb.out (Nat.le_refl _)) (by rw [Hn.out]; omega)
      obtain ⟨c0, c1, c2, c3⟩ := hcell k (by rw [Hn.out]; exact hlt)
      have hh := hchk.out hlt
      rw [drop_at r.l k (by rw [Hn.out]; exact hlt)] at hh
      obtain ⟨⟨tk, ta, tt, tn⟩, ht⟩ : ∃ t, r.l.getD k tokD = t := ⟨_, rfl⟩
      rw [ht] at hh c0 c1 c2 c3
      obtain ⟨⟨s1, s2, s3, s4⟩, hcase⟩ := hh.head hp
      simp only at c0 c1 c2 c3 s1 s2 s3 s4 hcase
      obtain ⟨z, hz⟩ : ∃ z, tt.size = z := ⟨_, rfl⟩
      rw [hz] at s3 s4 hcase
      have Hgap := Lib.hid (fun W => gap_at s p ta ⟨s1, s2, by show ta + 0 ≤ s.size; omega, by show s.extract ta (ta + 0) = _; apply ByteArray.ext; simp⟩ W hs)
      have Hz := Lib.hid hz
      have d1 : decide ((ta : Int) < (p : Int)) = false := by simp; omega
      have d2 : decide ((s.size : Int) < (ta : Int) + (z : Int)) = false := by simp; omega
      have d1n : decide (ta < p) = false := by simp; omega
      have hwr : IntKind.i64.wrap ((ta : Int) + (z : Int)) = ((ta + z : Nat) : Int) := by
        exact wrap_add ta z (by omega)
      have d2n : decide (s.size < ta + z) = false := by simp; omega
      have d3 : (tt.toList != tt.toList) = false := by simp
      clear hcell hh ht hchk s1
      rcases hcase with ⟨hl, hk5, hend⟩ | ⟨hl, hk5, hz0, hnext⟩
      · have hlast : k + 1 = n := by
          have h1 : (r.l.drop (k + 1)).length = 0 := by rw [hl]; rfl
          rw [List.length_drop, Hn.out] at h1
          omega
        subst hk5
        have q1 : ((k : Int) == (n : Int) - 1) = true := by simp; omega
        have Hc2 : Hid (k + 1 < n → Ch s (ta + z) (r.l.drop (k + 1))) := fun h => by omega
        have Hf2 : Hid (k + 1 = n → ta + z = s.size) := fun _ => hend
        clear hl hend hfin
        go_wp2
        go_quiet ((go_at_call 18; exact Calls.quiet_of_same (Hgap.out _)))
        go_wp2
        go_roundw
        case rel => exact ⟨k + 1, ta + z, by go_num, by go_num, by omega, s3, Hc2, Hf2, drawn_below (Hb.out.alloc hsz _) _⟩
        case measure => simp [intOf]; omega
      · have hlast : k + 1 < n := by
          rcases Nat.lt_or_ge (k + 1) n with h | h
          · exact h
          · exact absurd (List.drop_eq_nil_of_le (by rw [Hn.out]; exact h)) hl
        have q1 : ((k : Int) == (n : Int) - 1) = false := by simp; omega
        have q2 : ((tk : Int) == 5) = false := by simpa using hk5
        have q3 : ((tk : Int) != 5) = true := by simpa using hk5
        have q4 : (tt.toList == []) = false := by rw [beq_eq_false_iff_ne]; intro h; rw [toList_nil] at h; omega
        have Hc2 : Hid (k + 1 < n → Ch s (ta + z) (r.l.drop (k + 1))) := fun _ => hnext
        have Hf2 : Hid (k + 1 = n → ta + z = s.size) := fun h => by omega
        clear hl hk5 hnext hfin
        go_wp2
        go_quiet ((go_at_call 18; exact Calls.quiet_of_same (Hgap.out _)))
        go_wp2
        go_roundw
        case rel => exact ⟨k + 1, ta + z, by go_num, by go_num, by omega, s3, Hc2, Hf2, drawn_below (Hb.out.alloc hsz _) _⟩
        case measure => simp [intOf]; omega
    · have hpe := hfin.out (by omega)
      have q1 : ((p : Int) == (s.size : Int)) = true := by simp; omega
      go_wp2_with (go_at_call 11; refine (awake_any _ (HT1.out.below Hb.out (Nat.le_refl _))).mono ?_; rintro e w8 ⟨rfl, hb8⟩; have Hb8 := Lib.hid hb8; clear hb8)
      go_ret
      exact ⟨rfl, Hb1.out.trans ((Hb.out.trans (Hb8.out.mono hsz)).mono Hb1.out.size)⟩
set_option maxHeartbeats 8000000 in
set_option maxRecDepth 100000 in
theorem spans_big (s : ByteArray) (w : World) (hs : s.size ≤ maxLen) (hbig : 65536 < s.size) (hT : Tabs w) : Calls Tryd.prog 6 #[.string s] w (BoolEnd true w) := by
  have HT := Lib.hid hT
  have hr : whole s = ⟨[], 0, 3⟩ := by unfold whole; rw [if_pos hbig]
  have Hc := Lib.hid (fun W (hW : Tabs W) => tokens_any s _ hr W hs hW)
  have g : decide ((65536 : Int) < (s.size : Int)) = true := by simp; omega
  unfold maxLen at hs
  clear hT hr
  go_enter Tryd.func6, Tryd.ntmps6
  go_wp2_with fail
  refine (Hc.out w HT.out).mono ?_
  rintro e w1 ⟨v, rfl, hown, hb1⟩
  obtain ⟨a, c, rfl, hrd⟩ := hown.shape
  have HT1 := Lib.hid (HT.out.below hb1 (Nat.le_refl _))
  have Hb1 := Lib.hid hb1
  clear hrd hown hb1
  go_wp2_with (go_at_call 11; refine (awake_any _ HT1.out).mono ?_; rintro e w8 ⟨rfl, hb8⟩; have Hb8 := Lib.hid hb8; clear hb8)
  go_ret
  exact ⟨rfl, Hb1.out.trans (Hb8.out.mono Hb1.out.size)⟩
set_option maxHeartbeats 8000000 in
set_option maxRecDepth 100000 in
theorem spans_err (s : ByteArray) (w : World) (hs : s.size ≤ 65536) (hT : Tabs w) (r : Whole) (hr : whole s = r) (hne : r.e ≠ 0) (b3 : Bool) (h3 : (r.e == 3) = b3) : Calls Tryd.prog 6 #[.string s] w (BoolEnd true w) := by
  have hwe := whole_err (s := s) (by rw [hr]; exact hne) hs
  rw [hr] at hwe
  obtain ⟨k1, k2, k3⟩ := hwe
  obtain ⟨l, a0, E⟩ := r
  simp only at k1 k2 k3 hne h3
  subst k1
  have HT := Lib.hid hT
  have hm : s.size ≤ maxLen := by unfold maxLen; omega
  have Hc := Lib.hid (fun W (hW : Tabs W) => tokens_any s _ hr W hm hW)
  obtain ⟨r2, hr2⟩ : ∃ r2, whole (s.extract 0 a0) = r2 := ⟨_, rfl⟩
  rw [hr2] at k3
  have hz : (s.extract 0 a0).size = a0 := by rw [size_extract s 0 a0 k2]; omega
  have Hd := Lib.hid (fun W (hW : Tabs W) => tokens_any (s.extract 0 a0) r2 hr2 W (by rw [hz]; unfold maxLen; omega) hW)
  have g : decide ((65536 : Int) < (s.size : Int)) = false := by simp; omega
  have g1 : (E != 0) = true := by simpa using hne
  have g2 : decide ((s.size : Int) < (a0 : Int)) = false := by simp; omega
  have g3 : decide ((a0 : Int) < 0) = false := by simp
  obtain ⟨l2, a2, E2⟩ := r2
  simp only at k3
  subst k3
  clear hT hr hr2 hz hne
  go_enter Tryd.func6, Tryd.ntmps6
  go_wp2_with fail
  refine (Hc.out w HT.out).mono ?_
  rintro e w1 ⟨v, rfl, hown, hb1⟩
  obtain ⟨a, c, rfl, hrd⟩ := hown.shape
  have HT1 := Lib.hid (HT.out.below hb1 (Nat.le_refl _))
  have Hb1 := Lib.hid hb1
  clear hrd hown hb1
  cases b3 with
  | true =>
    go_wp2_with (first
      | (go_at_call 8; refine (Hd.out _ HT1.out).mono ?_; rintro e w2 ⟨v, rfl, hown2, hb2⟩; have HT2 := Lib.hid (HT1.out.below hb2 (Nat.le_refl _)); have Hb2 := Lib.hid (Hb1.out.trans (hb2.mono Hb1.out.size)); clear hown2 hb2)
      | (go_at_call 11; refine (awake_any _ HT2.out).mono ?_; rintro e w8 ⟨rfl, hb8⟩; have Hb8 := Lib.hid hb8; clear hb8))
    go_ret
    exact ⟨rfl, Hb2.out.trans (Hb8.out.mono Hb2.out.size)⟩
  | false =>
    go_wp2_with (first
      | (go_at_call 8; refine (Hd.out _ HT1.out).mono ?_; rintro e w2 ⟨v, rfl, hown2, hb2⟩; have HT2 := Lib.hid (HT1.out.below hb2 (Nat.le_refl _)); have Hb2 := Lib.hid (Hb1.out.trans (hb2.mono Hb1.out.size)); clear hown2 hb2)
      | (go_at_call 11; refine (awake_any _ HT2.out).mono ?_; rintro e w8 ⟨rfl, hb8⟩; have Hb8 := Lib.hid hb8; clear hb8))
    go_ret
    exact ⟨rfl, Hb2.out.trans (Hb8.out.mono Hb2.out.size)⟩
theorem law_spans (s : ByteArray) (w : World) (hs : s.size ≤ maxLen) (hT : Tabs w) : Calls Tryd.prog 6 #[.string s] w (BoolEnd true w) := by
  by_cases hbig : 65536 < s.size
  · exact spans_big s w hs hbig hT
  · by_cases he : (whole s).e = 0
    · exact spans_ok s w (by omega) hT _ rfl (by simpa using he) (whole_ch s he).2 (by have := whole_len s; omega)
    · exact spans_err s w (by omega) hT _ rfl he _ rfl
end Go.Proofs.YtmnfonhfbolnkaaDoor
