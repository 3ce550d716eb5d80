/-
  The contracts in one form: sets in memory ('Good'), new sets, and what they have.
-/
import Derived.Test.YtggkhbjhhglbbaaDoorAwake
namespace Go.Proofs.YtggkhbjhhglbbaaDoor
open Go.RowKit Go.WideShapes
set_option linter.unusedVariables false

/-- The slice reads as a set of at most 1100 words. -/
structure Good (w : World) (a : Option Addr) (c : Nat) (ws : List Nat) : Prop where
  len : ws.length ≤ 1100
  cap : ws.length ≤ c
  max : c ≤ maxLen
  wf : Wf ws
  words : Words w a ws
theorem Good.below {w w' : World} {a : Option Addr} {c : Nat} {ws : List Nat} {B : Nat} (h : Good w a c ws) (hb : Below B w w') (hB : w.heap.size ≤ B) : Good w' a c ws :=
  ⟨h.len, h.cap, h.max, h.wf, h.words.below hb hB⟩
theorem RowW.good {w : World} {base g cap : Nat} {ws : List Nat} (h : RowW w base g cap ws) (hl : ws.length ≤ 1100) (hwf : Wf ws) : Good w (some ⟨g, 0, none⟩) cap ws := by
  refine ⟨hl, ?_, ?_, hwf, h.words⟩
  all_goals
    rcases h.2 with ⟨h', _⟩ | ⟨g', cap', cur, h', _, _, hnc, hcm, _⟩
    · simp at h'
    · simp only [Value.slice.injEq, Option.some.injEq, Addr.mk.injEq, and_true, true_and] at h'
      obtain ⟨rfl, rfl⟩ := h'
      first | exact hnc | exact hcm

theorem length_unionL (wa wb : List Nat) : (unionL wa wb).length = max (tl wa) (tl wb) := length_tab _ _
theorem wf_unionL {wa wb : List Nat} (ha : Wf wa) (hb : Wf wb) : Wf (unionL wa wb) := Wf.tab fun i _ => or_lt _ _ (ha i) (hb i)
theorem wf_bothT {wa wb : List Nat} (n : Nat) (ha : Wf wa) : Wf (tab n fun i => wa.getD i 0 &&& wb.getD i 0) := Wf.tab fun i _ => and_lt _ _ (ha i)
theorem wf_minusT {wa wb : List Nat} (n : Nat) (ha : Wf wa) : Wf (tab n fun i => andNotN (wa.getD i 0) (wb.getD i 0)) := Wf.tab fun i _ => andNotN_lt _ _ (ha i)

theorem union_any {a : Option Addr} {c : Nat} {wa : List Nat} {b : Option Addr} {d : Nat} {wb : List Nat} {w : World} (h1 : Good w a c wa) (h2 : Good w b d wb) :
    Calls Tryd.prog 25 #[.slice a wa.length c, .slice b wb.length d] w fun e w' => ∃ a' c', e = .returned (.slice a' (unionL wa wb).length c') ∧ Good w' a' c' (unionL wa wb) ∧ Below w.heap.size w w' := by
  refine (union_core a c wa b d wb (max (tl wa) (tl wb)) (by omega) w h1.len h1.cap h1.max h1.wf h1.words h2.len h2.cap h2.max h2.wf h2.words).mono ?_
  rintro e w' ⟨g, rfl, hr, hb⟩
  refine ⟨_, _, by rw [length_unionL], RowW.good hr ?_ (wf_unionL h1.wf h2.wf), hb⟩
  rw [length_unionL]
  have := tl_le wa; have := tl_le wb; have := h1.len; have := h2.len; omega
theorem length_minusL (wa wb : List Nat) : (minusL wa wb).length = tl (tab (tl wa) fun i => andNotN (wa.getD i 0) (wb.getD i 0)) := length_trimL _
theorem minus_any {a : Option Addr} {c : Nat} {wa : List Nat} {b : Option Addr} {d : Nat} {wb : List Nat} {w : World} (h1 : Good w a c wa) (h2 : Good w b d wb) :
    Calls Tryd.prog 27 #[.slice a wa.length c, .slice b wb.length d] w fun e w' => ∃ a' c', e = .returned (.slice a' (minusL wa wb).length c') ∧ Good w' a' c' (minusL wa wb) ∧ Below w.heap.size w w' := by
  refine (minus_core a c wa b d wb (min (tl wa) wb.length) (by omega) w h1.len h1.cap h1.max h1.wf h1.words h2.len h2.cap h2.max h2.wf h2.words).mono ?_
  rintro e w' ⟨g, rfl, hr, hb⟩
  refine ⟨_, _, by rw [length_minusL], RowW.good hr ?_ (wf_minusT _ h1.wf).trimL, hb⟩
  rw [length_minusL]
  have := tl_le (tab (tl wa) fun i => andNotN (wa.getD i 0) (wb.getD i 0))
  rw [length_tab] at this
  have := tl_le wa; have := h1.len; omega
theorem length_bothL (wa wb : List Nat) : (bothL wa wb).length = tl (tab (min (tl wa) (tl wb)) fun i => wa.getD i 0 &&& wb.getD i 0) := length_trimL _
theorem both_any {a : Option Addr} {c : Nat} {wa : List Nat} {b : Option Addr} {d : Nat} {wb : List Nat} {w : World} (h1 : Good w a c wa) (h2 : Good w b d wb) :
    Calls Tryd.prog 29 #[.slice a wa.length c, .slice b wb.length d] w fun e w' => ∃ a' c', e = .returned (.slice a' (bothL wa wb).length c') ∧ Good w' a' c' (bothL wa wb) ∧ Below w.heap.size w w' := by
  refine (both_core a c wa b d wb (min (tl wa) (tl wb)) (by omega) w h1.len h1.cap h1.max h1.wf h1.words h2.len h2.cap h2.max h2.wf h2.words).mono ?_
  rintro e w' ⟨g, rfl, hr, hb⟩
  refine ⟨_, _, by rw [length_bothL], RowW.good hr ?_ (wf_bothT _ h1.wf).trimL, hb⟩
  rw [length_bothL]
  have := tl_le (tab (min (tl wa) (tl wb)) fun i => wa.getD i 0 &&& wb.getD i 0)
  rw [length_tab] at this
  have := tl_le wa; have := h1.len; omega

theorem count_g {a : Option Addr} {c : Nat} {ws : List Nat} {w : World} (h : Good w a c ws) :
    Calls Tryd.prog 18 #[.slice a ws.length c] w fun e w' => e = .returned (.int .i64 ((elems ws).length : Nat)) ∧ w = w' := count_any a c ws w (by have := h.len; omega) h.wf h.words
theorem requal_g {a : Option Addr} {c : Nat} {wa : List Nat} {b : Option Addr} {d : Nat} {wb : List Nat} {w : World} (h1 : Good w a c wa) (h2 : Good w b d wb) :
    Calls Tryd.prog 24 #[.slice a wa.length c, .slice b wb.length d] w fun e w' => e = .returned (.bool (decide (wa = wb))) ∧ Drawn w w' :=
  requal_any a c wa b d wb w (by have := h1.len; omega) h1.words (by have := h2.len; omega) h2.words

/-- Each element of the first is one of the second. -/
def withinB (wa wb : List Nat) : Bool := (List.range wa.length).all fun i => decide (andNotN (wa.getD i 0) (wb.getD i 0) = 0)
theorem withinB_no {wa wb : List Nat} {k : Nat} (hk : k < wa.length) (h : andNotN (wa.getD k 0) (wb.getD k 0) ≠ 0) : withinB wa wb = false := by
  rw [← Bool.not_eq_true]
  intro h2
  unfold withinB at h2
  rw [List.all_eq_true] at h2
  exact h (of_decide_eq_true (h2 k (List.mem_range.2 hk)))
theorem withinB_yes {wa wb : List Nat} (h : ∀ k, k < wa.length → andNotN (wa.getD k 0) (wb.getD k 0) = 0) : withinB wa wb = true := by
  unfold withinB
  rw [List.all_eq_true]
  exact fun k hk => decide_eq_true (h k (List.mem_range.1 hk))

set_option maxHeartbeats 1600000 in
theorem within_any {a : Option Addr} {c : Nat} {wa : List Nat} {b : Option Addr} {d : Nat} {wb : List Nat} {w : World} (h1 : Good w a c wa) (h2 : Good w b d wb) :
    Calls Tryd.prog 21 #[.slice a wa.length c, .slice b wb.length d] w fun e w' => e = .returned (.bool (withinB wa wb)) ∧ Drawn w w' := by
  have hn := h1.len
  have hm := h2.len
  have Hz := Lib.hid h1.words
  have Hzb := Lib.hid h2.words
  have hwa := h1.wf
  have hwb := h2.wf
  clear h1 h2
  go_enter Tryd.func21, Tryd.ntmps21
  go_wp2
  go_loopw [5, 8] (fun _ i wr => ∃ k : Nat, k ≤ wa.length ∧ i = .int .i64 k ∧ (∀ j, j < k → andNotN (wa.getD j 0) (wb.getD j 0) = 0) ∧ Drawn w wr) (fun _ i _ => wa.length - (intOf i).toNat)
  case atStart => exact ⟨0, Nat.zero_le _, rfl, fun j hj => absurd hj (by omega), .refl _⟩
  case round =>
    obtain ⟨k, hk, rfl, hall, nw, rfl⟩ := hrel
    have Hall := Lib.hid hall
    clear hall
    by_cases hlt : k < wa.length
    · obtain ⟨ba, oa, rfl, hca⟩ := Hz.out (by omega)
      have c1 := hca k hlt
      have hx := hwa k
      have hy := hwb k
      obtain ⟨x, hxe⟩ : ∃ x, wa.getD k 0 = x := ⟨_, rfl⟩
      obtain ⟨y, hye⟩ : ∃ y, wb.getD k 0 = y := ⟨_, rfl⟩
      rw [hxe] at c1 hx
      rw [hye] at hy
      have Hx := Lib.hid hxe
      have Hy := Lib.hid hye
      have ko := kandNot x y hx hy
      clear hca hxe hye
      obtain ⟨z, hz⟩ : ∃ z, andNotN x y = z := ⟨_, rfl⟩
      rw [hz] at ko
      have HZ := Lib.hid hz
      clear hz
      by_cases h0 : z = 0
      · have H0 := Lib.hid h0
        subst h0
        have t0 : ((0 : Int) != 0) = false := by simp
        go_wp2
        go_quiet ((go_at_call 40; exact quiet_add_left (word_at _ _ wb k y Hy.out _ hm (Hzb.out.drewN _))))
        go_wp2
        go_roundw
        case rel =>
          refine ⟨k + 1, by omega, by go_num, fun j hj => ?_, ⟨_, rfl⟩⟩
          by_cases e : j = k
          · rw [e, Hx.out, Hy.out]; exact HZ.out
          · exact Hall.out j (by omega)
        case measure => simp [intOf]; omega
      · have t0 : ((z : Int) != 0) = true := by rw [bne_iff_ne]; omega
        have Hno := Lib.hid (withinB_no (wa := wa) (wb := wb) hlt (by rw [Hx.out, Hy.out, HZ.out]; exact h0))
        go_wp2
        go_quiet ((go_at_call 40; exact quiet_add_left (word_at _ _ wb k y Hy.out _ hm (Hzb.out.drewN _))))
        go_wp2
        go_ret
        exact ⟨ret_bool Hno.out.symm, by first | exact ⟨_, rfl⟩ | exact ((Drawn.refl _).step _).step _⟩
    · have Hy := Lib.hid (withinB_yes (wa := wa) (wb := wb) fun j hj => Hall.out j (by omega))
      go_wp2
      go_ret
      exact ⟨ret_bool Hy.out.symm, nw, rfl⟩

set_option maxHeartbeats 800000 in
theorem same_any {a : Option Addr} {c : Nat} {wa : List Nat} {b : Option Addr} {d : Nat} {wb : List Nat} {w : World} (h1 : Good w a c wa) (h2 : Good w b d wb) :
    Calls Tryd.prog 23 #[.slice a wa.length c, .slice b wb.length d] w fun e w' => e = .returned (.bool (decide (trimL wa = trimL wb))) ∧ Drawn w w' := by
  have Hr := Lib.hid (sequal_any a c (trimL wa) b d (trimL wb) w (by have := length_trimL wa; have := tl_le wa; have := h1.len; omega) h1.words.trim (by have := length_trimL wb; have := tl_le wb; have := h2.len; omega) h2.words.trim)
  rw [length_trimL, length_trimL] at Hr
  have H1 := Lib.hid h1
  have H2 := Lib.hid h2
  obtain ⟨t, ht⟩ : ∃ t, decide (trimL wa = trimL wb) = t := ⟨_, rfl⟩
  rw [ht] at Hr ⊢
  clear h1 h2 ht
  go_enter Tryd.func23, Tryd.ntmps23
  go_wp2_with fail
  refine (trim_any a c wa w H1.out.len H1.out.cap H1.out.max H1.out.words).mono ?_
  rintro e w1 ⟨rfl, rfl⟩
  go_wp2_with fail
  refine (trim_any b d wb w H2.out.len H2.out.cap H2.out.max H2.out.words).mono ?_
  rintro e w1 ⟨rfl, rfl⟩
  go_wp2_with fail
  refine Hr.out.mono ?_
  rintro e w1 ⟨rfl, n, rfl⟩
  go_wp2
  go_ret
  exact ⟨rfl, n, rfl⟩
end Go.Proofs.YtggkhbjhhglbbaaDoor
