/-
  New, Len, Has, Drain: each returns what the plain mathematics says.
-/
import Derived.Test.YtpegkmancaoeiaaWPush
namespace Go.Proofs.Ytpegkmancaoeiaa
open Go.RowKit Go.WideShapes
set_option linter.unusedVariables false

def lenZ (rs zs : List Int) : Int := if qchk rs zs = 0 then zs.length else 0
def hasZ (rs zs : List Int) (x : Int) : Bool := decide (qchk rs zs = 0) && hasB zs x
def drainZ (rs zs : List Int) : List Int := if qchk rs zs = 0 then zs else []

section
variable (ra : Option Addr) (rc : Nat) (rs : List Int) (za : Option Addr) (zc : Nat) (zs : List Int) (x : Int) (w : World)
set_option maxHeartbeats 400000 in
theorem len_any (hn : rs.length ≤ maxLen) (hm : zs.length ≤ maxLen) (hr : Ints w ra rs) (hz : Ints w za zs) :
    Calls Try.prog 16 #[.agg #[.slice ra rs.length rc, .slice za zs.length zc]] w fun e w' => e = .returned (.int .i64 (lenZ rs zs)) ∧ Below w.heap.size w w' := by
  have Hr := Lib.hid (hr.alloc (.cells #[.slice ra rs.length rc, .slice za zs.length zc] 24))
  have Hz := Lib.hid (hz.alloc (.cells #[.slice ra rs.length rc, .slice za zs.length zc] 24))
  clear hr hz
  by_cases hq : qchk rs zs = 0
  · have H := Lib.hid (show lenZ rs zs = zs.length by unfold lenZ; rw [if_pos hq])
    have Hq := Lib.hid hq
    clear hq
    go_enter Try.func16, Try.ntmps16
    go_wp2_with (go_at_call 9; refine (check_at ra rc rs za zc zs 0 Hq.out _ hn hm Hr.out Hz.out).mono ?_; rintro e w1 ⟨rfl, hb⟩; obtain ⟨hc, hf⟩ := bcell hb)
    go_ret
    exact ⟨ret_int H.out.symm, ((Below.refl _ w).alloc (Nat.le_refl _) _).trans (hb.mono (by simp))⟩
  · have H := Lib.hid (show lenZ rs zs = 0 by unfold lenZ; rw [if_neg hq])
    obtain ⟨r, hr⟩ : ∃ r, qchk rs zs = r := ⟨_, rfl⟩
    have hb : (r != 0) = true := by rw [bne_iff_ne, ← hr]; exact hq
    have Hq := Lib.hid hr
    clear hq hr
    go_enter Try.func16, Try.ntmps16
    go_wp2_with (go_at_call 9; refine (check_at ra rc rs za zc zs r Hq.out _ hn hm Hr.out Hz.out).mono ?_; rintro e w1 ⟨rfl, hb⟩)
    go_ret
    exact ⟨ret_int H.out.symm, ((Below.refl _ w).alloc (Nat.le_refl _) _).trans (hb.mono (by simp))⟩

set_option maxHeartbeats 400000 in
theorem has_any (hn : rs.length ≤ maxLen) (hm : zs.length ≤ maxLen) (hr : Ints w ra rs) (hz : Ints w za zs) :
    Calls Try.prog 18 #[.agg #[.slice ra rs.length rc, .slice za zs.length zc], .int .i64 x] w fun e w' => e = .returned (.bool (hasZ rs zs x)) ∧ Below w.heap.size w w' := by
  have Hr := Lib.hid (hr.alloc (.cells #[.slice ra rs.length rc, .slice za zs.length zc] 24))
  have Hz := Lib.hid (hz.alloc (.cells #[.slice ra rs.length rc, .slice za zs.length zc] 24))
  clear hr hz
  by_cases hq : qchk rs zs = 0
  · obtain ⟨t, ht⟩ : ∃ t, hasB zs x = t := ⟨_, rfl⟩
    have H := Lib.hid (show hasZ rs zs x = t by unfold hasZ; rw [decide_eq_true hq, Bool.true_and]; exact ht)
    have Hq := Lib.hid hq
    have Ht := Lib.hid ht
    clear hq ht
    go_enter Try.func18, Try.ntmps18
    go_wp2_with (first
      | (go_at_call 9; refine (check_at ra rc rs za zc zs 0 Hq.out _ hn hm Hr.out Hz.out).mono ?_; rintro e w1 ⟨rfl, hb⟩; obtain ⟨hc, hf⟩ := bcell hb)
      | (go_at_call 29; refine (contains_at za zc zs x t Ht.out _ hm (Hz.out.below hb (Nat.le_refl _))).mono ?_; rintro e w2 ⟨rfl, rfl⟩))
    go_ret
    exact ⟨ret_bool H.out.symm, ((Below.refl _ w).alloc (Nat.le_refl _) _).trans (hb.mono (by simp))⟩
  · have H := Lib.hid (show hasZ rs zs x = false by unfold hasZ; rw [decide_eq_false hq, Bool.false_and])
    obtain ⟨r, hr⟩ : ∃ r, qchk rs zs = r := ⟨_, rfl⟩
    have hb0 : (r == 0) = false := by rw [beq_eq_false_iff_ne, ← hr]; exact hq
    have Hq := Lib.hid hr
    clear hq hr
    go_enter Try.func18, Try.ntmps18
    go_wp2_with (go_at_call 9; refine (check_at ra rc rs za zc zs r Hq.out _ hn hm Hr.out Hz.out).mono ?_; rintro e w1 ⟨rfl, hb⟩)
    go_ret
    exact ⟨ret_bool H.out.symm, ((Below.refl _ w).alloc (Nat.le_refl _) _).trans (hb.mono (by simp))⟩

def DrainEnd (w : World) (rs zs : List Int) (e : Ending) (w' : World) : Prop := ∃ v, e = .returned v ∧ Own w' w.heap.size v (drainZ rs zs) ∧ Below w.heap.size w w'
set_option maxHeartbeats 400000 in
theorem drain_any (hn : rs.length ≤ maxLen) (hm : zs.length ≤ maxLen) (hr : Ints w ra rs) (hz : Ints w za zs) (hzn : za = none → zc = 0) :
    Calls Try.prog 17 #[.agg #[.slice ra rs.length rc, .slice za zs.length zc]] w (DrainEnd w rs zs) := by
  have Hr := Lib.hid (hr.alloc (.cells #[.slice ra rs.length rc, .slice za zs.length zc] 24))
  have Hz := Lib.hid (hz.alloc (.cells #[.slice ra rs.length rc, .slice za zs.length zc] 24))
  have Hzn := Lib.hid hzn
  clear hr hz hzn
  by_cases hq : qchk rs zs = 0
  · have H := Lib.hid (show drainZ rs zs = zs by unfold drainZ; rw [if_pos hq])
    have hl := ((qchk_iff rs zs).1 hq).zl
    have Hq := Lib.hid hq
    clear hq
    go_enter Try.func17, Try.ntmps17
    go_wp2_with (first
      | (go_at_call 9; refine (check_at ra rc rs za zc zs 0 Hq.out _ hn hm Hr.out Hz.out).mono ?_; rintro e w1 ⟨rfl, hb⟩; obtain ⟨hc, hf⟩ := bcell hb)
      | (go_at_call 28; refine (copied_any za zs.length zc zs rfl _ (by omega) (Hz.out.below hb (Nat.le_refl _)) Hzn.out).mono ?_; rintro e w2 ⟨v, rfl, ho, hb2⟩; obtain ⟨av, kv, rfl, -, -⟩ := ho.shape2))
    go_ret
    have hs := hb.size
    simp at hs
    exact ⟨_, rfl, by rw [H.out]; exact ho.mono (by omega), (((Below.refl _ w).alloc (Nat.le_refl _) _).trans (hb.mono (by simp))).trans (hb2.mono (by omega))⟩
  · have H := Lib.hid (show drainZ rs zs = [] by unfold drainZ; rw [if_neg hq])
    obtain ⟨r, hr⟩ : ∃ r, qchk rs zs = r := ⟨_, rfl⟩
    have hb : (r != 0) = true := by rw [bne_iff_ne, ← hr]; exact hq
    have Hq := Lib.hid hr
    clear hq hr
    go_enter Try.func17, Try.ntmps17
    go_wp2_with (go_at_call 9; refine (check_at ra rc rs za zc zs r Hq.out _ hn hm Hr.out Hz.out).mono ?_; rintro e w1 ⟨rfl, hb⟩)
    go_ret
    exact ⟨_, rfl, by rw [H.out]; exact Own.nil _ _, ((Below.refl _ w).alloc (Nat.le_refl _) _).trans (hb.mono (by simp))⟩

def NewEnd (w : World) (rs : List Int) (e : Ending) (w' : World) : Prop :=
  Below w.heap.size w w' ∧ ((rs.length ≤ 8192 ∧ ∃ v, e = .returned (.tuple #[.agg #[v, .slice none 0 0], .int .i64 0]) ∧ Own w' w.heap.size v rs) ∨
    (8192 < rs.length ∧ e = .returned (.tuple #[.agg #[.slice none 0 0, .slice none 0 0], .int .i64 3])))
set_option maxHeartbeats 800000 in
theorem new_any (hn : rs.length ≤ 8200) (hr : Ints w ra rs) (hrn : ra = none → rc = 0) :
    Calls Try.prog 21 #[.slice ra rs.length rc] w (NewEnd w rs) := by
  have Hr := Lib.hid (hr.alloc (.cells #[.slice none 0 0, .slice none 0 0] 24))
  have Hrn := Lib.hid hrn
  clear hr hrn
  by_cases h : 8192 < rs.length
  · go_enter Try.func21, Try.ntmps21
    go_wp2
    refine bodyPost_ret (v := .tuple #[.agg #[.slice none 0 0, .slice none 0 0], .int .i64 3]) (by simp [results, Try.results21, go_sem]) rfl ?_
    exact ⟨(Below.refl _ w).alloc (Nat.le_refl _) _, .inr ⟨h, rfl⟩⟩
  · go_enter Try.func21, Try.ntmps21
    go_wp2_with fail
    refine (copied_any ra rs.length rc rs rfl _ (by omega) Hr.out Hrn.out).mono ?_
    rintro e w1 ⟨v, rfl, ho, hb⟩
    obtain ⟨av, kv, rfl, -, -⟩ := ho.shape2
    obtain ⟨hc, hf⟩ := bcell hb
    have Ho := Lib.hid ho
    have Hb := Lib.hid hb
    clear ho hb
    go_wp2
    refine bodyPost_ret (v := .tuple #[.agg #[.slice av rs.length kv, .slice none 0 0], .int .i64 0]) (by simp [results, Try.results21, go_sem, hc]) rfl ?_
    have hg := grown_trans (grown_setCell w1 w.heap.size 0 (.slice av rs.length kv)) (grown_setCell (w1.setCell ⟨w.heap.size, 0, none⟩ (.slice av rs.length kv)) w.heap.size 1 (.slice none 0 0))
    refine ⟨((((Below.refl _ w).alloc (Nat.le_refl _) _).trans (Hb.out.mono (by simp))).setCell (by simp) _).setCell (by simp) _, .inl ⟨by omega, _, rfl, ?_⟩⟩
    exact Own.mono (World.ownsRow.kept Ho.out hg (.inr (Ho.out.ne_of_ge (by simp)))) (by simp)
end
end Go.Proofs.Ytpegkmancaoeiaa
