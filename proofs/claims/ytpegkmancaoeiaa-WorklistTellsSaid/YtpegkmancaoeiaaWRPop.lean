/-
  The definition's Pop.
-/
import Derived.Test.YtpegkmancaoeiaaWArr
namespace Go.Proofs.Ytpegkmancaoeiaa
open Go.RowKit Go.WideShapes
set_option linter.unusedVariables false

section
variable (ra : Option Addr) (rc : Nat) (rs : List Int) (za : Option Addr) (zc : Nat) (zs : List Int) (w : World)
theorem rcheck_at (r : Int) (hq : qchk rs zs = r) (hn : rs.length ≤ maxLen) (hm : zs.length ≤ maxLen) (hzc : zs.length ≤ zc) (hzc2 : zc ≤ maxLen) (hr : Ints w ra rs) (hz : Ints w za zs) :
    Calls Try.prog 10 #[.agg #[.slice ra rs.length rc, .slice za zs.length zc]] w fun e w' => e = .returned (.int .i64 r) ∧ Below w.heap.size w w' := by
  subst hq
  exact rcheck_any ra rc rs za zc zs w hn hm hzc hzc2 hr hz

set_option maxHeartbeats 800000 in
theorem rpop_bad (hn : rs.length ≤ maxLen) (hm : zs.length ≤ maxLen) (hzc : zs.length ≤ zc) (hzc2 : zc ≤ maxLen) (hr : Ints w ra rs) (hz : Ints w za zs) (h : zs.length = 0 ∨ ¬ qchk rs zs = 0) :
    Calls Try.prog 15 #[.agg #[.slice ra rs.length rc, .slice za zs.length zc]] w (NoPop w) := by
  have Hr := Lib.hid ((hr.alloc (.cells #[.slice ra rs.length rc, .slice za zs.length zc] 24)).alloc (.cells #[.slice none 0 0, .slice none 0 0] 24))
  have Hz := Lib.hid ((hz.alloc (.cells #[.slice ra rs.length rc, .slice za zs.length zc] 24)).alloc (.cells #[.slice none 0 0, .slice none 0 0] 24))
  clear hr hz
  obtain ⟨r, hr⟩ : ∃ r, qchk rs zs = r := ⟨_, rfl⟩
  rw [hr] at h
  have Hq := Lib.hid hr
  clear hr
  by_cases h0 : r = 0
  · have hl : zs.length = 0 := by rcases h with h | h; exact h; exact absurd h0 h
    subst h0
    have hb : ((zs.length : Int) == 0) = true := by rw [hl]; rfl
    have Hl := Lib.hid hl
    clear h hl
    go_enter Try.func15, Try.ntmps15
    go_wp2_with fail
    refine (rcheck_at ra rc rs za zc zs _ 0 Hq.out hn hm hzc hzc2 Hr.out Hz.out).mono ?_
    rintro e w1 ⟨rfl, hbl⟩
    obtain ⟨hcell, hfrz⟩ := bcell hbl
    have Hb := Lib.hid hbl
    clear hbl
    go_wp2
    refine bodyPost_ret (v := .tuple #[.int .i64 0, .agg #[.slice none 0 0, .slice none 0 0], .bool false]) (by simp [results, Try.results15, go_sem, hcell]) rfl ?_
    exact ⟨rfl, (((((Below.refl _ _).alloc (Nat.le_refl _) _).alloc (by simp) _).trans (Hb.out.mono (by simp; omega))).setCell (by simp) _).setCell (by simp) _⟩
  · have hb2 : (r != 0) = true := by rw [bne_iff_ne]; exact h0
    clear h h0
    go_enter Try.func15, Try.ntmps15
    go_wp2_with fail
    refine (rcheck_at ra rc rs za zc zs _ r Hq.out hn hm hzc hzc2 Hr.out Hz.out).mono ?_
    rintro e w1 ⟨rfl, hbl⟩
    obtain ⟨hcell, hfrz⟩ := bcell hbl
    have Hb := Lib.hid hbl
    clear hbl
    go_wp2
    refine bodyPost_ret (v := .tuple #[.int .i64 0, .agg #[.slice none 0 0, .slice none 0 0], .bool false]) (by simp [results, Try.results15, go_sem, hcell]) rfl ?_
    exact ⟨rfl, (((((Below.refl _ _).alloc (Nat.le_refl _) _).alloc (by simp) _).trans (Hb.out.mono (by simp; omega))).setCell (by simp) _).setCell (by simp) _⟩
end

def RPopEnd (w : World) (ra : Option Addr) (rc : Nat) (rs : List Int) (z : Int) (ts : List Int) (e : Ending) (w' : World) : Prop :=
  ∃ a c, e = .returned (.tuple #[.int .i64 z, .agg #[.slice ra rs.length rc, .slice a ts.length c], .bool true]) ∧ Ints w' ra rs ∧ Ints w' a ts ∧ Below w.heap.size w w'

theorem rcheck_nat (ra : Option Addr) (rc : Nat) (rs : List Int) (za : Option Addr) (n zc : Nat) (zs : List Int) (hl : zs.length = n) (r : Int) (hq : qchk rs zs = r) (w : World) (hn : rs.length ≤ maxLen) (hm : n ≤ maxLen) (hzc : n ≤ zc) (hzc2 : zc ≤ maxLen) (hr : Ints w ra rs) (hz : Ints w za zs) :
    Calls Try.prog 10 #[.agg #[.slice ra rs.length rc, .slice za n zc]] w fun e w' => e = .returned (.int .i64 r) ∧ Below w.heap.size w w' := by
  subst hl
  exact rcheck_at ra rc rs za zc zs w r hq hn hm hzc hzc2 hr hz

set_option maxHeartbeats 4000000 in
theorem rpop_good (ra : Option Addr) (rc : Nat) (rs : List Int) (za : Option Addr) (zc n : Nat) (z : Int) (ts : List Int) (w : World) (hn1 : (z :: ts).length = n) (hv : QV rs (z :: ts)) (hr : Ints w ra rs) (hz : Ints w za (z :: ts)) (hzc : n ≤ zc) (hzc2 : zc ≤ maxLen) :
    Calls Try.prog 15 #[.agg #[.slice ra rs.length rc, .slice za n zc]] w (RPopEnd w ra rc rs z ts) := by
  have hq := (qchk_iff _ _).2 hv
  have h1 := hv.rl
  have h2 := hv.zl
  rw [hn1] at h2
  have hzc2' := hzc2
  unfold maxLen at hzc2'
  have hpos : 0 < n := by rw [← hn1]; simp
  have hpi : (0 : Int) < (n : Int) := by omega
  have hpi1 : (1 : Int) ≤ (n : Int) := by omega
  have htl : ts.length = n - 1 := by rw [← hn1]; simp
  obtain ⟨b, off, rfl, hcell0⟩ := hz (by simp)
  have ck := hcell0 0 (by simp)
  simp only [Nat.add_zero, List.getD_cons_zero] at ck
  have hbw := World.block_lt_of_cell? _ _ ck
  simp at hbw
  have HzT := Lib.hid (show Ints w (some ⟨b, off + 1, none⟩) ts from fun _ => ⟨b, off + 1, rfl, fun i hi => by
    have := hcell0 (i + 1) (by simp; omega)
    rw [List.getD_cons_succ] at this
    rw [← this, show off + 1 + i = off + (i + 1) from by omega]⟩)
  have Hq := Lib.hid hq
  have Hr := Lib.hid hr
  have Hz := Lib.hid hz
  have Htl := Lib.hid htl
  have Hn1 := Lib.hid hn1
  have Hck := Lib.hid ck
  have hb : ((n : Int) == 0) = false := by rw [beq_eq_false_iff_ne]; omega
  clear hr hz hq hv hcell0 htl hn1 ck
  go_enter Try.func15, Try.ntmps15
  go_wp2_with fail
  refine (rcheck_nat ra rc rs _ n zc (z :: ts) Hn1.out 0 Hq.out _ (by unfold maxLen; omega) (by unfold maxLen; omega) hzc hzc2 ((Hr.out.alloc _).alloc _) ((Hz.out.alloc _).alloc _)).mono ?_
  rintro e w1 ⟨rfl, hbl⟩
  have hq1 := ((QC.new w (.slice ra rs.length rc) (.slice (some ⟨b, off, none⟩) n zc) 24).alloc (.cells #[.slice none 0 0, .slice none 0 0] 24)).below hbl
  have hq2 := (QC.new (w.alloc (.cells #[.slice ra rs.length rc, .slice (some ⟨b, off, none⟩) n zc] 24)) (.slice none 0 0) (.slice none 0 0) 24).below hbl
  rw [World.size_alloc] at hq2
  have H01 := Lib.hid ((((Below.refl _ w).alloc (Nat.le_refl _) _).alloc (by simp) _).trans (hbl.mono (by simp; omega)) : Below w.heap.size w w1)
  have c0 := hq1.c0
  have c1 := hq1.c1
  have d0 := hq2.c0
  have d1 := hq2.c1
  have d2 := hq2.f0
  have d3 := hq2.f1
  have ck1 := (H01.out.cell (p := ⟨b, off, none⟩) hbw).trans Hck.out
  have Hr1 := Lib.hid (Hr.out.below H01.out (Nat.le_refl _))
  have HzT1 := Lib.hid (HzT.out.below H01.out (Nat.le_refl _))
  clear hbl hq1 hq2
  by_cases hone : zc = 1
  · obtain rfl : n = 1 := by omega
    subst hone
    have HnI := Lib.hid (show ∀ w' a', Ints w' a' ts from fun w' a' h => by have := Htl.out; omega)
    go_wp2
    go_region
    all_goals
      go_wp2
      refine bodyPost_ret (v := .tuple #[.int .i64 z, .agg #[.slice ra rs.length rc, .slice (some ⟨b, off, none⟩) 0 0], .bool true]) (by simp [results, Try.results15, go_sem, d0, d1]) rfl ?_
      have hbf : Below w.heap.size w ((w1.drew.setCell ⟨w.heap.size + 1, 0, none⟩ (.slice ra rs.length rc)).setCell ⟨w.heap.size + 1, 1, none⟩ (.slice (some ⟨b, off, none⟩) 0 0)) := ((H01.out.trans (Drawn.below ⟨1, rfl⟩ _)).setCell (by simp) _).setCell (by simp) _
      exact ⟨_, _, by rw [Htl.out], Hr.out.below hbf (Nat.le_refl _), HnI.out _ _, hbf⟩
  · have h1z : 1 < zc := by omega
    have h1z2 : ¬ (1 : Int) = (zc : Int) := by omega
    go_wp2
    go_region
    all_goals
      go_wp2
      refine bodyPost_ret (v := .tuple #[.int .i64 z, .agg #[.slice ra rs.length rc, .slice (some ⟨b, off + 1, none⟩) (n - 1) (zc - 1)], .bool true]) (by simp [results, Try.results15, go_sem, d0, d1]) rfl ?_
      have hbf : Below w.heap.size w ((w1.drew.setCell ⟨w.heap.size + 1, 0, none⟩ (.slice ra rs.length rc)).setCell ⟨w.heap.size + 1, 1, none⟩ (.slice (some ⟨b, off + 1, none⟩) (n - 1) (zc - 1))) := ((H01.out.trans (Drawn.below ⟨1, rfl⟩ _)).setCell (by simp) _).setCell (by simp) _
      exact ⟨_, _, by rw [Htl.out], Hr.out.below hbf (Nat.le_refl _), HzT.out.below hbf (Nat.le_refl _), hbf⟩
end Go.Proofs.Ytpegkmancaoeiaa
