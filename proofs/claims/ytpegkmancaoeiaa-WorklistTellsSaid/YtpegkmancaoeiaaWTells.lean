/-
  WorklistTells: the walk of the law.
-/
import Derived.Test.YtpegkmancaoeiaaWRPush
import Derived.Test.YtpegkmancaoeiaaWOnce
namespace Go.Proofs.Ytpegkmancaoeiaa
open Go.RowKit Go.WideShapes
set_option linter.unusedVariables false

theorem rpush_any (ra : Option Addr) (rc : Nat) (rs : List Int) (za : Option Addr) (zc : Nat) (zs : List Int) (x : Int) (w : World) (hn : rs.length ≤ maxLen) (hm : zs.length ≤ maxLen) (hzc : zs.length ≤ zc) (hzc2 : zc ≤ maxLen) (hr : Ints w ra rs) (hz : Ints w za zs) (hzn : za = none → zc = 0) :
    Calls Try.prog 12 #[.agg #[.slice ra rs.length rc, .slice za zs.length zc], .int .i64 x] w (RPushEnd w rs zs x) := by
  by_cases hq : qchk rs zs = 0
  · have hv := (qchk_iff rs zs).1 hq
    cases hi : isI rs x with
    | false => exact rpush_rng ra rc rs za zc zs x w hv.rl hm hzc hzc2 hr hz hq hi
    | true => exact rpush_good ra rc rs za zc zs x w hv hzc hzc2 hr hz hzn hi
  · exact rpush_bad ra rc rs za zc zs x w hn hm hzc hzc2 hr hz hq
theorem pop_ok (ra : Option Addr) (rc : Nat) (rs : List Int) (za : Option Addr) (zc : Nat) (zs : List Int) (z : Int) (ts : List Int) (w : World) (h : zs = z :: ts) (hv : QV rs zs) (hr : Ints w ra rs) (hz : Ints w za zs) (hrn : ra = none → rc = 0) (hzc : zs.length ≤ zc) (hzd : zc ≤ maxLen) :
    Calls Try.prog 14 #[.agg #[.slice ra rs.length rc, .slice za zs.length zc]] w (PopEnd w rs z ts) := by
  subst h
  exact pop_good ra rc rs za zc _ z ts w rfl hv hr hz hrn hzc hzd
theorem rpop_ok (ra : Option Addr) (rc : Nat) (rs : List Int) (za : Option Addr) (zc : Nat) (zs : List Int) (z : Int) (ts : List Int) (w : World) (h : zs = z :: ts) (hv : QV rs zs) (hr : Ints w ra rs) (hz : Ints w za zs) (hzc : zs.length ≤ zc) (hzd : zc ≤ maxLen) :
    Calls Try.prog 15 #[.agg #[.slice ra rs.length rc, .slice za zs.length zc]] w (RPopEnd w ra rc rs z ts) := by
  subst h
  exact rpop_good ra rc rs za zc _ z ts w rfl hv hr hz hzc hzd
theorem wo_has (zs : List Int) (x : Int) : decide ((wo zs x).length < zs.length) = hasB zs x := by
  by_cases h : x ∈ zs
  · rw [hasB_iff.2 h, decide_eq_true_iff]
    exact wo_len_in h
  · rw [hasB_not.2 h, decide_eq_false_iff_not]
    have := wo_len_out h
    omega
theorem sameZ_self (rs zs : List Int) : sameZ rs zs rs zs = true := by unfold sameZ; rw [eqL_self, eqL_self]; rfl
theorem keep2 {W X X' : World} {g B : Nat} {u0 u1 : Value} (h : X.cell? ⟨g, 0, none⟩ = some u0 ∧ X.cell? ⟨g, 1, none⟩ = some u1 ∧ Below B W X) (hg : g < B) (hB : W.heap.size = B) (hb : Below X.heap.size X X') :
    X'.cell? ⟨g, 0, none⟩ = some u0 ∧ X'.cell? ⟨g, 1, none⟩ = some u1 ∧ Below B W X' := by
  have hs := h.2.2.size
  exact ⟨(hb.cell (p := ⟨g, 0, none⟩) (by show g < _; omega)).trans h.1, (hb.cell (p := ⟨g, 1, none⟩) (by show g < _; omega)).trans h.2.1, h.2.2.trans (hb.mono (by omega))⟩

set_option maxHeartbeats 8000000 in
set_option maxRecDepth 100000 in
theorem tells_any (ra : Option Addr) (rc : Nat) (rs : List Int) (za : Option Addr) (zc : Nat) (zs : List Int) (x : Int) (w : World) (hn : rs.length ≤ maxLen) (hm : zs.length ≤ maxLen) (hr : Ints w ra rs) (hz : Ints w za zs) (hrn : ra = none → rc = 0) (hzn : za = none → zc = 0)
    (hzc : zs.length ≤ zc) (hzd : zc ≤ maxLen) :
    Calls Try.prog 3 #[.agg #[.slice ra rs.length rc, .slice za zs.length zc], .int .i64 x] w fun e w' => e = .returned (.bool true) ∧ Below w.heap.size w w' := by
  have hn' := hn
  have hm' := hm
  unfold maxLen at hn' hm'
  by_cases hbig : 300 < zs.length ∨ 8200 < rs.length
  · clear hr hz hrn hzn
    by_cases h1 : 300 < zs.length
    all_goals
      try (have h2 : 8200 < rs.length := by omega)
      clear hbig
      go_enter Try.func3, Try.ntmps3
      go_wp2_with (go_at_call 8; refine (awake_any _).mono ?_; rintro e w' ⟨rfl, hb⟩)
      go_ret
      exact ⟨rfl, ((Below.refl _ w).alloc (Nat.le_refl _) _).trans (hb.mono (by simp))⟩
  · have h1 : zs.length ≤ 300 := by omega
    have h2 : rs.length ≤ 8200 := by omega
    clear hbig
    have hq0 := QC.new w (.slice ra rs.length rc) (.slice za zs.length zc) 24
    have Hr := Lib.hid (hr.alloc (.cells #[.slice ra rs.length rc, .slice za zs.length zc] 24))
    have Hz := Lib.hid (hz.alloc (.cells #[.slice ra rs.length rc, .slice za zs.length zc] 24))
    have Hb0 := Lib.hid ((Below.refl w.heap.size w).alloc (Nat.le_refl _) (.cells #[.slice ra rs.length rc, .slice za zs.length zc] 24))
    have Hrn := Lib.hid hrn
    have Hzn := Lib.hid hzn
    clear hr hz hrn hzn
    generalize hw0 : w.alloc (.cells #[.slice ra rs.length rc, .slice za zs.length zc] 24) = w0 at *
    have hw0s : w.heap.size < w0.heap.size := by rw [← hw0]; simp
    have Hw0 := Lib.hid hw0
    clear hw0
    obtain ⟨c, hc⟩ : ∃ c, qchk rs zs = c := ⟨_, rfl⟩
    have Hc := Lib.hid hc
    clear hc
    obtain ⟨E, hE⟩ : ∃ E, pushE rs zs x = E := ⟨_, rfl⟩
    obtain ⟨R, hR⟩ : ∃ R, pushR rs zs x = R := ⟨_, rfl⟩
    obtain ⟨Z, hZ⟩ : ∃ Z, pushZ rs zs x = Z := ⟨_, rfl⟩
    have HE := Lib.hid hE
    have HR := Lib.hid hR
    have HZ := Lib.hid hZ
    clear hE hR hZ
    go_enter Try.func3, Try.ntmps3
    go_wp2_with fail
    rw [Hw0.out]
    have c0 := hq0.c0
    have c1 := hq0.c1
    have hS0 : w0.drew.cell? ⟨w.heap.size, 0, none⟩ = some (.slice ra rs.length rc) ∧ w0.drew.cell? ⟨w.heap.size, 1, none⟩ = some (.slice za zs.length zc) ∧ Below w0.heap.size w0 w0.drew := ⟨c0, c1, Drawn.below ⟨1, rfl⟩ _⟩
    go_region_held3 (fun w' => w'.cell? ⟨w.heap.size, 0, none⟩ = some (.slice ra rs.length rc) ∧ w'.cell? ⟨w.heap.size, 1, none⟩ = some (.slice za zs.length zc) ∧ Below w0.heap.size w0 w')
      (first
        | (with_reducible assumption)
        | fail)
      (first
        | (go_at_call 9; (with_reducible refine Calls.mono (check_at ra rc rs za zc zs c Hc.out _ hn hm (Hr.out.below (by exact (by assumption : _ ∧ _ ∧ _).2.2) (Nat.le_refl _)) (Hz.out.below (by exact (by assumption : _ ∧ _ ∧ _).2.2) (Nat.le_refl _))) ?_); rintro e w1 ⟨rfl, hb1⟩; have hS1 := keep2 (by assumption) hw0s rfl hb1)
        | (go_at_call 10; (with_reducible refine Calls.mono (rcheck_at ra rc rs za zc zs _ c Hc.out hn hm hzc hzd (Hr.out.below (by exact (by assumption : _ ∧ _ ∧ _).2.2) (Nat.le_refl _)) (Hz.out.below (by exact (by assumption : _ ∧ _ ∧ _).2.2) (Nat.le_refl _))) ?_); rintro e w2 ⟨rfl, hb2⟩; have hS2 := keep2 hS1 hw0s rfl hb2))
    have hS2' := Lib.hid hS2
    obtain ⟨p0, p1, hB2⟩ := hS2
    have HB2 := Lib.hid hB2
    clear hB2 hS1 hb1 hb2 hS0 c0 c1
    go_wp2_with fail
    refine (push_any ra rc rs za zc zs x w2 hn hm (Hr.out.below HB2.out (Nat.le_refl _)) (Hz.out.below HB2.out (Nat.le_refl _)) Hrn.out Hzn.out).mono ?_
    rintro e w3 ⟨v5, v6, rfl, ho5, ho6, hb3⟩
    rw [HE.out]
    rw [HR.out] at ho5
    rw [HZ.out] at ho6
    obtain ⟨a5, k5, rfl, -, -⟩ := ho5.shape2
    obtain ⟨a6, k6, rfl, -, -⟩ := ho6.shape2
    have hS3 := Lib.hid (keep2 hS2'.out hw0s rfl hb3)
    have q0 := hS3.out.1
    have q1 := hS3.out.2.1
    have Ho5 := Lib.hid (ho5.mono (b := 0) (Nat.zero_le _))
    have Ho6 := Lib.hid (ho6.mono (b := 0) (Nat.zero_le _))
    clear ho5 ho6 p0 p1 hb3
    have ps := hS3.out.2.2.size
    have pl : w.heap.size < w3.heap.size := by omega
    go_wp2_with fail
    have hq5 := QC.new w3 (.slice a5 R.length k5) (.slice a6 Z.length k6) 24
    have hS4 := keep2 hS3.out hw0s rfl ((Below.refl w3.heap.size w3).alloc (Nat.le_refl _) (.cells #[.slice a5 R.length k5, .slice a6 Z.length k6] 24))
    refine (rpush_any ra rc rs za zc zs x _ hn hm hzc hzd (Hr.out.below hS4.2.2 (Nat.le_refl _)) (Hz.out.below hS4.2.2 (Nat.le_refl _)) Hzn.out).mono ?_
    rintro e w5 ⟨a7, k7, a8, k8, rfl, hi7, hi8, hb5⟩
    rw [HE.out, HR.out, HZ.out]
    rw [HR.out] at hi7
    rw [HZ.out] at hi8
    have hS5 := Lib.hid (keep2 hS4 hw0s rfl hb5)
    have hq5' := hq5.below hb5
    have r0 := hS5.out.1
    have r1 := hS5.out.2.1
    have r2 := hq5'.c0
    have r3 := hq5'.c1
    have r4 := hq5'.lt
    have rs' := hS5.out.2.2.size
    have Ho5 := Lib.hid ((Ho5.out.alloc _).below hb5 (Nat.le_refl _))
    have Ho6 := Lib.hid ((Ho6.out.alloc _).below hb5 (Nat.le_refl _))
    have Hi7 := Lib.hid hi7
    have Hi8 := Lib.hid hi8
    clear hS4 hb5 hq5 hq5' q0 q1 hi7 hi8
    go_wp2_with fail
    refine (same_at a5 _ k5 R rfl a6 _ k6 Z rfl a7 _ k7 R rfl a8 _ k8 Z rfl true (sameZ_self R Z) _ (by have := Ho5.out.cap; omega) (by have := Ho6.out.cap; omega) (by have := Ho5.out.cap; omega) (by have := Ho6.out.cap; omega) (Ho5.out.alloc _).ints (Ho6.out.alloc _).ints (Hi7.out.alloc _) (Hi8.out.alloc _)).mono ?_
    rintro e w6 ⟨rfl, hb6⟩
    have hS6 := Lib.hid (keep2 (keep2 hS5.out hw0s rfl ((Below.refl w5.heap.size w5).alloc (Nat.le_refl _) (.cells #[.slice a7 R.length k7, .slice a8 Z.length k8] 24))) hw0s rfl hb6)
    have t0 := hS6.out.1
    have t1 := hS6.out.2.1
    have ts' := hS6.out.2.2.size
    have tl : w.heap.size < w6.heap.size := by omega
    clear hb6 Ho5 Ho6 Hi7 Hi8 r0 r1 r2 r3 r4 rs' ps pl
    go_wp2_with fail
    by_cases hp : zs.length = 0 ∨ ¬ qchk rs zs = 0
    · have Hp := Lib.hid hp
      clear hp
      refine (pop_bad ra rc rs za zc zs w6 hn hm (Hr.out.below hS6.out.2.2 (Nat.le_refl _)) (Hz.out.below hS6.out.2.2 (Nat.le_refl _)) Hp.out).mono ?_
      rintro e w7 ⟨rfl, hb7⟩
      have hS7 := Lib.hid (keep2 hS6.out hw0s rfl hb7)
      have u0 := hS7.out.1
      have u1 := hS7.out.2.1
      have us' := hS7.out.2.2.size
      have ul : w.heap.size < w7.heap.size := by omega
      clear hb7 t0 t1 ts' tl
      go_wp2_with fail
      have hq7 := QC.new w7 (.slice none 0 0) (.slice none 0 0) 24
      have hS8 := keep2 hS7.out hw0s rfl ((Below.refl w7.heap.size w7).alloc (Nat.le_refl _) (.cells #[.slice none 0 0, .slice none 0 0] 24))
      refine (rpop_bad ra rc rs za zc zs _ hn hm hzc hzd (Hr.out.below hS8.2.2 (Nat.le_refl _)) (Hz.out.below hS8.2.2 (Nat.le_refl _)) Hp.out).mono ?_
      rintro e w9 ⟨rfl, hb9⟩
      have hS9 := Lib.hid (keep2 hS8 hw0s rfl hb9)
      have hq9 := hq7.below hb9
      have y0 := hS9.out.1
      have y1 := hS9.out.2.1
      have y2 := hq9.c0
      have y3 := hq9.c1
      have y4 := hq9.lt
      have ys' := hS9.out.2.2.size
      clear hS8 hb9 hq7 hq9 u0 u1 us' ul
      go_wp2_with fail
      refine (same_at none 0 0 [] rfl none 0 0 [] rfl none 0 0 [] rfl none 0 0 [] rfl true (sameZ_self [] []) _ (Nat.zero_le _) (Nat.zero_le _) (Nat.zero_le _) (Nat.zero_le _) (fun h => absurd h (by simp)) (fun h => absurd h (by simp)) (fun h => absurd h (by simp)) (fun h => absurd h (by simp))).mono ?_
      rintro e wE ⟨rfl, hbE⟩
      have hSE := Lib.hid (keep2 (keep2 hS9.out hw0s rfl ((Below.refl w9.heap.size w9).alloc (Nat.le_refl _) (.cells #[.slice none 0 0, .slice none 0 0] 24))) hw0s rfl hbE)
      clear hbE y0 y1 y2 y3 y4 ys'
      have z0 := hSE.out.1
      have z1 := hSE.out.2.1
      go_wp2_with fail
      refine (rcheck_at ra rc rs za zc zs _ c Hc.out hn hm hzc hzd (Hr.out.below hSE.out.2.2 (Nat.le_refl _)) (Hz.out.below hSE.out.2.2 (Nat.le_refl _))).mono ?_
      rintro e wF ⟨rfl, hbF⟩
      have hSF := Lib.hid (keep2 hSE.out hw0s rfl hbF)
      have f0 := hSF.out.1
      have f1 := hSF.out.2.1
      have fs := hSF.out.2.2.size
      have fl : w.heap.size < wF.heap.size := by omega
      clear hbF z0 z1
      by_cases h0 : c = 0
      · subst h0
        have Hl0 := Lib.hid (show lenZ rs zs = zs.length by unfold lenZ; rw [if_pos Hc.out])
        have Hd0 := Lib.hid (show drainZ rs zs = zs by unfold drainZ; rw [if_pos Hc.out])
        obtain ⟨b, hb⟩ : ∃ b, hasB zs x = b := ⟨_, rfl⟩
        have Hh0 := Lib.hid (show hasZ rs zs x = b by unfold hasZ; rw [decide_eq_true Hc.out, hb]; rfl)
        obtain ⟨m, hm0⟩ : ∃ m, (wo zs x).length = m := ⟨_, rfl⟩
        have hd1 : decide (m < zs.length) = b := by rw [← hm0, ← hb]; exact wo_has zs x
        have hd2 : decide ((m : Int) < (zs.length : Int)) = b := by rw [← hd1]; simp
        have Hm0 := Lib.hid hm0
        clear hb hm0
        go_wp2_with fail
        have hG0 : wF.drew.cell? ⟨w.heap.size, 0, none⟩ = some (.slice ra rs.length rc) ∧ wF.drew.cell? ⟨w.heap.size, 1, none⟩ = some (.slice za zs.length zc) ∧ Below w0.heap.size w0 wF.drew := keep2 hSF.out hw0s rfl (Drawn.below ⟨1, rfl⟩ _)
        go_region_held3 (fun w' => w'.cell? ⟨w.heap.size, 0, none⟩ = some (.slice ra rs.length rc) ∧ w'.cell? ⟨w.heap.size, 1, none⟩ = some (.slice za zs.length zc) ∧ Below w0.heap.size w0 w')
          (first
            | (with_reducible assumption)
            | fail)
          (first
            | (go_at_call 19; (with_reducible refine Calls.mono (without_at za _ zc zs rfl x _ (by omega) (Hz.out.below (by exact (by assumption : _ ∧ _ ∧ _).2.2) (Nat.le_refl _))) ?_); rintro e wG ⟨vw, rfl, how, hbG⟩; obtain ⟨aw, kw, rfl, -, -⟩ := how.shape2; rw [Hm0.out]; have hSG := keep2 (by assumption) hw0s rfl hbG))
        have hSG' := Lib.hid hSG
        obtain ⟨g0, g1, hgb⟩ := hSG
        clear hgb hG0 f0 f1 fs fl hbG
        go_wp2_with fail
        have hG1 : wG.drew.cell? ⟨w.heap.size, 0, none⟩ = some (.slice ra rs.length rc) ∧ wG.drew.cell? ⟨w.heap.size, 1, none⟩ = some (.slice za zs.length zc) ∧ Below w0.heap.size w0 wG.drew := keep2 hSG'.out hw0s rfl (Drawn.below ⟨1, rfl⟩ _)
        go_region_held3 (fun w' => w'.cell? ⟨w.heap.size, 0, none⟩ = some (.slice ra rs.length rc) ∧ w'.cell? ⟨w.heap.size, 1, none⟩ = some (.slice za zs.length zc) ∧ Below w0.heap.size w0 w')
          (first
            | (with_reducible assumption)
            | fail)
          (first
            | (go_at_call 16; (with_reducible refine Calls.mono (len_at ra _ rc rs rfl za _ zc zs rfl _ Hl0.out _ hn hm (Hr.out.below (by exact (by assumption : _ ∧ _ ∧ _).2.2) (Nat.le_refl _)) (Hz.out.below (by exact (by assumption : _ ∧ _ ∧ _).2.2) (Nat.le_refl _))) ?_); rintro e wH ⟨rfl, hbH⟩; have hSH := keep2 (by assumption) hw0s rfl hbH)
            | (go_at_call 17; (with_reducible refine Calls.mono (drain_at ra _ rc rs rfl za _ zc zs rfl _ hn hm (Hr.out.below (by exact (by assumption : _ ∧ _ ∧ _).2.2) (Nat.le_refl _)) (Hz.out.below (by exact (by assumption : _ ∧ _ ∧ _).2.2) (Nat.le_refl _)) Hzn.out) ?_); rintro e wI ⟨vd, rfl, hod, hbI⟩; have hSI := keep2 hSH hw0s rfl hbI; rw [Hd0.out] at hod; obtain ⟨ad, kd, rfl, -, -⟩ := hod.shape2)
            | (go_at_call 20; (with_reducible refine Calls.mono (equal_at ad _ kd zs rfl za _ zc zs rfl true (eqL_self zs) _ hm hm hod.ints (Hz.out.below (by exact (by assumption : _ ∧ _ ∧ _).2.2) (Nat.le_refl _))) ?_); rintro e wJ ⟨rfl, hdJ⟩; have hSJ := keep2 hSI hw0s rfl (hdJ.below _))
            | (go_at_call 18; (with_reducible refine Calls.mono (has_at ra _ rc rs rfl za _ zc zs rfl x b Hh0.out _ hn hm (Hr.out.below (by exact (by assumption : _ ∧ _ ∧ _).2.2) (Nat.le_refl _)) (Hz.out.below (by exact (by assumption : _ ∧ _ ∧ _).2.2) (Nat.le_refl _))) ?_); rintro e wK ⟨rfl, hbK⟩; have hSK := keep2 hSJ hw0s rfl hbK)
            | (go_at_call 8; (with_reducible refine Calls.mono (awake_any _) ?_); rintro e wL ⟨rfl, hbL⟩; have hSL := keep2 hSK hw0s rfl hbL))
        go_wp2
        go_ret
        exact ⟨rfl, Hb0.out.trans (hSL.2.2.mono (by omega))⟩
      · have hb0 : (c != 0) = true := by rw [bne_iff_ne]; exact h0
        have Hl0 := Lib.hid (show lenZ rs zs = 0 by unfold lenZ; rw [if_neg (fun h => h0 (Hc.out.symm.trans h))])
        have Hd0 := Lib.hid (show drainZ rs zs = [] by unfold drainZ; rw [if_neg (fun h => h0 (Hc.out.symm.trans h))])
        have Hh0 := Lib.hid (show hasZ rs zs x = false by unfold hasZ; rw [decide_eq_false (fun h => h0 (Hc.out.symm.trans h))]; rfl)
        go_wp2_with fail
        refine (len_at ra _ rc rs rfl za _ zc zs rfl 0 Hl0.out _ hn hm (Hr.out.below hSF.out.2.2 (Nat.le_refl _)) (Hz.out.below hSF.out.2.2 (Nat.le_refl _))).mono ?_
        rintro e wG ⟨rfl, hbG⟩
        have hSG := Lib.hid (keep2 hSF.out hw0s rfl hbG)
        have g0 := hSG.out.1
        have g1 := hSG.out.2.1
        clear hbG f0 f1 fs fl
        go_wp2_with fail
        refine (drain_at ra _ rc rs rfl za _ zc zs rfl _ hn hm (Hr.out.below hSG.out.2.2 (Nat.le_refl _)) (Hz.out.below hSG.out.2.2 (Nat.le_refl _)) Hzn.out).mono ?_
        rintro e wH ⟨vd, rfl, hod, hbH⟩
        rw [Hd0.out] at hod
        obtain ⟨ad, kd, rfl, -, -⟩ := hod.shape2
        have hSH := Lib.hid (keep2 hSG.out hw0s rfl hbH)
        have h0c := hSH.out.1
        have h1c := hSH.out.2.1
        clear hbH g0 g1 hod
        go_wp2_with fail
        refine (has_at ra _ rc rs rfl za _ zc zs rfl x false Hh0.out _ hn hm (Hr.out.below hSH.out.2.2 (Nat.le_refl _)) (Hz.out.below hSH.out.2.2 (Nat.le_refl _))).mono ?_
        rintro e wI ⟨rfl, hbI⟩
        have hSI := Lib.hid (keep2 hSH.out hw0s rfl hbI)
        clear hbI h0c h1c
        go_wp2_with fail
        refine (awake_any _).mono ?_
        rintro e wJ ⟨rfl, hbJ⟩
        have hSJ := Lib.hid (keep2 hSI.out hw0s rfl hbJ)
        clear hbJ
        go_wp2_with fail
        go_ret
        exact ⟨rfl, Hb0.out.trans (hSJ.out.2.2.mono (by omega))⟩
    · have hq : qchk rs zs = 0 := by apply Classical.byContradiction; intro h; exact hp (.inr h)
      have Hv := Lib.hid ((qchk_iff rs zs).1 hq)
      obtain rfl : c = 0 := Hc.out.symm.trans hq
      obtain ⟨z, ts, hzt⟩ : ∃ z ts, zs = z :: ts := by
        cases zs with
        | nil => exact absurd (.inl rfl) hp
        | cons z ts => exact ⟨z, ts, rfl⟩
      have Hzt := Lib.hid hzt
      clear hzt hp hq
      refine (pop_ok ra rc rs za zc zs z ts w6 Hzt.out Hv.out (Hr.out.below hS6.out.2.2 (Nat.le_refl _)) (Hz.out.below hS6.out.2.2 (Nat.le_refl _)) Hrn.out hzc hzd).mono ?_
      rintro e w7 ⟨v1, v2, rfl, ho1, ho2, hb7⟩
      obtain ⟨a1, k1, rfl, -, -⟩ := ho1.shape2
      obtain ⟨a2, k2, rfl, -, -⟩ := ho2.shape2
      have hS7 := Lib.hid (keep2 hS6.out hw0s rfl hb7)
      have Ho1 := Lib.hid (ho1.mono (b := 0) (Nat.zero_le _))
      have Ho2 := Lib.hid (ho2.mono (b := 0) (Nat.zero_le _))
      have u0 := hS7.out.1
      have u1 := hS7.out.2.1
      have us' := hS7.out.2.2.size
      have ul : w.heap.size < w7.heap.size := by omega
      clear hb7 t0 t1 ts' tl ho1 ho2
      go_wp2_with fail
      have hq7 := QC.new w7 (.slice a1 rs.length k1) (.slice a2 ts.length k2) 24
      have hS8 := keep2 hS7.out hw0s rfl ((Below.refl w7.heap.size w7).alloc (Nat.le_refl _) (.cells #[.slice a1 rs.length k1, .slice a2 ts.length k2] 24))
      refine (rpop_ok ra rc rs za zc zs z ts _ Hzt.out Hv.out (Hr.out.below hS8.2.2 (Nat.le_refl _)) (Hz.out.below hS8.2.2 (Nat.le_refl _)) hzc hzd).mono ?_
      rintro e w9 ⟨a9, k9, rfl, hi9, hj9, hb9⟩
      have hS9 := Lib.hid (keep2 hS8 hw0s rfl hb9)
      have hq9 := hq7.below hb9
      have Ho1 := Lib.hid ((Ho1.out.alloc _).below hb9 (Nat.le_refl _))
      have Ho2 := Lib.hid ((Ho2.out.alloc _).below hb9 (Nat.le_refl _))
      have Hi9 := Lib.hid hi9
      have Hj9 := Lib.hid hj9
      have y0 := hS9.out.1
      have y1 := hS9.out.2.1
      have y2 := hq9.c0
      have y3 := hq9.c1
      have y4 := hq9.lt
      have ys' := hS9.out.2.2.size
      clear hS8 hb9 hq7 hq9 u0 u1 us' ul hi9 hj9
      go_wp2_with fail
      refine (same_at a1 _ k1 rs rfl a2 _ k2 ts rfl ra _ rc rs rfl a9 _ k9 ts rfl true (sameZ_self rs ts) _ hn (by have := Ho2.out.cap; omega) hn (by have := Ho2.out.cap; omega) (Ho1.out.alloc _).ints (Ho2.out.alloc _).ints (Hi9.out.alloc _) (Hj9.out.alloc _)).mono ?_
      rintro e wE ⟨rfl, hbE⟩
      have hSE := Lib.hid (keep2 (keep2 hS9.out hw0s rfl ((Below.refl w9.heap.size w9).alloc (Nat.le_refl _) (.cells #[.slice ra rs.length rc, .slice a9 ts.length k9] 24))) hw0s rfl hbE)
      clear hbE y0 y1 y2 y3 y4 ys' Ho1 Ho2 Hi9 Hj9
      have z0 := hSE.out.1
      have z1 := hSE.out.2.1
      go_wp2_with fail
      refine (rcheck_at ra rc rs za zc zs _ 0 Hc.out hn hm hzc hzd (Hr.out.below hSE.out.2.2 (Nat.le_refl _)) (Hz.out.below hSE.out.2.2 (Nat.le_refl _))).mono ?_
      rintro e wF ⟨rfl, hbF⟩
      have hSF := Lib.hid (keep2 hSE.out hw0s rfl hbF)
      have f0 := hSF.out.1
      have f1 := hSF.out.2.1
      have fs := hSF.out.2.2.size
      have fl : w.heap.size < wF.heap.size := by omega
      clear hbF z0 z1
      have Hl0 := Lib.hid (show lenZ rs zs = zs.length by unfold lenZ; rw [if_pos Hc.out])
      have Hd0 := Lib.hid (show drainZ rs zs = zs by unfold drainZ; rw [if_pos Hc.out])
      obtain ⟨b, hb⟩ : ∃ b, hasB zs x = b := ⟨_, rfl⟩
      have Hh0 := Lib.hid (show hasZ rs zs x = b by unfold hasZ; rw [decide_eq_true Hc.out, hb]; rfl)
      obtain ⟨m, hm0⟩ : ∃ m, (wo zs x).length = m := ⟨_, rfl⟩
      have hd1 : decide (m < zs.length) = b := by rw [← hm0, ← hb]; exact wo_has zs x
      have hd2 : decide ((m : Int) < (zs.length : Int)) = b := by rw [← hd1]; simp
      have Hm0 := Lib.hid hm0
      clear hb hm0
      go_wp2_with fail
      have hG0 : wF.drew.cell? ⟨w.heap.size, 0, none⟩ = some (.slice ra rs.length rc) ∧ wF.drew.cell? ⟨w.heap.size, 1, none⟩ = some (.slice za zs.length zc) ∧ Below w0.heap.size w0 wF.drew := keep2 hSF.out hw0s rfl (Drawn.below ⟨1, rfl⟩ _)
      go_region_held3 (fun w' => w'.cell? ⟨w.heap.size, 0, none⟩ = some (.slice ra rs.length rc) ∧ w'.cell? ⟨w.heap.size, 1, none⟩ = some (.slice za zs.length zc) ∧ Below w0.heap.size w0 w')
        (first
          | (with_reducible assumption)
          | fail)
        (first
          | (go_at_call 19; (with_reducible refine Calls.mono (without_at za _ zc zs rfl x _ (by omega) (Hz.out.below (by exact (by assumption : _ ∧ _ ∧ _).2.2) (Nat.le_refl _))) ?_); rintro e wG ⟨vw, rfl, how, hbG⟩; obtain ⟨aw, kw, rfl, -, -⟩ := how.shape2; rw [Hm0.out]; have hSG := keep2 (by assumption) hw0s rfl hbG))
      have hSG' := Lib.hid hSG
      obtain ⟨g0, g1, hgb⟩ := hSG
      clear hgb hG0 f0 f1 fs fl hbG
      go_wp2_with fail
      have hG1 : wG.drew.cell? ⟨w.heap.size, 0, none⟩ = some (.slice ra rs.length rc) ∧ wG.drew.cell? ⟨w.heap.size, 1, none⟩ = some (.slice za zs.length zc) ∧ Below w0.heap.size w0 wG.drew := keep2 hSG'.out hw0s rfl (Drawn.below ⟨1, rfl⟩ _)
      go_region_held3 (fun w' => w'.cell? ⟨w.heap.size, 0, none⟩ = some (.slice ra rs.length rc) ∧ w'.cell? ⟨w.heap.size, 1, none⟩ = some (.slice za zs.length zc) ∧ Below w0.heap.size w0 w')
        (first
          | (with_reducible assumption)
          | fail)
        (first
          | (go_at_call 16; (with_reducible refine Calls.mono (len_at ra _ rc rs rfl za _ zc zs rfl _ Hl0.out _ hn hm (Hr.out.below (by exact (by assumption : _ ∧ _ ∧ _).2.2) (Nat.le_refl _)) (Hz.out.below (by exact (by assumption : _ ∧ _ ∧ _).2.2) (Nat.le_refl _))) ?_); rintro e wH ⟨rfl, hbH⟩; have hSH := keep2 (by assumption) hw0s rfl hbH)
          | (go_at_call 17; (with_reducible refine Calls.mono (drain_at ra _ rc rs rfl za _ zc zs rfl _ hn hm (Hr.out.below (by exact (by assumption : _ ∧ _ ∧ _).2.2) (Nat.le_refl _)) (Hz.out.below (by exact (by assumption : _ ∧ _ ∧ _).2.2) (Nat.le_refl _)) Hzn.out) ?_); rintro e wI ⟨vd, rfl, hod, hbI⟩; have hSI := keep2 hSH hw0s rfl hbI; rw [Hd0.out] at hod; obtain ⟨ad, kd, rfl, -, -⟩ := hod.shape2)
          | (go_at_call 20; (with_reducible refine Calls.mono (equal_at ad _ kd zs rfl za _ zc zs rfl true (eqL_self zs) _ hm hm hod.ints (Hz.out.below (by exact (by assumption : _ ∧ _ ∧ _).2.2) (Nat.le_refl _))) ?_); rintro e wJ ⟨rfl, hdJ⟩; have hSJ := keep2 hSI hw0s rfl (hdJ.below _))
          | (go_at_call 18; (with_reducible refine Calls.mono (has_at ra _ rc rs rfl za _ zc zs rfl x b Hh0.out _ hn hm (Hr.out.below (by exact (by assumption : _ ∧ _ ∧ _).2.2) (Nat.le_refl _)) (Hz.out.below (by exact (by assumption : _ ∧ _ ∧ _).2.2) (Nat.le_refl _))) ?_); rintro e wK ⟨rfl, hbK⟩; have hSK := keep2 hSJ hw0s rfl hbK)
          | (go_at_call 8; (with_reducible refine Calls.mono (awake_any _) ?_); rintro e wL ⟨rfl, hbL⟩; have hSL := keep2 hSK hw0s rfl hbL))
      go_wp2
      go_ret
      exact ⟨rfl, Hb0.out.trans (hSL.2.2.mono (by omega))⟩

theorem tells_row (ra : Option Addr) (rc : Nat) (rs : List Int) (za : Option Addr) (zc : Nat) (zs : List Int) (x : Int) (w : World) (hn : rs.length ≤ maxLen) (hm : zs.length ≤ maxLen) (hr : Ints w ra rs) (hz : Ints w za zs) (hrn : ra = none → rc = 0) (hzn : za = none → zc = 0)
    (hzc : zs.length ≤ zc) (hzd : zc ≤ maxLen) (hx : (Lit.int .i64 x).wf = true) :
    Calls Try.prog 3 #[.agg #[.slice ra rs.length rc, .slice za zs.length zc], .int .i64 x] w fun e w' => e = .returned (.bool true) ∧ Below w.heap.size w w' :=
  tells_any ra rc rs za zc zs x w hn hm hr hz hrn hzn hzc hzd
end Go.Proofs.Ytpegkmancaoeiaa
