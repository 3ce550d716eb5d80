/-
  WorklistOnce: the walk of the law. Pushing an item twice is the same as pushing it once, and popping keeps all others in order.
-/
import Derived.Test.YtpegkmancaoeiaaWArr
namespace Go.Proofs.Ytpegkmancaoeiaa
open Go.RowKit Go.WideShapes
set_option linter.unusedVariables false

theorem same_at (ra : Option Addr) (n rc : Nat) (rs : List Int) (hl1 : rs.length = n) (za : Option Addr) (m zc : Nat) (zs : List Int) (hl2 : zs.length = m) (rb : Option Addr) (n2 rd : Nat) (rs2 : List Int) (hl3 : rs2.length = n2) (zb : Option Addr) (m2 zd : Nat) (zs2 : List Int) (hl4 : zs2.length = m2)
    (r : Bool) (hr0 : sameZ rs zs rs2 zs2 = r) (w : World)
    (hn : n ≤ maxLen) (hm : m ≤ maxLen) (hn2 : n2 ≤ maxLen) (hm2 : m2 ≤ maxLen) (hr : Ints w ra rs) (hz : Ints w za zs) (hr2 : Ints w rb rs2) (hz2 : Ints w zb zs2) :
    Calls Try.prog 13 #[.agg #[.slice ra n rc, .slice za m zc], .agg #[.slice rb n2 rd, .slice zb m2 zd]] w fun e w' => e = .returned (.bool r) ∧ Below w.heap.size w w' := by
  subst hl1 hl2 hl3 hl4 hr0
  exact same_any ra rc rs za zc zs rb rd rs2 zb zd zs2 w hn hm hn2 hm2 hr hz hr2 hz2
theorem has_at (ra : Option Addr) (n rc : Nat) (rs : List Int) (hl : rs.length = n) (za : Option Addr) (m zc : Nat) (zs : List Int) (hm' : zs.length = m) (x : Int) (r : Bool) (h : hasZ rs zs x = r) (w : World) (hn : n ≤ maxLen) (hm : m ≤ maxLen) (hr : Ints w ra rs) (hz : Ints w za zs) :
    Calls Try.prog 18 #[.agg #[.slice ra n rc, .slice za m zc], .int .i64 x] w fun e w' => e = .returned (.bool r) ∧ Below w.heap.size w w' := by
  subst hl hm' h; exact has_any ra rc rs za zc zs x w hn hm hr hz

theorem push_again {rs zs : List Int} {x : Int} (h : pushE rs zs x = 0) : pushE rs (pushZ rs zs x) x = 0 ∧ pushR rs (pushZ rs zs x) x = rs ∧ pushZ rs (pushZ rs zs x) x = pushZ rs zs x := by
  have hv := push_valid h
  have hx : x ∈ pushZ rs zs x := (mem_pushZ h x).2 (.inl rfl)
  have h0 := pushE_in ((qchk_iff _ _).2 hv) (hv.rng x hx) hx
  exact ⟨h0, pushR_ok h0, pushZ_in h0 hx⟩
theorem Own.slice_at {w : World} {base : Nat} {a : Option Addr} {n c : Nat} {zs : List Int} (h : Own w base (.slice a n c) zs) : n = zs.length := by
  obtain ⟨a', c', e, _, _⟩ := h.shape2
  cases e; rfl

set_option maxHeartbeats 8000000 in
set_option maxRecDepth 100000 in
theorem once_any (ra : Option Addr) (rc : Nat) (rs : List Int) (za : Option Addr) (zc : Nat) (zs : List Int) (x : Int) (w : World) (hn : rs.length ≤ maxLen) (hm : zs.length ≤ maxLen) (hr : Ints w ra rs) (hz : Ints w za zs) (hrn : ra = none → rc = 0) (hzn : za = none → zc = 0) :
    Calls Try.prog 7 #[.agg #[.slice ra rs.length rc, .slice za zs.length zc], .int .i64 x] w fun e w' => e = .returned (.bool true) ∧ Below w.heap.size w w' := by
  have hn' := hn
  have hm' := hm
  unfold maxLen at hn' hm'
  by_cases hbig : 300 < zs.length ∨ 8200 < rs.length
  · clear hr hz hrn hzn
    by_cases h1 : 300 < zs.length
    all_goals
      try (have h2 : 8200 < rs.length := by omega)
      clear hbig
      go_enter Try.func7, Try.ntmps7
      go_wp2_with (go_at_call 8; refine (awake_any _).mono ?_; rintro e w' ⟨rfl, hb⟩)
      go_ret
      exact ⟨rfl, ((Below.refl _ w).alloc (Nat.le_refl _) _).trans (hb.mono (by simp))⟩
  · have h1 : zs.length ≤ 300 := by omega
    have h2 : rs.length ≤ 8200 := by omega
    clear hbig
    have Hr := Lib.hid (hr.alloc (.cells #[.slice ra rs.length rc, .slice za zs.length zc] 24))
    have Hz := Lib.hid (hz.alloc (.cells #[.slice ra rs.length rc, .slice za zs.length zc] 24))
    have Hrn := Lib.hid hrn
    have Hzn := Lib.hid hzn
    clear hr hz hrn hzn
    by_cases he : pushE rs zs x = 0
    · have hv := push_valid he
      have hR0 := pushR_ok he
      obtain ⟨g1, g2, g3⟩ := push_again he
      have hx := (mem_pushZ he x).2 (.inl rfl)
      generalize hz2 : pushZ rs zs x = zs2 at *
      have Hp := Lib.hid hz2
      have He := Lib.hid he
      have HR0 := Lib.hid hR0
      have G1 := Lib.hid g1
      have G2 := Lib.hid g2
      have G3 := Lib.hid g3
      obtain ⟨z, ts, rfl⟩ : ∃ z ts, zs2 = z :: ts := by
        cases zs2 with
        | nil => simp at hx
        | cons z ts => exact ⟨z, ts, rfl⟩
      have hq := (qchk_iff _ _).2 hv
      have hvt := hv.tail
      have hqt := (qchk_iff _ _).2 hvt
      have hzt := (List.nodup_cons.1 hv.nd).1
      have Hhas := Lib.hid (show hasZ rs (z :: ts) x = true by unfold hasZ; rw [decide_eq_true hq, hasB_iff.2 hx]; rfl)
      have Hno := Lib.hid (show hasZ rs ts z = false by unfold hasZ; rw [hasB_not.2 hzt, Bool.and_false])
      have Hdr := Lib.hid (show drainZ rs (z :: ts) = z :: ts by unfold drainZ; rw [if_pos hq])
      have Hdt := Lib.hid (show drainZ rs ts = ts by unfold drainZ; rw [if_pos hqt])
      have Hv := Lib.hid hv
      obtain ⟨n, hnl⟩ : ∃ n, ts.length = n := ⟨_, rfl⟩
      have hn3 : n ≤ 8192 := by have := hvt.zl; omega
      have Hnl := Lib.hid hnl
      have Hnl1 := Lib.hid (show (z :: ts).length = n + 1 by simp [hnl])
      clear hz2 he hR0 g1 g2 g3 hx hq hqt hzt hv hvt hnl
      go_enter Try.func7, Try.ntmps7
      go_wp2_with fail
      refine (push_at ra _ rc rs rfl za _ zc zs rfl x _ hn hm Hr.out Hz.out Hrn.out Hzn.out).mono ?_
      rintro e w2 ⟨v5, v6, rfl, ho5, ho6, hb2⟩
      rw [He.out]
      rw [HR0.out] at ho5
      rw [Hp.out] at ho6
      obtain ⟨a5, k5, rfl, -, -⟩ := ho5.shape2
      obtain ⟨a6, k6, rfl, -, -⟩ := ho6.shape2
      rw [Hnl1.out] at ho6 ⊢
      have Hb2 := Lib.hid (((Below.refl w.heap.size w).alloc (Nat.le_refl _) _).trans (hb2.mono (by simp)) : Below w.heap.size w w2)
      have Ho5 := Lib.hid (ho5.mono (b := 0) (Nat.zero_le _))
      have Ho6 := Lib.hid (ho6.mono (b := 0) (Nat.zero_le _))
      have hs2 := Hb2.out.size
      clear ho5 ho6 hb2
      go_wp2_with fail
      refine (push_at a5 _ k5 rs rfl a6 _ k6 (z :: ts) Hnl1.out x _ hn (by unfold maxLen; omega) (Ho5.out.alloc _).ints (Ho6.out.alloc _).ints Ho5.out.nilcap Ho6.out.nilcap).mono ?_
      rintro e w3 ⟨v7, v8, rfl, ho7, ho8, hb3⟩
      rw [G1.out]
      rw [G2.out] at ho7
      rw [G3.out] at ho8
      obtain ⟨a7, k7, rfl, -, -⟩ := ho7.shape2
      obtain ⟨a8, k8, rfl, -, -⟩ := ho8.shape2
      rw [Hnl1.out] at ho8 ⊢
      have hq3 := (QC.new w2 (.slice a5 rs.length k5) (.slice a6 (n + 1) k6) 24).below hb3
      have Ho5 := Lib.hid ((Ho5.out.alloc _).below hb3 (Nat.le_refl _))
      have Ho6 := Lib.hid ((Ho6.out.alloc _).below hb3 (Nat.le_refl _))
      have Ho7 := Lib.hid (ho7.mono (b := 0) (Nat.zero_le _))
      have Ho8 := Lib.hid (ho8.mono (b := 0) (Nat.zero_le _))
      have Hb3 := Lib.hid ((Hb2.out.alloc hs2 _).trans (hb3.mono (by simp; omega)) : Below w.heap.size w w3)
      have hs3 := Hb3.out.size
      have Hq3 := Lib.hid hq3
      have p0 := hq3.c0
      have p1 := hq3.c1
      have pl := hq3.lt
      clear ho7 ho8 hb3 hq3
      go_wp2_with fail
      refine (same_at a5 _ k5 rs rfl a6 _ k6 (z :: ts) Hnl1.out a7 _ k7 rs rfl a8 _ k8 (z :: ts) Hnl1.out true (by unfold sameZ; rw [eqL_self, eqL_self]; rfl) _ hn (by unfold maxLen; omega) hn (by unfold maxLen; omega) (Ho5.out.alloc _).ints (Ho6.out.alloc _).ints (Ho7.out.alloc _).ints (Ho8.out.alloc _).ints).mono ?_
      rintro e w4 ⟨rfl, hb4⟩
      have hq4 := (Hq3.out.alloc (.cells #[.slice a7 rs.length k7, .slice a8 (n + 1) k8] 24)).below hb4
      have Ho5 := Lib.hid ((Ho5.out.alloc _).below hb4 (Nat.le_refl _))
      have Ho6 := Lib.hid ((Ho6.out.alloc _).below hb4 (Nat.le_refl _))
      have Hb4 := Lib.hid ((Hb3.out.alloc hs3 _).trans (hb4.mono (by simp; omega)) : Below w.heap.size w w4)
      have hs4 := Hb4.out.size
      have Hq4 := Lib.hid hq4
      clear p0 p1 pl
      have p0 := hq4.c0
      have p1 := hq4.c1
      clear hb4 hq4
      go_wp2_with fail
      refine (has_at a5 _ k5 rs rfl a6 _ k6 (z :: ts) Hnl1.out x true Hhas.out _ hn (by unfold maxLen; omega) Ho5.out.ints Ho6.out.ints).mono ?_
      rintro e w5 ⟨rfl, hb5⟩
      have hq5 := Hq4.out.below hb5
      have Ho5 := Lib.hid (Ho5.out.below hb5 (Nat.le_refl _))
      have Ho6 := Lib.hid (Ho6.out.below hb5 (Nat.le_refl _))
      have Hb5 := Lib.hid (Hb4.out.trans (hb5.mono hs4) : Below w.heap.size w w5)
      have hs5 := Hb5.out.size
      have Hq5 := Lib.hid hq5
      clear p0 p1
      have p0 := hq5.c0
      have p1 := hq5.c1
      clear hb5 hq5
      go_wp2_with fail
      refine (drain_at a5 _ k5 rs rfl a6 _ k6 (z :: ts) Hnl1.out _ hn (by unfold maxLen; omega) Ho5.out.ints Ho6.out.ints Ho6.out.nilcap).mono ?_
      rintro e w6 ⟨v9, rfl, ho9, hb6⟩
      rw [Hdr.out] at ho9
      obtain ⟨a9, k9, rfl, -, -⟩ := ho9.shape2
      rw [Hnl1.out] at ho9 ⊢
      have hq6 := Hq5.out.below hb6
      have Ho5 := Lib.hid (Ho5.out.below hb6 (Nat.le_refl _))
      have Ho6 := Lib.hid (Ho6.out.below hb6 (Nat.le_refl _))
      have Ho9 := Lib.hid (ho9.mono (b := 0) (Nat.zero_le _))
      have Hb6 := Lib.hid (Hb5.out.trans (hb6.mono hs5) : Below w.heap.size w w6)
      have hs6 := Hb6.out.size
      clear p0 p1
      have p0 := hq6.c0
      have p1 := hq6.c1
      clear hb6 hq6 ho9
      go_wp2_with fail
      refine (pop_at a5 _ k5 rs rfl a6 k6 _ z ts _ Hnl1.out Hv.out Ho5.out.ints Ho6.out.ints Ho5.out.nilcap Ho6.out.cap.1 Ho6.out.cap.2).mono ?_
      rintro e w7 ⟨v10, v11, rfl, ho10, ho11, hb7⟩
      obtain ⟨a10, k10, rfl, -, -⟩ := ho10.shape2
      obtain ⟨a11, k11, rfl, -, -⟩ := ho11.shape2
      rw [Hnl.out] at ho11 ⊢
      have Ho9 := Lib.hid (Ho9.out.below hb7 (Nat.le_refl _))
      have Ho10 := Lib.hid (ho10.mono (b := 0) (Nat.zero_le _))
      have Ho11 := Lib.hid (ho11.mono (b := 0) (Nat.zero_le _))
      have Hb7 := Lib.hid (Hb6.out.trans (hb7.mono hs6) : Below w.heap.size w w7)
      have hs7 := Hb7.out.size
      clear p0 p1 hb7 ho10 ho11
      obtain ⟨b9, o9, rfl, hc9⟩ := Ho9.out.ints (by simp)
      have c9 := hc9 0 (by simp)
      simp only [Nat.add_zero, List.getD_cons_zero] at c9
      have hb9 := World.block_lt_of_cell? _ _ c9
      have c9' := ((Below.refl _ w7).alloc (Nat.le_refl _) (.cells #[.slice a10 rs.length k10, .slice a11 n k11] 24)).cell (p := ⟨b9, o9, none⟩) hb9 |>.trans c9
      have H9t := Lib.hid (show Ints w7 (some ⟨b9, o9 + 1, none⟩) ts from fun _ => ⟨b9, o9 + 1, rfl, fun i hi => by
        have := hc9 (i + 1) (by simp; omega)
        rw [List.getD_cons_succ] at this
        rw [← this, show o9 + 1 + i = o9 + (i + 1) from by omega]⟩)
      have hk9 := Ho9.out.cap
      unfold maxLen at hk9
      have hk91 := hk9.1
      have hk92 := hk9.2
      have hp1 : 0 < n + 1 := by omega
      have hp2 : (0 : Int) < (n : Int) + 1 := by omega
      have hb0 : ((n : Int) + 1 == 0) = false := by rw [beq_eq_false_iff_ne]; omega
      clear hc9 c9 hk9
      go_wp2_with fail
      refine (has_at a10 _ k10 rs rfl a11 _ k11 ts Hnl.out z false Hno.out _ hn (by unfold maxLen; omega) (Ho10.out.alloc _).ints (Ho11.out.alloc _).ints).mono ?_
      rintro e w8 ⟨rfl, hb8⟩
      have hq8 := (QC.new w7 (.slice a10 rs.length k10) (.slice a11 n k11) 24).below hb8
      have Ho10 := Lib.hid ((Ho10.out.alloc _).below hb8 (Nat.le_refl _))
      have Ho11 := Lib.hid ((Ho11.out.alloc _).below hb8 (Nat.le_refl _))
      have H9u := Lib.hid ((H9t.out.alloc _).below hb8 (Nat.le_refl _))
      have Hb8 := Lib.hid ((Hb7.out.alloc hs7 _).trans (hb8.mono (by simp; omega)) : Below w.heap.size w w8)
      have hs8 := Hb8.out.size
      have p0 := hq8.c0
      have p1 := hq8.c1
      have H10i := Lib.hid (show Ints w8.drew a10 rs from Ho10.out.ints)
      have H11i := Lib.hid (show Ints w8.drew a11 ts from Ho11.out.ints)
      have Hd8 := Lib.hid (show Below w8.heap.size w8 w8.drew from Drawn.below ⟨1, rfl⟩ _)
      clear hb8 hq8 c9' hb9
      by_cases hk1 : k9 = 1
      · obtain rfl : n = 0 := by omega
        subst hk1
        have HnI := Lib.hid (show ∀ w' a', Ints w' a' ts from fun w' a' h => by have := Hnl.out; omega)
        go_wp2
        go_region_with (first
          | (go_at_call 17; (with_reducible refine Calls.mono (drain_at a10 _ k10 rs rfl a11 _ k11 ts Hnl.out _ hn (by unfold maxLen; omega) H10i.out H11i.out Ho11.out.nilcap) ?_); rintro e w9 ⟨v12, rfl, ho12, hb12⟩; rw [Hdt.out] at ho12; obtain ⟨a12, k12, rfl, -, -⟩ := ho12.shape2; rw [Hnl.out] at ho12 ⊢)
          | (go_at_call 20; (with_reducible refine Calls.mono (equal_at a12 _ k12 ts Hnl.out _ _ _ ts Hnl.out true (eqL_self _) _ (by unfold maxLen; omega) (by unfold maxLen; omega) ho12.ints (HnI.out _ _)) ?_); rintro e w10 ⟨rfl, n10, rfl⟩)
          | (go_at_call 8; (with_reducible refine Calls.mono (awake_any _) ?_); rintro e w11 ⟨rfl, hb11⟩)
          | fail)
        all_goals
          go_wp2
          go_ret
          exact ⟨rfl, ((Hb8.out.trans ((Hd8.out.mono hs8).trans (hb12.mono (by show w.heap.size ≤ w8.heap.size; exact hs8)))).trans (Drawn.below ⟨n10, rfl⟩ _)).trans (hb11.mono (by have := hb12.size; simp at this ⊢; omega))⟩
      · have hk3 : 1 < k9 := by omega
        have hk4 : ¬ (1 : Int) = (k9 : Int) := by omega
        go_wp2
        go_region_with (first
          | (go_at_call 17; (with_reducible refine Calls.mono (drain_at a10 _ k10 rs rfl a11 _ k11 ts Hnl.out _ hn (by unfold maxLen; omega) H10i.out H11i.out Ho11.out.nilcap) ?_); rintro e w9 ⟨v12, rfl, ho12, hb12⟩; rw [Hdt.out] at ho12; obtain ⟨a12, k12, rfl, -, -⟩ := ho12.shape2; rw [Hnl.out] at ho12 ⊢; have H12 := Lib.hid (show Ints w9 (some ⟨b9, o9 + 1, none⟩) ts from H9u.out.below (Hd8.out.trans hb12) (Nat.le_refl _)))
          | (go_at_call 20; (with_reducible refine Calls.mono (equal_at a12 _ k12 ts Hnl.out _ _ _ ts Hnl.out true (eqL_self _) _ (by unfold maxLen; omega) (by unfold maxLen; omega) ho12.ints H12.out) ?_); rintro e w10 ⟨rfl, n10, rfl⟩)
          | (go_at_call 8; (with_reducible refine Calls.mono (awake_any _) ?_); rintro e w11 ⟨rfl, hb11⟩)
          | fail)
        all_goals
          go_wp2
          go_ret
          exact ⟨rfl, ((Hb8.out.trans ((Hd8.out.mono hs8).trans (hb12.mono (by show w.heap.size ≤ w8.heap.size; exact hs8)))).trans (Drawn.below ⟨n10, rfl⟩ _)).trans (hb11.mono (by have := hb12.size; simp at this ⊢; omega))⟩
    · have hb : (pushE rs zs x != 0) = true := by simpa using he
      obtain ⟨cE, hcE⟩ : ∃ cE, pushE rs zs x = cE := ⟨_, rfl⟩
      rw [hcE] at hb
      have HcE := Lib.hid hcE
      clear hcE he
      go_enter Try.func7, Try.ntmps7
      go_wp2_with fail
      refine (push_at ra _ rc rs rfl za _ zc zs rfl x _ hn hm Hr.out Hz.out Hrn.out Hzn.out).mono ?_
      rintro e w2 ⟨v5, v6, rfl, ho5, ho6, hb2⟩
      rw [HcE.out]
      obtain ⟨a5, k5, rfl, -, -⟩ := ho5.shape2
      obtain ⟨a6, k6, rfl, -, -⟩ := ho6.shape2
      go_wp2_with fail
      refine (awake_any _).mono ?_
      rintro e w3 ⟨rfl, hb3⟩
      go_wp2
      go_ret
      have hs2 := hb2.size
      simp at hs2
      exact ⟨rfl, ((((Below.refl _ w).alloc (Nat.le_refl _) _).trans (hb2.mono (by simp))).alloc (by omega) _).trans (hb3.mono (by simp; omega))⟩
theorem once_row (ra : Option Addr) (rc : Nat) (rs : List Int) (za : Option Addr) (zc : Nat) (zs : List Int) (x : Int) (w : World) (hn : rs.length ≤ maxLen) (hm : zs.length ≤ maxLen) (hr : Ints w ra rs) (hz : Ints w za zs) (hrn : ra = none → rc = 0) (hzn : za = none → zc = 0)
    (hzc : zs.length ≤ zc) (hzd : zc ≤ maxLen) (hx : (Lit.int .i64 x).wf = true) :
    Calls Try.prog 7 #[.agg #[.slice ra rs.length rc, .slice za zs.length zc], .int .i64 x] w fun e w' => e = .returned (.bool true) ∧ Below w.heap.size w w' :=
  once_any ra rc rs za zc zs x w hn hm hr hz hrn hzn
end Go.Proofs.Ytpegkmancaoeiaa
