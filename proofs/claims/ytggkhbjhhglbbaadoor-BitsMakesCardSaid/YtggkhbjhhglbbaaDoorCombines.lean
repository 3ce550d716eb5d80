/-
  The definition's Union, Minus, Both; BitsCombines: the walk of the law.
-/
import Derived.Test.YtggkhbjhhglbbaaDoorRMerge
namespace Go.Proofs.YtggkhbjhhglbbaaDoor
open Go.RowKit Go.WideShapes
set_option linter.unusedVariables false

set_option maxHeartbeats 800000 in
theorem runion_any {a : Option Addr} {c : Nat} {wa : List Nat} {b : Option Addr} {d : Nat} {wb : List Nat} {w : World} (h1 : Good w a c wa) (h2 : Good w b d wb) :
    Calls Tryd.prog 26 #[.slice a wa.length c, .slice b wb.length d] w fun e w' => ∃ a' c', e = .returned (.slice a' (unionL wa wb).length c') ∧ Good w' a' c' (unionL wa wb) ∧ Below w.heap.size w w' := by
  have H1 := Lib.hid h1
  have H2 := Lib.hid h2
  have Heq := Lib.hid (fun ms (hn : Normal ms) (hw : Wf ms) (hm : ∀ i, mem ms i = sel true true true (mem wa i) (mem wb i)) => (ext_normal hw (wf_unionL h1.wf h2.wf) hn (normal_unionL wa wb) fun i => by rw [hm, mem_unionL]; cases mem wa i <;> cases mem wb i <;> rfl : ms = unionL wa wb))
  obtain ⟨us, hus⟩ : ∃ us, unionL wa wb = us := ⟨_, rfl⟩
  rw [hus] at Heq ⊢
  clear h1 h2 hus
  go_enter Tryd.func26, Tryd.ntmps26
  go_wp2_with fail
  refine (rmerge_any true true true H1.out H2.out).mono ?_
  rintro e w1 ⟨a', c', ms, rfl, hg, hn, hm, hb⟩
  obtain rfl := Heq.out ms hn hg.wf hm
  have Hg := Lib.hid hg
  have Hb := Lib.hid hb
  clear hg hn hm hb
  go_wp2_with fail
  go_ret
  exact ⟨_, _, rfl, Hg.out, Hb.out⟩

set_option maxHeartbeats 800000 in
theorem rminus_any {a : Option Addr} {c : Nat} {wa : List Nat} {b : Option Addr} {d : Nat} {wb : List Nat} {w : World} (h1 : Good w a c wa) (h2 : Good w b d wb) :
    Calls Tryd.prog 28 #[.slice a wa.length c, .slice b wb.length d] w fun e w' => ∃ a' c', e = .returned (.slice a' (minusL wa wb).length c') ∧ Good w' a' c' (minusL wa wb) ∧ Below w.heap.size w w' := by
  have H1 := Lib.hid h1
  have H2 := Lib.hid h2
  have Heq := Lib.hid (fun ms (hn : Normal ms) (hw : Wf ms) (hm : ∀ i, mem ms i = sel true false false (mem wa i) (mem wb i)) => (ext_normal hw (wf_minusL h1.wf) hn (normal_minusL wa wb) fun i => by rw [hm, mem_minusL h1.wf h2.wf]; cases mem wa i <;> cases mem wb i <;> rfl : ms = minusL wa wb))
  obtain ⟨us, hus⟩ : ∃ us, minusL wa wb = us := ⟨_, rfl⟩
  rw [hus] at Heq ⊢
  clear h1 h2 hus
  go_enter Tryd.func28, Tryd.ntmps28
  go_wp2_with fail
  refine (rmerge_any true false false H1.out H2.out).mono ?_
  rintro e w1 ⟨a', c', ms, rfl, hg, hn, hm, hb⟩
  obtain rfl := Heq.out ms hn hg.wf hm
  have Hg := Lib.hid hg
  have Hb := Lib.hid hb
  clear hg hn hm hb
  go_wp2_with fail
  go_ret
  exact ⟨_, _, rfl, Hg.out, Hb.out⟩

set_option maxHeartbeats 800000 in
theorem rboth_any {a : Option Addr} {c : Nat} {wa : List Nat} {b : Option Addr} {d : Nat} {wb : List Nat} {w : World} (h1 : Good w a c wa) (h2 : Good w b d wb) :
    Calls Tryd.prog 30 #[.slice a wa.length c, .slice b wb.length d] w fun e w' => ∃ a' c', e = .returned (.slice a' (bothL wa wb).length c') ∧ Good w' a' c' (bothL wa wb) ∧ Below w.heap.size w w' := by
  have H1 := Lib.hid h1
  have H2 := Lib.hid h2
  have Heq := Lib.hid (fun ms (hn : Normal ms) (hw : Wf ms) (hm : ∀ i, mem ms i = sel false false true (mem wa i) (mem wb i)) => (ext_normal hw (wf_bothL h1.wf) hn (normal_bothL wa wb) fun i => by rw [hm, mem_bothL]; cases mem wa i <;> cases mem wb i <;> rfl : ms = bothL wa wb))
  obtain ⟨us, hus⟩ : ∃ us, bothL wa wb = us := ⟨_, rfl⟩
  rw [hus] at Heq ⊢
  clear h1 h2 hus
  go_enter Tryd.func30, Tryd.ntmps30
  go_wp2_with fail
  refine (rmerge_any false false true H1.out H2.out).mono ?_
  rintro e w1 ⟨a', c', ms, rfl, hg, hn, hm, hb⟩
  obtain rfl := Heq.out ms hn hg.wf hm
  have Hg := Lib.hid hg
  have Hb := Lib.hid hb
  clear hg hn hm hb
  go_wp2_with fail
  go_ret
  exact ⟨_, _, rfl, Hg.out, Hb.out⟩

theorem requal_self {a : Option Addr} {c : Nat} {wa : List Nat} {b : Option Addr} {d : Nat} {w : World} (h1 : Good w a c wa) (h2 : Good w b d wa) :
    Calls Tryd.prog 24 #[.slice a wa.length c, .slice b wa.length d] w fun e w' => e = .returned (.bool true) ∧ Drawn w w' := by
  have := requal_g h1 h2
  rwa [decide_eq_true rfl] at this

set_option maxHeartbeats 3200000 in
set_option maxRecDepth 100000 in
theorem combines_small {a : Option Addr} {ca : Nat} {wa : List Nat} {b : Option Addr} {cb : Nat} {wb : List Nat} {w : World} (ga : Good w a ca wa) (gb : Good w b cb wb) (hT : Tz w) :
    Calls Tryd.prog 4 #[.slice a wa.length ca, .slice b wb.length cb] w fun e w' => e = .returned (.bool true) ∧ Below w.heap.size w w' := by
  have la := ga.len
  have lb := gb.len
  have G_a_0 := Lib.hid ga
  have G_b_0 := Lib.hid gb
  have HT_0 := Lib.hid hT
  clear ga gb hT
  go_enter Tryd.func4, Tryd.ntmps4
  go_wp2_with fail
  refine (union_any G_a_0.out G_b_0.out).mono ?_
  rintro e w1 ⟨a_p, c_p, rfl, gn, hbn⟩
  have G_p_1 := Lib.hid gn
  have G_a_1 := Lib.hid (G_a_0.out.below hbn (Nat.le_refl _))
  have G_b_1 := Lib.hid (G_b_0.out.below hbn (Nat.le_refl _))
  have HT_1 := Lib.hid (HT_0.out.below hbn (Nat.le_refl _))
  have HB_1 := Lib.hid hbn
  clear gn hbn
  go_wp2_with fail
  refine (runion_any G_a_1.out G_b_1.out).mono ?_
  rintro e w2 ⟨a_q, c_q, rfl, gn, hbn⟩
  have G_q_2 := Lib.hid gn
  have G_a_2 := Lib.hid (G_a_1.out.below hbn (Nat.le_refl _))
  have G_b_2 := Lib.hid (G_b_1.out.below hbn (Nat.le_refl _))
  have G_p_2 := Lib.hid (G_p_1.out.below hbn (Nat.le_refl _))
  have HT_2 := Lib.hid (HT_1.out.below hbn (Nat.le_refl _))
  have HB_2 := Lib.hid (HB_1.out.trans (hbn.mono HB_1.out.size))
  clear gn hbn
  go_wp2_with fail
  refine (requal_self G_p_2.out G_q_2.out).mono ?_
  rintro e w3 ⟨rfl, hdn⟩
  have hbn := hdn.below w2.heap.size
  have G_a_3 := Lib.hid (G_a_2.out.below hbn (Nat.le_refl _))
  have G_b_3 := Lib.hid (G_b_2.out.below hbn (Nat.le_refl _))
  have HT_3 := Lib.hid (HT_2.out.below hbn (Nat.le_refl _))
  have HB_3 := Lib.hid (HB_2.out.trans (hbn.mono HB_2.out.size))
  clear hbn hdn
  go_wp2_with fail
  refine (minus_any G_a_3.out G_b_3.out).mono ?_
  rintro e w4 ⟨a_p, c_p, rfl, gn, hbn⟩
  have G_p_4 := Lib.hid gn
  have G_a_4 := Lib.hid (G_a_3.out.below hbn (Nat.le_refl _))
  have G_b_4 := Lib.hid (G_b_3.out.below hbn (Nat.le_refl _))
  have HT_4 := Lib.hid (HT_3.out.below hbn (Nat.le_refl _))
  have HB_4 := Lib.hid (HB_3.out.trans (hbn.mono HB_3.out.size))
  clear gn hbn
  go_wp2_with fail
  refine (rminus_any G_a_4.out G_b_4.out).mono ?_
  rintro e w5 ⟨a_q, c_q, rfl, gn, hbn⟩
  have G_q_5 := Lib.hid gn
  have G_a_5 := Lib.hid (G_a_4.out.below hbn (Nat.le_refl _))
  have G_b_5 := Lib.hid (G_b_4.out.below hbn (Nat.le_refl _))
  have G_p_5 := Lib.hid (G_p_4.out.below hbn (Nat.le_refl _))
  have HT_5 := Lib.hid (HT_4.out.below hbn (Nat.le_refl _))
  have HB_5 := Lib.hid (HB_4.out.trans (hbn.mono HB_4.out.size))
  clear gn hbn
  go_wp2_with fail
  refine (requal_self G_p_5.out G_q_5.out).mono ?_
  rintro e w6 ⟨rfl, hdn⟩
  have hbn := hdn.below w5.heap.size
  have G_a_6 := Lib.hid (G_a_5.out.below hbn (Nat.le_refl _))
  have G_b_6 := Lib.hid (G_b_5.out.below hbn (Nat.le_refl _))
  have HT_6 := Lib.hid (HT_5.out.below hbn (Nat.le_refl _))
  have HB_6 := Lib.hid (HB_5.out.trans (hbn.mono HB_5.out.size))
  clear hbn hdn
  go_wp2_with fail
  refine (both_any G_a_6.out G_b_6.out).mono ?_
  rintro e w7 ⟨a_p, c_p, rfl, gn, hbn⟩
  have G_p_7 := Lib.hid gn
  have G_a_7 := Lib.hid (G_a_6.out.below hbn (Nat.le_refl _))
  have G_b_7 := Lib.hid (G_b_6.out.below hbn (Nat.le_refl _))
  have HT_7 := Lib.hid (HT_6.out.below hbn (Nat.le_refl _))
  have HB_7 := Lib.hid (HB_6.out.trans (hbn.mono HB_6.out.size))
  clear gn hbn
  go_wp2_with fail
  refine (rboth_any G_a_7.out G_b_7.out).mono ?_
  rintro e w8 ⟨a_q, c_q, rfl, gn, hbn⟩
  have G_q_8 := Lib.hid gn
  have G_a_8 := Lib.hid (G_a_7.out.below hbn (Nat.le_refl _))
  have G_b_8 := Lib.hid (G_b_7.out.below hbn (Nat.le_refl _))
  have G_p_8 := Lib.hid (G_p_7.out.below hbn (Nat.le_refl _))
  have HT_8 := Lib.hid (HT_7.out.below hbn (Nat.le_refl _))
  have HB_8 := Lib.hid (HB_7.out.trans (hbn.mono HB_7.out.size))
  clear gn hbn
  go_wp2_with fail
  refine (requal_self G_p_8.out G_q_8.out).mono ?_
  rintro e w9 ⟨rfl, hdn⟩
  have hbn := hdn.below w8.heap.size
  have G_a_9 := Lib.hid (G_a_8.out.below hbn (Nat.le_refl _))
  have G_b_9 := Lib.hid (G_b_8.out.below hbn (Nat.le_refl _))
  have HT_9 := Lib.hid (HT_8.out.below hbn (Nat.le_refl _))
  have HB_9 := Lib.hid (HB_8.out.trans (hbn.mono HB_8.out.size))
  clear hbn hdn
  go_wp2_with fail
  refine (awake_any _ HT_9.out).mono ?_
  rintro e wz ⟨rfl, hbz⟩
  go_wp2_with fail
  go_ret
  exact ⟨rfl, HB_9.out.trans (hbz.mono HB_9.out.size)⟩

set_option maxHeartbeats 800000 in
theorem combines_any (a : Option Addr) (ca : Nat) (wa : List Nat) (b : Option Addr) (cb : Nat) (wb : List Nat) (w : World)
    (h1 : wa.length ≤ ca ∧ ca ≤ maxLen ∧ Wf wa) (g1 : Words w a wa) (h2 : wb.length ≤ cb ∧ cb ≤ maxLen ∧ Wf wb) (g2 : Words w b wb) (hT : Tz w) :
    Calls Tryd.prog 4 #[.slice a wa.length ca, .slice b wb.length cb] w fun e w' => e = .returned (.bool true) ∧ Below w.heap.size w w' := by
  by_cases hs : wa.length ≤ 1100 ∧ wb.length ≤ 1100
  · exact combines_small ⟨hs.1, h1.1, h1.2.1, h1.2.2, g1⟩ ⟨hs.2, h2.1, h2.2.1, h2.2.2, g2⟩ hT
  · have HT := Lib.hid hT
    have l1 := h1.1; have l2 := h2.1
    have m1 := h1.2.1; have m2 := h2.2.1
    unfold maxLen at m1 m2
    clear h1 h2 g1 g2 hT
    by_cases c1 : 1100 < wa.length
    · clear hs
      go_enter Tryd.func4, Tryd.ntmps4
      go_wp2_with (go_at_call 10; refine (awake_any _ HT.out).mono ?_; rintro e w' ⟨rfl, hb⟩)
      go_ret
      exact ⟨rfl, hb⟩
    · have c2 : 1100 < wb.length := by omega
      clear hs
      go_enter Tryd.func4, Tryd.ntmps4
      go_wp2_with (go_at_call 10; refine (awake_any _ HT.out).mono ?_; rintro e w' ⟨rfl, hb⟩)
      go_ret
      exact ⟨rfl, hb⟩
end Go.Proofs.YtggkhbjhhglbbaaDoor
