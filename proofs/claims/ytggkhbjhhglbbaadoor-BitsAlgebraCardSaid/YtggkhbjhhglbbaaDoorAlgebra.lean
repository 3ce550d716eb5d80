/-
  BitsAlgebra: the walk of the law. The laws of the algebra of sets hold between the results of the program.
-/
import Derived.Test.YtggkhbjhhglbbaaDoorAlg
namespace Go.Proofs.YtggkhbjhhglbbaaDoor
open Go.RowKit Go.WideShapes
set_option linter.unusedVariables false

theorem card_le {ws : List Nat} (h : ws.length ≤ 1100) : (elems ws).length ≤ 70400 := by
  have := length_elemsTo_le ws (64 * ws.length)
  unfold elems
  omega

set_option maxHeartbeats 6400000 in
set_option maxRecDepth 100000 in
theorem algebra_small {a : Option Addr} {ca : Nat} {wa : List Nat} {b : Option Addr} {cb : Nat} {wb : List Nat} {c : Option Addr} {cc : Nat} {wc : List Nat} {w : World} (ga : Good w a ca wa) (gb : Good w b cb wb) (gc : Good w c cc wc) (hT : Tz w) :
    Calls Tryd.prog 7 #[.slice a wa.length ca, .slice b wb.length cb, .slice c wc.length cc] w fun e w' => e = .returned (.bool true) ∧ Below w.heap.size w w' := by
  have Fa := ga.wf
  have Fb := gb.wf
  have Fc := gc.wf
  have la := ga.len
  have lb := gb.len
  have lc := gc.len
  have E1 := Lib.hid (decide_eq_true (union_comm_ Fa Fb) : decide ((unionL wa wb) = (unionL wb wa)) = true)
  have E2 := Lib.hid (decide_eq_true (both_comm_ Fa Fb) : decide ((bothL wa wb) = (bothL wb wa)) = true)
  have E3 := Lib.hid (decide_eq_true (union_assoc_ Fa Fb Fc) : decide ((unionL (unionL wa wb) wc) = (unionL wa (unionL wb wc))) = true)
  have E4 := Lib.hid (decide_eq_true (both_assoc_ Fa Fb Fc) : decide ((bothL (bothL wa wb) wc) = (bothL wa (bothL wb wc))) = true)
  have E5 := Lib.hid (decide_eq_true (both_union_ Fa Fb Fc) : decide ((bothL wa (unionL wb wc)) = (unionL (bothL wa wb) (bothL wa wc))) = true)
  have E6 := Lib.hid (decide_eq_true (union_both_ Fa Fb Fc) : decide ((unionL wa (bothL wb wc)) = (bothL (unionL wa wb) (unionL wa wc))) = true)
  have E7 := Lib.hid (decide_eq_true (minus_union_ Fa Fb Fc) : decide ((minusL wa (unionL wb wc)) = (minusL (minusL wa wb) wc)) = true)
  have hcard := card_ wa wb la lb
  have hC : ((((elems (unionL wa wb)).length : Nat) : Int) + (((elems (bothL wa wb)).length : Nat) : Int) != (((elems wa).length : Nat) : Int) + (((elems wb).length : Nat) : Int)) = false := by
    rw [bne_eq_false_iff_eq]; omega
  have b1 : (elems (unionL wa wb)).length ≤ 70400 := card_le (by rw [length_unionL]; have := tl_le wa; have := tl_le wb; omega)
  have b2 : (elems (bothL wa wb)).length ≤ 140800 := by have := card_le la; have := card_le lb; omega
  have b3 := card_le la
  have b4 := card_le lb
  have ws := within_same Fa Fb
  have wm := within_minus Fa Fb
  obtain ⟨wab, hwab⟩ : ∃ t, withinB wa wb = t := ⟨_, rfl⟩
  obtain ⟨wba, hwba⟩ : ∃ t, withinB wb wa = t := ⟨_, rfl⟩
  obtain ⟨sab, hsab⟩ : ∃ t, decide (trimL wa = trimL wb) = t := ⟨_, rfl⟩
  rw [hwab, hwba, hsab] at ws
  rw [hwab] at wm
  have WAB := Lib.hid hwab
  have WBA := Lib.hid hwba
  have SAB := Lib.hid hsab
  have WM := Lib.hid wm
  have G_a_0 := Lib.hid ga
  have G_b_0 := Lib.hid gb
  have G_c_0 := Lib.hid gc
  have HT_0 := Lib.hid hT
  clear ga gb gc hT hwab hwba hsab wm hcard
  have key : True := trivial
  go_enter Tryd.func7, Tryd.ntmps7
  go_wp2_with fail
  refine (union_any G_a_0.out G_b_0.out).mono ?_
  rintro e w1 ⟨a_t1, c_t1, rfl, gn, hbn⟩
  have G_t1_1 := Lib.hid gn
  have G_a_1 := Lib.hid (G_a_0.out.below hbn (Nat.le_refl _))
  have G_b_1 := Lib.hid (G_b_0.out.below hbn (Nat.le_refl _))
  have G_c_1 := Lib.hid (G_c_0.out.below hbn (Nat.le_refl _))
  have HT_1 := Lib.hid (HT_0.out.below hbn (Nat.le_refl _))
  have HB_1 := Lib.hid hbn
  clear gn hbn
  go_wp2_with fail
  refine (union_any G_b_1.out G_a_1.out).mono ?_
  rintro e w2 ⟨a_t2, c_t2, rfl, gn, hbn⟩
  have G_t2_2 := Lib.hid gn
  have G_a_2 := Lib.hid (G_a_1.out.below hbn (Nat.le_refl _))
  have G_b_2 := Lib.hid (G_b_1.out.below hbn (Nat.le_refl _))
  have G_c_2 := Lib.hid (G_c_1.out.below hbn (Nat.le_refl _))
  have G_t1_2 := Lib.hid (G_t1_1.out.below hbn (Nat.le_refl _))
  have HT_2 := Lib.hid (HT_1.out.below hbn (Nat.le_refl _))
  have HB_2 := Lib.hid (HB_1.out.trans (hbn.mono HB_1.out.size))
  clear gn hbn
  go_wp2_with fail
  refine (requal_g G_t1_2.out G_t2_2.out).mono ?_
  rw [E1.out]
  rintro e w3 ⟨rfl, hdn⟩
  have hbn := hdn.below w2.heap.size
  have G_a_3 := Lib.hid (G_a_2.out.below hbn (Nat.le_refl _))
  have G_b_3 := Lib.hid (G_b_2.out.below hbn (Nat.le_refl _))
  have G_c_3 := Lib.hid (G_c_2.out.below hbn (Nat.le_refl _))
  have HT_3 := Lib.hid (HT_2.out.below hbn (Nat.le_refl _))
  have HB_3 := Lib.hid (HB_2.out.trans (hbn.mono HB_2.out.size))
  clear hbn hdn
  go_wp2_with fail
  refine (both_any G_a_3.out G_b_3.out).mono ?_
  rintro e w4 ⟨a_t3, c_t3, rfl, gn, hbn⟩
  have G_t3_4 := Lib.hid gn
  have G_a_4 := Lib.hid (G_a_3.out.below hbn (Nat.le_refl _))
  have G_b_4 := Lib.hid (G_b_3.out.below hbn (Nat.le_refl _))
  have G_c_4 := Lib.hid (G_c_3.out.below hbn (Nat.le_refl _))
  have HT_4 := Lib.hid (HT_3.out.below hbn (Nat.le_refl _))
  have HB_4 := Lib.hid (HB_3.out.trans (hbn.mono HB_3.out.size))
  clear gn hbn
  go_wp2_with fail
  refine (both_any G_b_4.out G_a_4.out).mono ?_
  rintro e w5 ⟨a_t4, c_t4, rfl, gn, hbn⟩
  have G_t4_5 := Lib.hid gn
  have G_a_5 := Lib.hid (G_a_4.out.below hbn (Nat.le_refl _))
  have G_b_5 := Lib.hid (G_b_4.out.below hbn (Nat.le_refl _))
  have G_c_5 := Lib.hid (G_c_4.out.below hbn (Nat.le_refl _))
  have G_t3_5 := Lib.hid (G_t3_4.out.below hbn (Nat.le_refl _))
  have HT_5 := Lib.hid (HT_4.out.below hbn (Nat.le_refl _))
  have HB_5 := Lib.hid (HB_4.out.trans (hbn.mono HB_4.out.size))
  clear gn hbn
  go_wp2_with fail
  refine (requal_g G_t3_5.out G_t4_5.out).mono ?_
  rw [E2.out]
  rintro e w6 ⟨rfl, hdn⟩
  have hbn := hdn.below w5.heap.size
  have G_a_6 := Lib.hid (G_a_5.out.below hbn (Nat.le_refl _))
  have G_b_6 := Lib.hid (G_b_5.out.below hbn (Nat.le_refl _))
  have G_c_6 := Lib.hid (G_c_5.out.below hbn (Nat.le_refl _))
  have HT_6 := Lib.hid (HT_5.out.below hbn (Nat.le_refl _))
  have HB_6 := Lib.hid (HB_5.out.trans (hbn.mono HB_5.out.size))
  clear hbn hdn
  go_wp2_with fail
  refine (union_any G_a_6.out G_b_6.out).mono ?_
  rintro e w7 ⟨a_t5, c_t5, rfl, gn, hbn⟩
  have G_t5_7 := Lib.hid gn
  have G_a_7 := Lib.hid (G_a_6.out.below hbn (Nat.le_refl _))
  have G_b_7 := Lib.hid (G_b_6.out.below hbn (Nat.le_refl _))
  have G_c_7 := Lib.hid (G_c_6.out.below hbn (Nat.le_refl _))
  have HT_7 := Lib.hid (HT_6.out.below hbn (Nat.le_refl _))
  have HB_7 := Lib.hid (HB_6.out.trans (hbn.mono HB_6.out.size))
  clear gn hbn
  go_wp2_with fail
  refine (union_any G_t5_7.out G_c_7.out).mono ?_
  rintro e w8 ⟨a_t6, c_t6, rfl, gn, hbn⟩
  have G_t6_8 := Lib.hid gn
  have G_a_8 := Lib.hid (G_a_7.out.below hbn (Nat.le_refl _))
  have G_b_8 := Lib.hid (G_b_7.out.below hbn (Nat.le_refl _))
  have G_c_8 := Lib.hid (G_c_7.out.below hbn (Nat.le_refl _))
  have HT_8 := Lib.hid (HT_7.out.below hbn (Nat.le_refl _))
  have HB_8 := Lib.hid (HB_7.out.trans (hbn.mono HB_7.out.size))
  clear gn hbn
  go_wp2_with fail
  refine (union_any G_b_8.out G_c_8.out).mono ?_
  rintro e w9 ⟨a_t7, c_t7, rfl, gn, hbn⟩
  have G_t7_9 := Lib.hid gn
  have G_a_9 := Lib.hid (G_a_8.out.below hbn (Nat.le_refl _))
  have G_b_9 := Lib.hid (G_b_8.out.below hbn (Nat.le_refl _))
  have G_c_9 := Lib.hid (G_c_8.out.below hbn (Nat.le_refl _))
  have G_t6_9 := Lib.hid (G_t6_8.out.below hbn (Nat.le_refl _))
  have HT_9 := Lib.hid (HT_8.out.below hbn (Nat.le_refl _))
  have HB_9 := Lib.hid (HB_8.out.trans (hbn.mono HB_8.out.size))
  clear gn hbn
  go_wp2_with fail
  refine (union_any G_a_9.out G_t7_9.out).mono ?_
  rintro e w10 ⟨a_t8, c_t8, rfl, gn, hbn⟩
  have G_t8_10 := Lib.hid gn
  have G_a_10 := Lib.hid (G_a_9.out.below hbn (Nat.le_refl _))
  have G_b_10 := Lib.hid (G_b_9.out.below hbn (Nat.le_refl _))
  have G_c_10 := Lib.hid (G_c_9.out.below hbn (Nat.le_refl _))
  have G_t6_10 := Lib.hid (G_t6_9.out.below hbn (Nat.le_refl _))
  have HT_10 := Lib.hid (HT_9.out.below hbn (Nat.le_refl _))
  have HB_10 := Lib.hid (HB_9.out.trans (hbn.mono HB_9.out.size))
  clear gn hbn
  go_wp2_with fail
  refine (requal_g G_t6_10.out G_t8_10.out).mono ?_
  rw [E3.out]
  rintro e w11 ⟨rfl, hdn⟩
  have hbn := hdn.below w10.heap.size
  have G_a_11 := Lib.hid (G_a_10.out.below hbn (Nat.le_refl _))
  have G_b_11 := Lib.hid (G_b_10.out.below hbn (Nat.le_refl _))
  have G_c_11 := Lib.hid (G_c_10.out.below hbn (Nat.le_refl _))
  have HT_11 := Lib.hid (HT_10.out.below hbn (Nat.le_refl _))
  have HB_11 := Lib.hid (HB_10.out.trans (hbn.mono HB_10.out.size))
  clear hbn hdn
  go_wp2_with fail
  refine (both_any G_a_11.out G_b_11.out).mono ?_
  rintro e w12 ⟨a_t9, c_t9, rfl, gn, hbn⟩
  have G_t9_12 := Lib.hid gn
  have G_a_12 := Lib.hid (G_a_11.out.below hbn (Nat.le_refl _))
  have G_b_12 := Lib.hid (G_b_11.out.below hbn (Nat.le_refl _))
  have G_c_12 := Lib.hid (G_c_11.out.below hbn (Nat.le_refl _))
  have HT_12 := Lib.hid (HT_11.out.below hbn (Nat.le_refl _))
  have HB_12 := Lib.hid (HB_11.out.trans (hbn.mono HB_11.out.size))
  clear gn hbn
  go_wp2_with fail
  refine (both_any G_t9_12.out G_c_12.out).mono ?_
  rintro e w13 ⟨a_t10, c_t10, rfl, gn, hbn⟩
  have G_t10_13 := Lib.hid gn
  have G_a_13 := Lib.hid (G_a_12.out.below hbn (Nat.le_refl _))
  have G_b_13 := Lib.hid (G_b_12.out.below hbn (Nat.le_refl _))
  have G_c_13 := Lib.hid (G_c_12.out.below hbn (Nat.le_refl _))
  have HT_13 := Lib.hid (HT_12.out.below hbn (Nat.le_refl _))
  have HB_13 := Lib.hid (HB_12.out.trans (hbn.mono HB_12.out.size))
  clear gn hbn
  go_wp2_with fail
  refine (both_any G_b_13.out G_c_13.out).mono ?_
  rintro e w14 ⟨a_t11, c_t11, rfl, gn, hbn⟩
  have G_t11_14 := Lib.hid gn
  have G_a_14 := Lib.hid (G_a_13.out.below hbn (Nat.le_refl _))
  have G_b_14 := Lib.hid (G_b_13.out.below hbn (Nat.le_refl _))
  have G_c_14 := Lib.hid (G_c_13.out.below hbn (Nat.le_refl _))
  have G_t10_14 := Lib.hid (G_t10_13.out.below hbn (Nat.le_refl _))
  have HT_14 := Lib.hid (HT_13.out.below hbn (Nat.le_refl _))
  have HB_14 := Lib.hid (HB_13.out.trans (hbn.mono HB_13.out.size))
  clear gn hbn
  go_wp2_with fail
  refine (both_any G_a_14.out G_t11_14.out).mono ?_
  rintro e w15 ⟨a_t12, c_t12, rfl, gn, hbn⟩
  have G_t12_15 := Lib.hid gn
  have G_a_15 := Lib.hid (G_a_14.out.below hbn (Nat.le_refl _))
  have G_b_15 := Lib.hid (G_b_14.out.below hbn (Nat.le_refl _))
  have G_c_15 := Lib.hid (G_c_14.out.below hbn (Nat.le_refl _))
  have G_t10_15 := Lib.hid (G_t10_14.out.below hbn (Nat.le_refl _))
  have HT_15 := Lib.hid (HT_14.out.below hbn (Nat.le_refl _))
  have HB_15 := Lib.hid (HB_14.out.trans (hbn.mono HB_14.out.size))
  clear gn hbn
  go_wp2_with fail
  refine (requal_g G_t10_15.out G_t12_15.out).mono ?_
  rw [E4.out]
  rintro e w16 ⟨rfl, hdn⟩
  have hbn := hdn.below w15.heap.size
  have G_a_16 := Lib.hid (G_a_15.out.below hbn (Nat.le_refl _))
  have G_b_16 := Lib.hid (G_b_15.out.below hbn (Nat.le_refl _))
  have G_c_16 := Lib.hid (G_c_15.out.below hbn (Nat.le_refl _))
  have HT_16 := Lib.hid (HT_15.out.below hbn (Nat.le_refl _))
  have HB_16 := Lib.hid (HB_15.out.trans (hbn.mono HB_15.out.size))
  clear hbn hdn
  go_wp2_with fail
  refine (union_any G_b_16.out G_c_16.out).mono ?_
  rintro e w17 ⟨a_t13, c_t13, rfl, gn, hbn⟩
  have G_t13_17 := Lib.hid gn
  have G_a_17 := Lib.hid (G_a_16.out.below hbn (Nat.le_refl _))
  have G_b_17 := Lib.hid (G_b_16.out.below hbn (Nat.le_refl _))
  have G_c_17 := Lib.hid (G_c_16.out.below hbn (Nat.le_refl _))
  have HT_17 := Lib.hid (HT_16.out.below hbn (Nat.le_refl _))
  have HB_17 := Lib.hid (HB_16.out.trans (hbn.mono HB_16.out.size))
  clear gn hbn
  go_wp2_with fail
  refine (both_any G_a_17.out G_t13_17.out).mono ?_
  rintro e w18 ⟨a_t14, c_t14, rfl, gn, hbn⟩
  have G_t14_18 := Lib.hid gn
  have G_a_18 := Lib.hid (G_a_17.out.below hbn (Nat.le_refl _))
  have G_b_18 := Lib.hid (G_b_17.out.below hbn (Nat.le_refl _))
  have G_c_18 := Lib.hid (G_c_17.out.below hbn (Nat.le_refl _))
  have HT_18 := Lib.hid (HT_17.out.below hbn (Nat.le_refl _))
  have HB_18 := Lib.hid (HB_17.out.trans (hbn.mono HB_17.out.size))
  clear gn hbn
  go_wp2_with fail
  refine (both_any G_a_18.out G_b_18.out).mono ?_
  rintro e w19 ⟨a_t15, c_t15, rfl, gn, hbn⟩
  have G_t15_19 := Lib.hid gn
  have G_a_19 := Lib.hid (G_a_18.out.below hbn (Nat.le_refl _))
  have G_b_19 := Lib.hid (G_b_18.out.below hbn (Nat.le_refl _))
  have G_c_19 := Lib.hid (G_c_18.out.below hbn (Nat.le_refl _))
  have G_t14_19 := Lib.hid (G_t14_18.out.below hbn (Nat.le_refl _))
  have HT_19 := Lib.hid (HT_18.out.below hbn (Nat.le_refl _))
  have HB_19 := Lib.hid (HB_18.out.trans (hbn.mono HB_18.out.size))
  clear gn hbn
  go_wp2_with fail
  refine (both_any G_a_19.out G_c_19.out).mono ?_
  rintro e w20 ⟨a_t16, c_t16, rfl, gn, hbn⟩
  have G_t16_20 := Lib.hid gn
  have G_a_20 := Lib.hid (G_a_19.out.below hbn (Nat.le_refl _))
  have G_b_20 := Lib.hid (G_b_19.out.below hbn (Nat.le_refl _))
  have G_c_20 := Lib.hid (G_c_19.out.below hbn (Nat.le_refl _))
  have G_t14_20 := Lib.hid (G_t14_19.out.below hbn (Nat.le_refl _))
  have G_t15_20 := Lib.hid (G_t15_19.out.below hbn (Nat.le_refl _))
  have HT_20 := Lib.hid (HT_19.out.below hbn (Nat.le_refl _))
  have HB_20 := Lib.hid (HB_19.out.trans (hbn.mono HB_19.out.size))
  clear gn hbn
  go_wp2_with fail
  refine (union_any G_t15_20.out G_t16_20.out).mono ?_
  rintro e w21 ⟨a_t17, c_t17, rfl, gn, hbn⟩
  have G_t17_21 := Lib.hid gn
  have G_a_21 := Lib.hid (G_a_20.out.below hbn (Nat.le_refl _))
  have G_b_21 := Lib.hid (G_b_20.out.below hbn (Nat.le_refl _))
  have G_c_21 := Lib.hid (G_c_20.out.below hbn (Nat.le_refl _))
  have G_t14_21 := Lib.hid (G_t14_20.out.below hbn (Nat.le_refl _))
  have HT_21 := Lib.hid (HT_20.out.below hbn (Nat.le_refl _))
  have HB_21 := Lib.hid (HB_20.out.trans (hbn.mono HB_20.out.size))
  clear gn hbn
  go_wp2_with fail
  refine (requal_g G_t14_21.out G_t17_21.out).mono ?_
  rw [E5.out]
  rintro e w22 ⟨rfl, hdn⟩
  have hbn := hdn.below w21.heap.size
  have G_a_22 := Lib.hid (G_a_21.out.below hbn (Nat.le_refl _))
  have G_b_22 := Lib.hid (G_b_21.out.below hbn (Nat.le_refl _))
  have G_c_22 := Lib.hid (G_c_21.out.below hbn (Nat.le_refl _))
  have HT_22 := Lib.hid (HT_21.out.below hbn (Nat.le_refl _))
  have HB_22 := Lib.hid (HB_21.out.trans (hbn.mono HB_21.out.size))
  clear hbn hdn
  go_wp2_with fail
  refine (both_any G_b_22.out G_c_22.out).mono ?_
  rintro e w23 ⟨a_t18, c_t18, rfl, gn, hbn⟩
  have G_t18_23 := Lib.hid gn
  have G_a_23 := Lib.hid (G_a_22.out.below hbn (Nat.le_refl _))
  have G_b_23 := Lib.hid (G_b_22.out.below hbn (Nat.le_refl _))
  have G_c_23 := Lib.hid (G_c_22.out.below hbn (Nat.le_refl _))
  have HT_23 := Lib.hid (HT_22.out.below hbn (Nat.le_refl _))
  have HB_23 := Lib.hid (HB_22.out.trans (hbn.mono HB_22.out.size))
  clear gn hbn
  go_wp2_with fail
  refine (union_any G_a_23.out G_t18_23.out).mono ?_
  rintro e w24 ⟨a_t19, c_t19, rfl, gn, hbn⟩
  have G_t19_24 := Lib.hid gn
  have G_a_24 := Lib.hid (G_a_23.out.below hbn (Nat.le_refl _))
  have G_b_24 := Lib.hid (G_b_23.out.below hbn (Nat.le_refl _))
  have G_c_24 := Lib.hid (G_c_23.out.below hbn (Nat.le_refl _))
  have HT_24 := Lib.hid (HT_23.out.below hbn (Nat.le_refl _))
  have HB_24 := Lib.hid (HB_23.out.trans (hbn.mono HB_23.out.size))
  clear gn hbn
  go_wp2_with fail
  refine (union_any G_a_24.out G_b_24.out).mono ?_
  rintro e w25 ⟨a_t20, c_t20, rfl, gn, hbn⟩
  have G_t20_25 := Lib.hid gn
  have G_a_25 := Lib.hid (G_a_24.out.below hbn (Nat.le_refl _))
  have G_b_25 := Lib.hid (G_b_24.out.below hbn (Nat.le_refl _))
  have G_c_25 := Lib.hid (G_c_24.out.below hbn (Nat.le_refl _))
  have G_t19_25 := Lib.hid (G_t19_24.out.below hbn (Nat.le_refl _))
  have HT_25 := Lib.hid (HT_24.out.below hbn (Nat.le_refl _))
  have HB_25 := Lib.hid (HB_24.out.trans (hbn.mono HB_24.out.size))
  clear gn hbn
  go_wp2_with fail
  refine (union_any G_a_25.out G_c_25.out).mono ?_
  rintro e w26 ⟨a_t21, c_t21, rfl, gn, hbn⟩
  have G_t21_26 := Lib.hid gn
  have G_a_26 := Lib.hid (G_a_25.out.below hbn (Nat.le_refl _))
  have G_b_26 := Lib.hid (G_b_25.out.below hbn (Nat.le_refl _))
  have G_c_26 := Lib.hid (G_c_25.out.below hbn (Nat.le_refl _))
  have G_t19_26 := Lib.hid (G_t19_25.out.below hbn (Nat.le_refl _))
  have G_t20_26 := Lib.hid (G_t20_25.out.below hbn (Nat.le_refl _))
  have HT_26 := Lib.hid (HT_25.out.below hbn (Nat.le_refl _))
  have HB_26 := Lib.hid (HB_25.out.trans (hbn.mono HB_25.out.size))
  clear gn hbn
  go_wp2_with fail
  refine (both_any G_t20_26.out G_t21_26.out).mono ?_
  rintro e w27 ⟨a_t22, c_t22, rfl, gn, hbn⟩
  have G_t22_27 := Lib.hid gn
  have G_a_27 := Lib.hid (G_a_26.out.below hbn (Nat.le_refl _))
  have G_b_27 := Lib.hid (G_b_26.out.below hbn (Nat.le_refl _))
  have G_c_27 := Lib.hid (G_c_26.out.below hbn (Nat.le_refl _))
  have G_t19_27 := Lib.hid (G_t19_26.out.below hbn (Nat.le_refl _))
  have HT_27 := Lib.hid (HT_26.out.below hbn (Nat.le_refl _))
  have HB_27 := Lib.hid (HB_26.out.trans (hbn.mono HB_26.out.size))
  clear gn hbn
  go_wp2_with fail
  refine (requal_g G_t19_27.out G_t22_27.out).mono ?_
  rw [E6.out]
  rintro e w28 ⟨rfl, hdn⟩
  have hbn := hdn.below w27.heap.size
  have G_a_28 := Lib.hid (G_a_27.out.below hbn (Nat.le_refl _))
  have G_b_28 := Lib.hid (G_b_27.out.below hbn (Nat.le_refl _))
  have G_c_28 := Lib.hid (G_c_27.out.below hbn (Nat.le_refl _))
  have HT_28 := Lib.hid (HT_27.out.below hbn (Nat.le_refl _))
  have HB_28 := Lib.hid (HB_27.out.trans (hbn.mono HB_27.out.size))
  clear hbn hdn
  go_wp2_with fail
  refine (union_any G_b_28.out G_c_28.out).mono ?_
  rintro e w29 ⟨a_t23, c_t23, rfl, gn, hbn⟩
  have G_t23_29 := Lib.hid gn
  have G_a_29 := Lib.hid (G_a_28.out.below hbn (Nat.le_refl _))
  have G_b_29 := Lib.hid (G_b_28.out.below hbn (Nat.le_refl _))
  have G_c_29 := Lib.hid (G_c_28.out.below hbn (Nat.le_refl _))
  have HT_29 := Lib.hid (HT_28.out.below hbn (Nat.le_refl _))
  have HB_29 := Lib.hid (HB_28.out.trans (hbn.mono HB_28.out.size))
  clear gn hbn
  go_wp2_with fail
  refine (minus_any G_a_29.out G_t23_29.out).mono ?_
  rintro e w30 ⟨a_t24, c_t24, rfl, gn, hbn⟩
  have G_t24_30 := Lib.hid gn
  have G_a_30 := Lib.hid (G_a_29.out.below hbn (Nat.le_refl _))
  have G_b_30 := Lib.hid (G_b_29.out.below hbn (Nat.le_refl _))
  have G_c_30 := Lib.hid (G_c_29.out.below hbn (Nat.le_refl _))
  have HT_30 := Lib.hid (HT_29.out.below hbn (Nat.le_refl _))
  have HB_30 := Lib.hid (HB_29.out.trans (hbn.mono HB_29.out.size))
  clear gn hbn
  go_wp2_with fail
  refine (minus_any G_a_30.out G_b_30.out).mono ?_
  rintro e w31 ⟨a_t25, c_t25, rfl, gn, hbn⟩
  have G_t25_31 := Lib.hid gn
  have G_a_31 := Lib.hid (G_a_30.out.below hbn (Nat.le_refl _))
  have G_b_31 := Lib.hid (G_b_30.out.below hbn (Nat.le_refl _))
  have G_c_31 := Lib.hid (G_c_30.out.below hbn (Nat.le_refl _))
  have G_t24_31 := Lib.hid (G_t24_30.out.below hbn (Nat.le_refl _))
  have HT_31 := Lib.hid (HT_30.out.below hbn (Nat.le_refl _))
  have HB_31 := Lib.hid (HB_30.out.trans (hbn.mono HB_30.out.size))
  clear gn hbn
  go_wp2_with fail
  refine (minus_any G_t25_31.out G_c_31.out).mono ?_
  rintro e w32 ⟨a_t26, c_t26, rfl, gn, hbn⟩
  have G_t26_32 := Lib.hid gn
  have G_a_32 := Lib.hid (G_a_31.out.below hbn (Nat.le_refl _))
  have G_b_32 := Lib.hid (G_b_31.out.below hbn (Nat.le_refl _))
  have G_c_32 := Lib.hid (G_c_31.out.below hbn (Nat.le_refl _))
  have G_t24_32 := Lib.hid (G_t24_31.out.below hbn (Nat.le_refl _))
  have HT_32 := Lib.hid (HT_31.out.below hbn (Nat.le_refl _))
  have HB_32 := Lib.hid (HB_31.out.trans (hbn.mono HB_31.out.size))
  clear gn hbn
  go_wp2_with fail
  refine (requal_g G_t24_32.out G_t26_32.out).mono ?_
  rw [E7.out]
  rintro e w33 ⟨rfl, hdn⟩
  have hbn := hdn.below w32.heap.size
  have G_a_33 := Lib.hid (G_a_32.out.below hbn (Nat.le_refl _))
  have G_b_33 := Lib.hid (G_b_32.out.below hbn (Nat.le_refl _))
  have G_c_33 := Lib.hid (G_c_32.out.below hbn (Nat.le_refl _))
  have HT_33 := Lib.hid (HT_32.out.below hbn (Nat.le_refl _))
  have HB_33 := Lib.hid (HB_32.out.trans (hbn.mono HB_32.out.size))
  clear hbn hdn
  go_wp2_with fail
  refine (union_any G_a_33.out G_b_33.out).mono ?_
  rintro e w34 ⟨a_t27, c_t27, rfl, gn, hbn⟩
  have G_t27_34 := Lib.hid gn
  have G_a_34 := Lib.hid (G_a_33.out.below hbn (Nat.le_refl _))
  have G_b_34 := Lib.hid (G_b_33.out.below hbn (Nat.le_refl _))
  have HT_34 := Lib.hid (HT_33.out.below hbn (Nat.le_refl _))
  have HB_34 := Lib.hid (HB_33.out.trans (hbn.mono HB_33.out.size))
  clear gn hbn
  go_wp2_with fail
  refine (count_g G_t27_34.out).mono ?_
  rintro e w' ⟨rfl, rfl⟩
  go_wp2_with fail
  refine (both_any G_a_34.out G_b_34.out).mono ?_
  rintro e w35 ⟨a_t28, c_t28, rfl, gn, hbn⟩
  have G_t28_35 := Lib.hid gn
  have G_a_35 := Lib.hid (G_a_34.out.below hbn (Nat.le_refl _))
  have G_b_35 := Lib.hid (G_b_34.out.below hbn (Nat.le_refl _))
  have HT_35 := Lib.hid (HT_34.out.below hbn (Nat.le_refl _))
  have HB_35 := Lib.hid (HB_34.out.trans (hbn.mono HB_34.out.size))
  clear gn hbn
  go_wp2_with fail
  refine (count_g G_t28_35.out).mono ?_
  rintro e w' ⟨rfl, rfl⟩
  go_wp2_with fail
  refine (count_g G_a_35.out).mono ?_
  rintro e w' ⟨rfl, rfl⟩
  go_wp2_with fail
  refine (count_g G_b_35.out).mono ?_
  rintro e w' ⟨rfl, rfl⟩
  cases wab with
  | true =>
    have t1 : (((elems (minusL wa wb)).length : Int) == 0) = true := by
      have := of_decide_eq_true WM.out.symm
      rw [this]; rfl
    cases wba with
    | true =>
      obtain rfl : true = sab := ws
      go_wp2_with fail
      refine (within_any G_a_35.out G_b_35.out).mono ?_
      rw [WAB.out]
      rintro e w36 ⟨rfl, hdn⟩
      have hbn := hdn.below w35.heap.size
      have G_a_36 := Lib.hid (G_a_35.out.below hbn (Nat.le_refl _))
      have G_b_36 := Lib.hid (G_b_35.out.below hbn (Nat.le_refl _))
      have HT_36 := Lib.hid (HT_35.out.below hbn (Nat.le_refl _))
      have HB_36 := Lib.hid (HB_35.out.trans (hbn.mono HB_35.out.size))
      clear hbn hdn
      go_wp2_with fail
      refine (within_any G_b_36.out G_a_36.out).mono ?_
      rw [WBA.out]
      rintro e w37 ⟨rfl, hdn⟩
      have hbn := hdn.below w36.heap.size
      have G_a_37 := Lib.hid (G_a_36.out.below hbn (Nat.le_refl _))
      have G_b_37 := Lib.hid (G_b_36.out.below hbn (Nat.le_refl _))
      have HT_37 := Lib.hid (HT_36.out.below hbn (Nat.le_refl _))
      have HB_37 := Lib.hid (HB_36.out.trans (hbn.mono HB_36.out.size))
      clear hbn hdn
      go_wp2_with fail
      refine (same_any G_a_37.out G_b_37.out).mono ?_
      rw [SAB.out]
      rintro e w38 ⟨rfl, hdn⟩
      have hbn := hdn.below w37.heap.size
      have G_a_38 := Lib.hid (G_a_37.out.below hbn (Nat.le_refl _))
      have G_b_38 := Lib.hid (G_b_37.out.below hbn (Nat.le_refl _))
      have HT_38 := Lib.hid (HT_37.out.below hbn (Nat.le_refl _))
      have HB_38 := Lib.hid (HB_37.out.trans (hbn.mono HB_37.out.size))
      clear hbn hdn
      go_wp2_with fail
      refine (within_any G_a_38.out G_b_38.out).mono ?_
      rw [WAB.out]
      rintro e w39 ⟨rfl, hdn⟩
      have hbn := hdn.below w38.heap.size
      have G_a_39 := Lib.hid (G_a_38.out.below hbn (Nat.le_refl _))
      have G_b_39 := Lib.hid (G_b_38.out.below hbn (Nat.le_refl _))
      have HT_39 := Lib.hid (HT_38.out.below hbn (Nat.le_refl _))
      have HB_39 := Lib.hid (HB_38.out.trans (hbn.mono HB_38.out.size))
      clear hbn hdn
      go_wp2_with fail
      refine (minus_any G_a_39.out G_b_39.out).mono ?_
      rintro e w40 ⟨a_tm, c_tm, rfl, gn, hbn⟩
      have G_tm_40 := Lib.hid gn
      have G_a_40 := Lib.hid (G_a_39.out.below hbn (Nat.le_refl _))
      have G_b_40 := Lib.hid (G_b_39.out.below hbn (Nat.le_refl _))
      have HT_40 := Lib.hid (HT_39.out.below hbn (Nat.le_refl _))
      have HB_40 := Lib.hid (HB_39.out.trans (hbn.mono HB_39.out.size))
      clear gn hbn
      go_wp2_with fail
      refine (count_g G_tm_40.out).mono ?_
      rintro e w' ⟨rfl, rfl⟩
      go_wp2_with fail
      refine (awake_any _ HT_40.out).mono ?_
      rintro e wz ⟨rfl, hbz⟩
      go_wp2_with fail
      go_ret
      exact ⟨rfl, HB_40.out.trans (hbz.mono HB_40.out.size)⟩
    | false =>
      obtain rfl : false = sab := ws
      go_wp2_with fail
      refine (within_any G_a_35.out G_b_35.out).mono ?_
      rw [WAB.out]
      rintro e w36 ⟨rfl, hdn⟩
      have hbn := hdn.below w35.heap.size
      have G_a_36 := Lib.hid (G_a_35.out.below hbn (Nat.le_refl _))
      have G_b_36 := Lib.hid (G_b_35.out.below hbn (Nat.le_refl _))
      have HT_36 := Lib.hid (HT_35.out.below hbn (Nat.le_refl _))
      have HB_36 := Lib.hid (HB_35.out.trans (hbn.mono HB_35.out.size))
      clear hbn hdn
      go_wp2_with fail
      refine (within_any G_b_36.out G_a_36.out).mono ?_
      rw [WBA.out]
      rintro e w37 ⟨rfl, hdn⟩
      have hbn := hdn.below w36.heap.size
      have G_a_37 := Lib.hid (G_a_36.out.below hbn (Nat.le_refl _))
      have G_b_37 := Lib.hid (G_b_36.out.below hbn (Nat.le_refl _))
      have HT_37 := Lib.hid (HT_36.out.below hbn (Nat.le_refl _))
      have HB_37 := Lib.hid (HB_36.out.trans (hbn.mono HB_36.out.size))
      clear hbn hdn
      go_wp2_with fail
      refine (same_any G_a_37.out G_b_37.out).mono ?_
      rw [SAB.out]
      rintro e w38 ⟨rfl, hdn⟩
      have hbn := hdn.below w37.heap.size
      have G_a_38 := Lib.hid (G_a_37.out.below hbn (Nat.le_refl _))
      have G_b_38 := Lib.hid (G_b_37.out.below hbn (Nat.le_refl _))
      have HT_38 := Lib.hid (HT_37.out.below hbn (Nat.le_refl _))
      have HB_38 := Lib.hid (HB_37.out.trans (hbn.mono HB_37.out.size))
      clear hbn hdn
      go_wp2_with fail
      refine (within_any G_a_38.out G_b_38.out).mono ?_
      rw [WAB.out]
      rintro e w39 ⟨rfl, hdn⟩
      have hbn := hdn.below w38.heap.size
      have G_a_39 := Lib.hid (G_a_38.out.below hbn (Nat.le_refl _))
      have G_b_39 := Lib.hid (G_b_38.out.below hbn (Nat.le_refl _))
      have HT_39 := Lib.hid (HT_38.out.below hbn (Nat.le_refl _))
      have HB_39 := Lib.hid (HB_38.out.trans (hbn.mono HB_38.out.size))
      clear hbn hdn
      go_wp2_with fail
      refine (minus_any G_a_39.out G_b_39.out).mono ?_
      rintro e w40 ⟨a_tm, c_tm, rfl, gn, hbn⟩
      have G_tm_40 := Lib.hid gn
      have G_a_40 := Lib.hid (G_a_39.out.below hbn (Nat.le_refl _))
      have G_b_40 := Lib.hid (G_b_39.out.below hbn (Nat.le_refl _))
      have HT_40 := Lib.hid (HT_39.out.below hbn (Nat.le_refl _))
      have HB_40 := Lib.hid (HB_39.out.trans (hbn.mono HB_39.out.size))
      clear gn hbn
      go_wp2_with fail
      refine (count_g G_tm_40.out).mono ?_
      rintro e w' ⟨rfl, rfl⟩
      go_wp2_with fail
      refine (awake_any _ HT_40.out).mono ?_
      rintro e wz ⟨rfl, hbz⟩
      go_wp2_with fail
      go_ret
      exact ⟨rfl, HB_40.out.trans (hbz.mono HB_40.out.size)⟩
  | false =>
    have t1 : (((elems (minusL wa wb)).length : Int) == 0) = false := by
      have := of_decide_eq_false WM.out.symm
      rw [beq_eq_false_iff_ne]; omega
    obtain rfl : false = sab := ws
    go_wp2_with fail
    refine (within_any G_a_35.out G_b_35.out).mono ?_
    rw [WAB.out]
    rintro e w36 ⟨rfl, hdn⟩
    have hbn := hdn.below w35.heap.size
    have G_a_36 := Lib.hid (G_a_35.out.below hbn (Nat.le_refl _))
    have G_b_36 := Lib.hid (G_b_35.out.below hbn (Nat.le_refl _))
    have HT_36 := Lib.hid (HT_35.out.below hbn (Nat.le_refl _))
    have HB_36 := Lib.hid (HB_35.out.trans (hbn.mono HB_35.out.size))
    clear hbn hdn
    go_wp2_with fail
    refine (same_any G_a_36.out G_b_36.out).mono ?_
    rw [SAB.out]
    rintro e w37 ⟨rfl, hdn⟩
    have hbn := hdn.below w36.heap.size
    have G_a_37 := Lib.hid (G_a_36.out.below hbn (Nat.le_refl _))
    have G_b_37 := Lib.hid (G_b_36.out.below hbn (Nat.le_refl _))
    have HT_37 := Lib.hid (HT_36.out.below hbn (Nat.le_refl _))
    have HB_37 := Lib.hid (HB_36.out.trans (hbn.mono HB_36.out.size))
    clear hbn hdn
    go_wp2_with fail
    refine (within_any G_a_37.out G_b_37.out).mono ?_
    rw [WAB.out]
    rintro e w38 ⟨rfl, hdn⟩
    have hbn := hdn.below w37.heap.size
    have G_a_38 := Lib.hid (G_a_37.out.below hbn (Nat.le_refl _))
    have G_b_38 := Lib.hid (G_b_37.out.below hbn (Nat.le_refl _))
    have HT_38 := Lib.hid (HT_37.out.below hbn (Nat.le_refl _))
    have HB_38 := Lib.hid (HB_37.out.trans (hbn.mono HB_37.out.size))
    clear hbn hdn
    go_wp2_with fail
    refine (minus_any G_a_38.out G_b_38.out).mono ?_
    rintro e w39 ⟨a_tm, c_tm, rfl, gn, hbn⟩
    have G_tm_39 := Lib.hid gn
    have G_a_39 := Lib.hid (G_a_38.out.below hbn (Nat.le_refl _))
    have G_b_39 := Lib.hid (G_b_38.out.below hbn (Nat.le_refl _))
    have HT_39 := Lib.hid (HT_38.out.below hbn (Nat.le_refl _))
    have HB_39 := Lib.hid (HB_38.out.trans (hbn.mono HB_38.out.size))
    clear gn hbn
    go_wp2_with fail
    refine (count_g G_tm_39.out).mono ?_
    rintro e w' ⟨rfl, rfl⟩
    go_wp2_with fail
    refine (awake_any _ HT_39.out).mono ?_
    rintro e wz ⟨rfl, hbz⟩
    go_wp2_with fail
    go_ret
    exact ⟨rfl, HB_39.out.trans (hbz.mono HB_39.out.size)⟩

set_option maxHeartbeats 800000 in
theorem algebra_any (a : Option Addr) (ca : Nat) (wa : List Nat) (b : Option Addr) (cb : Nat) (wb : List Nat) (c : Option Addr) (cc : Nat) (wc : List Nat) (w : World)
    (h1 : wa.length ≤ ca ∧ ca ≤ maxLen ∧ Wf wa) (g1 : Words w a wa) (h2 : wb.length ≤ cb ∧ cb ≤ maxLen ∧ Wf wb) (g2 : Words w b wb) (h3 : wc.length ≤ cc ∧ cc ≤ maxLen ∧ Wf wc) (g3 : Words w c wc) (hT : Tz w) :
    Calls Tryd.prog 7 #[.slice a wa.length ca, .slice b wb.length cb, .slice c wc.length cc] w fun e w' => e = .returned (.bool true) ∧ Below w.heap.size w w' := by
  by_cases hs : wa.length ≤ 1100 ∧ wb.length ≤ 1100 ∧ wc.length ≤ 1100
  · exact algebra_small ⟨hs.1, h1.1, h1.2.1, h1.2.2, g1⟩ ⟨hs.2.1, h2.1, h2.2.1, h2.2.2, g2⟩ ⟨hs.2.2, h3.1, h3.2.1, h3.2.2, g3⟩ hT
  · have HT := Lib.hid hT
    have l1 := h1.1; have l2 := h2.1; have l3 := h3.1
    have m1 := h1.2.1; have m2 := h2.2.1; have m3 := h3.2.1
    unfold maxLen at m1 m2 m3
    clear h1 h2 h3 g1 g2 g3 hT
    by_cases c1 : 1100 < wa.length
    · clear hs
      go_enter Tryd.func7, Tryd.ntmps7
      go_wp2_with (go_at_call 10; refine (awake_any _ HT.out).mono ?_; rintro e w' ⟨rfl, hb⟩)
      go_ret
      exact ⟨rfl, hb⟩
    · by_cases c2 : 1100 < wb.length
      · clear hs
        go_enter Tryd.func7, Tryd.ntmps7
        go_wp2_with (go_at_call 10; refine (awake_any _ HT.out).mono ?_; rintro e w' ⟨rfl, hb⟩)
        go_ret
        exact ⟨rfl, hb⟩
      · have c3 : 1100 < wc.length := by omega
        clear hs
        go_enter Tryd.func7, Tryd.ntmps7
        go_wp2_with (go_at_call 10; refine (awake_any _ HT.out).mono ?_; rintro e w' ⟨rfl, hb⟩)
        go_ret
        exact ⟨rfl, hb⟩
end Go.Proofs.YtggkhbjhhglbbaaDoor
