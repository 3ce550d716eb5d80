/-
  BitsTells: the walk of the law.
-/
import Derived.Test.YtggkhbjhhglbbaaDoorRMore
import Derived.OpenShut
namespace Go.Proofs.YtggkhbjhhglbbaaDoor
open Go.RowKit Go.WideShapes
set_option linter.unusedVariables false

theorem hasB_neg {ws : List Nat} {x : Int} (h : x < 0) : hasB ws x = false := by
  unfold hasB
  rw [decide_eq_false_iff_not, asInts_mem]
  rintro ⟨i, _, hi⟩
  omega
theorem hasB_nat (ws : List Nat) (n : Nat) : hasB ws (n : Int) = mem ws n := by
  unfold hasB
  rw [Bool.eq_iff_iff, decide_eq_true_eq, asInts_mem, ← mem_elems]
  constructor
  · rintro ⟨i, h, hi⟩
    rw [show n = i from by omega]; exact h
  · intro h; exact ⟨n, h, rfl⟩
theorem has_int {a : Option Addr} {c : Nat} {ws : List Nat} {w : World} (x : Int) (hx : -9223372036854775808 ≤ x ∧ x ≤ 9223372036854775807) (hg : Good w a c ws) :
    Calls Tryd.prog 16 #[.slice a ws.length c, .int .i64 x] w fun e w' => e = .returned (.bool (hasB ws x)) ∧ w = w' := by
  by_cases h : x < 0
  · rw [hasB_neg h]
    exact has_neg a ws.length c x w h
  · obtain ⟨n, rfl⟩ : ∃ n : Nat, x = n := ⟨x.toNat, by omega⟩
    rw [hasB_nat]
    exact has_any a c ws n w (by omega) hg.len hg.wf hg.words
theorem sameInts {wa wb : List Nat} (ha : Wf wa) (hb : Wf wb) : decide (asInts (elems wa) = asInts (elems wb)) = decide (trimL wa = trimL wb) := by
  rw [Bool.eq_iff_iff, decide_eq_true_eq, decide_eq_true_eq, same_iff ha hb]
  constructor
  · intro h i
    have h := asInts_inj h
    rw [Bool.eq_iff_iff, ← mem_elems, ← mem_elems, h]
  · intro h
    congr 1
    exact asc_ext (asc_elems wa) (asc_elems wb) fun i => by rw [mem_elems, mem_elems, h]

theorem requalInts_self (a : Option Addr) (c : Nat) (za : List Int) (b : Option Addr) (d : Nat) (w : World) (hn : za.length ≤ 100000) (hz : Ints w a za) (hzb : Ints w b za) :
    Calls Tryd.prog 13 #[.slice a za.length c, .slice b za.length d] w fun e w' => e = .returned (.bool true) ∧ Drawn w w' := by
  have := requalInts_any a c za b d za w hn hz hn hzb
  rwa [decide_eq_true rfl] at this

set_option maxHeartbeats 6400000 in
set_option maxRecDepth 100000 in
theorem tells_small {a : Option Addr} {ca : Nat} {wa : List Nat} {b : Option Addr} {cb : Nat} {wb : List Nat} {w : World} (x : Int) (hwx : (Lit.int .i64 x).wf = true) (ga : Good w a ca wa) (gb : Good w b cb wb) (hT : Tz w) :
    Calls Tryd.prog 3 #[.slice a wa.length ca, .slice b wb.length cb, .int .i64 x] w fun e w' => e = .returned (.bool true) ∧ Below w.heap.size w w' := by
  have hx := Go.bounds_i64 hwx
  have hx2 : x < 9223372036854775808 := by omega
  have Fa := ga.wf
  have Fb := gb.wf
  have la := ga.len
  have lb := gb.len
  have hca := card_le' la
  have hcb := card_le' lb
  have HsI := Lib.hid (sameInts Fa Fb)
  rw [← length_asInts] at hca hcb
  have HnC := Lib.hid (length_asInts (elems wa)).symm
  obtain ⟨za, hza⟩ : ∃ zs, asInts (elems wa) = zs := ⟨_, rfl⟩
  obtain ⟨zb, hzb⟩ : ∃ zs, asInts (elems wb) = zs := ⟨_, rfl⟩
  have Hza := Lib.hid hza
  have Hzb := Lib.hid hzb
  have hca : za.length ≤ 100000 := by rw [← hza]; omega
  have hcb : zb.length ≤ 100000 := by rw [← hzb]; omega
  rw [hza] at HsI HnC
  rw [hzb] at HsI
  obtain ⟨hh, hhe⟩ : ∃ t, hasB wa x = t := ⟨_, rfl⟩
  obtain ⟨nx, hnx⟩ : ∃ t, nextS wa x = t := ⟨_, rfl⟩
  obtain ⟨wt, hwt⟩ : ∃ t, withinB wa wb = t := ⟨_, rfl⟩
  obtain ⟨st, hst⟩ : ∃ t, decide (trimL wa = trimL wb) = t := ⟨_, rfl⟩
  rw [hst] at HsI
  have Hh := Lib.hid hhe
  have Hnx := Lib.hid hnx
  have Hw := Lib.hid hwt
  have Hs := Lib.hid hst
  have bh : (hh != hh) = false := by simp
  have bw : (wt == wt) = true := by simp
  have bs : (st == st) = true := by simp
  have bn : (nx != nx) = false := by simp
  have G_a_0 := Lib.hid ga
  have G_b_0 := Lib.hid gb
  have HT_0 := Lib.hid hT
  have l1 : ¬ 1100 < wa.length := by omega
  have l2 : ¬ 1100 < wb.length := by omega
  clear ga gb hT Fa Fb hza hzb hhe hnx hwt hst hwx
  obtain ⟨vt, hvt⟩ : ∃ t, valid wa = t := ⟨_, rfl⟩
  cases vt with
  | true =>
    have HV := Lib.hid hvt
    clear hvt
    go_enter Tryd.func3, Tryd.ntmps3
    go_wp2_with fail
    refine (check_any _ _ _ _ G_a_0.out.len G_a_0.out.cap G_a_0.out.max G_a_0.out.wf G_a_0.out.words ).mono ?_
    rw [HV.out]
    rintro e w' ⟨rfl, rfl⟩
    go_wp2_with fail
    refine (rvalid_any G_a_0.out).mono ?_
    rw [HV.out]
    rintro e w1 ⟨rfl, hbn⟩
    have G_a_1 := Lib.hid (G_a_0.out.below hbn (Nat.le_refl _))
    have G_b_1 := Lib.hid (G_b_0.out.below hbn (Nat.le_refl _))
    have HT_1 := Lib.hid (HT_0.out.below hbn (Nat.le_refl _))
    have HB_1 := Lib.hid hbn
    clear hbn
    go_wp2_with fail
    refine (rvalid_any G_a_1.out).mono ?_
    rw [HV.out]
    rintro e w2 ⟨rfl, hbn⟩
    have G_a_2 := Lib.hid (G_a_1.out.below hbn (Nat.le_refl _))
    have G_b_2 := Lib.hid (G_b_1.out.below hbn (Nat.le_refl _))
    have HT_2 := Lib.hid (HT_1.out.below hbn (Nat.le_refl _))
    have HB_2 := Lib.hid (HB_1.out.trans (hbn.mono HB_1.out.size))
    clear hbn
    go_wp2_with fail
    refine (list_open G_a_2.out HT_2.out Hza.out rfl).mono ?_
    rintro e w3 ⟨al_p, cl_p, rfl, gn, hbn⟩
    have G_p_3 := Lib.hid gn
    have G_a_3 := Lib.hid (G_a_2.out.below hbn (Nat.le_refl _))
    have G_b_3 := Lib.hid (G_b_2.out.below hbn (Nat.le_refl _))
    have HT_3 := Lib.hid (HT_2.out.below hbn (Nat.le_refl _))
    have HB_3 := Lib.hid (HB_2.out.trans (hbn.mono HB_2.out.size))
    clear gn hbn
    go_wp2_with fail
    refine (rlist_open G_a_3.out Hza.out rfl).mono ?_
    rintro e w4 ⟨al_q, cl_q, rfl, gn, hbn⟩
    have G_q_4 := Lib.hid gn
    have G_a_4 := Lib.hid (G_a_3.out.below hbn (Nat.le_refl _))
    have G_b_4 := Lib.hid (G_b_3.out.below hbn (Nat.le_refl _))
    have G_p_4 := Lib.hid (G_p_3.out.below hbn (Nat.le_refl _))
    have HT_4 := Lib.hid (HT_3.out.below hbn (Nat.le_refl _))
    have HB_4 := Lib.hid (HB_3.out.trans (hbn.mono HB_3.out.size))
    clear gn hbn
    go_wp2_with fail
    refine (requalInts_self al_p cl_p za al_q cl_q _ hca G_p_4.out G_q_4.out).mono ?_
    rintro e w5 ⟨rfl, hdn⟩
    have hbn := hdn.below w4.heap.size
    have G_a_5 := Lib.hid (G_a_4.out.below hbn (Nat.le_refl _))
    have G_b_5 := Lib.hid (G_b_4.out.below hbn (Nat.le_refl _))
    have HT_5 := Lib.hid (HT_4.out.below hbn (Nat.le_refl _))
    have HB_5 := Lib.hid (HB_4.out.trans (hbn.mono HB_4.out.size))
    clear hbn hdn
    go_wp2_with fail
    refine (has_int x hx G_a_5.out).mono ?_
    rw [Hh.out]
    rintro e w' ⟨rfl, rfl⟩
    go_wp2_with fail
    refine (rhas_any x G_a_5.out).mono ?_
    rw [Hh.out]
    rintro e w6 ⟨rfl, hbn⟩
    have G_a_6 := Lib.hid (G_a_5.out.below hbn (Nat.le_refl _))
    have G_b_6 := Lib.hid (G_b_5.out.below hbn (Nat.le_refl _))
    have HT_6 := Lib.hid (HT_5.out.below hbn (Nat.le_refl _))
    have HB_6 := Lib.hid (HB_5.out.trans (hbn.mono HB_5.out.size))
    clear hbn
    go_wp2_with fail
    refine (count_g G_a_6.out).mono ?_
    rw [HnC.out]
    rintro e w' ⟨rfl, rfl⟩
    go_wp2_with fail
    refine (rlist_open G_a_6.out Hza.out rfl).mono ?_
    rintro e w7 ⟨al_r, cl_r, rfl, gn, hbn⟩
    have G_r_7 := Lib.hid gn
    have G_a_7 := Lib.hid (G_a_6.out.below hbn (Nat.le_refl _))
    have G_b_7 := Lib.hid (G_b_6.out.below hbn (Nat.le_refl _))
    have HT_7 := Lib.hid (HT_6.out.below hbn (Nat.le_refl _))
    have HB_7 := Lib.hid (HB_6.out.trans (hbn.mono HB_6.out.size))
    clear gn hbn
    go_wp2_with fail
    refine (next_any a ca wa x _ hx2 G_a_7.out.len G_a_7.out.wf G_a_7.out.words HT_7.out ).mono ?_
    rw [Hnx.out]
    rintro e w' ⟨rfl, rfl⟩
    go_wp2_with fail
    refine (rnext_any x G_a_7.out).mono ?_
    rw [Hnx.out]
    rintro e w8 ⟨rfl, hbn⟩
    have G_a_8 := Lib.hid (G_a_7.out.below hbn (Nat.le_refl _))
    have G_b_8 := Lib.hid (G_b_7.out.below hbn (Nat.le_refl _))
    have HT_8 := Lib.hid (HT_7.out.below hbn (Nat.le_refl _))
    have HB_8 := Lib.hid (HB_7.out.trans (hbn.mono HB_7.out.size))
    clear hbn
    go_wp2_with fail
    refine (within_any G_a_8.out G_b_8.out).mono ?_
    rw [Hw.out]
    rintro e w9 ⟨rfl, hdn⟩
    have hbn := hdn.below w8.heap.size
    have G_a_9 := Lib.hid (G_a_8.out.below hbn (Nat.le_refl _))
    have G_b_9 := Lib.hid (G_b_8.out.below hbn (Nat.le_refl _))
    have HT_9 := Lib.hid (HT_8.out.below hbn (Nat.le_refl _))
    have HB_9 := Lib.hid (HB_8.out.trans (hbn.mono HB_8.out.size))
    clear hbn hdn
    go_wp2_with fail
    refine (rwithin_any G_a_9.out G_b_9.out).mono ?_
    rw [Hw.out]
    rintro e w10 ⟨rfl, hbn⟩
    have G_a_10 := Lib.hid (G_a_9.out.below hbn (Nat.le_refl _))
    have G_b_10 := Lib.hid (G_b_9.out.below hbn (Nat.le_refl _))
    have HT_10 := Lib.hid (HT_9.out.below hbn (Nat.le_refl _))
    have HB_10 := Lib.hid (HB_9.out.trans (hbn.mono HB_9.out.size))
    clear hbn
    go_wp2_with fail
    refine (same_any G_a_10.out G_b_10.out).mono ?_
    rw [Hs.out]
    rintro e w11 ⟨rfl, hdn⟩
    have hbn := hdn.below w10.heap.size
    have G_a_11 := Lib.hid (G_a_10.out.below hbn (Nat.le_refl _))
    have G_b_11 := Lib.hid (G_b_10.out.below hbn (Nat.le_refl _))
    have HT_11 := Lib.hid (HT_10.out.below hbn (Nat.le_refl _))
    have HB_11 := Lib.hid (HB_10.out.trans (hbn.mono HB_10.out.size))
    clear hbn hdn
    go_wp2_with fail
    refine (rlist_open G_a_11.out Hza.out rfl).mono ?_
    rintro e w12 ⟨al_s, cl_s, rfl, gn, hbn⟩
    have G_s_12 := Lib.hid gn
    have G_a_12 := Lib.hid (G_a_11.out.below hbn (Nat.le_refl _))
    have G_b_12 := Lib.hid (G_b_11.out.below hbn (Nat.le_refl _))
    have HT_12 := Lib.hid (HT_11.out.below hbn (Nat.le_refl _))
    have HB_12 := Lib.hid (HB_11.out.trans (hbn.mono HB_11.out.size))
    clear gn hbn
    go_wp2_with fail
    refine (rlist_open G_b_12.out Hzb.out rfl).mono ?_
    rintro e w13 ⟨al_t, cl_t, rfl, gn, hbn⟩
    have G_t_13 := Lib.hid gn
    have G_a_13 := Lib.hid (G_a_12.out.below hbn (Nat.le_refl _))
    have G_b_13 := Lib.hid (G_b_12.out.below hbn (Nat.le_refl _))
    have G_s_13 := Lib.hid (G_s_12.out.below hbn (Nat.le_refl _))
    have HT_13 := Lib.hid (HT_12.out.below hbn (Nat.le_refl _))
    have HB_13 := Lib.hid (HB_12.out.trans (hbn.mono HB_12.out.size))
    clear gn hbn
    go_wp2_with fail
    refine (requalInts_any al_s cl_s za al_t cl_t zb _ hca G_s_13.out hcb G_t_13.out).mono ?_
    rw [HsI.out]
    rintro e w14 ⟨rfl, hdn⟩
    have hbn := hdn.below w13.heap.size
    have G_a_14 := Lib.hid (G_a_13.out.below hbn (Nat.le_refl _))
    have G_b_14 := Lib.hid (G_b_13.out.below hbn (Nat.le_refl _))
    have HT_14 := Lib.hid (HT_13.out.below hbn (Nat.le_refl _))
    have HB_14 := Lib.hid (HB_13.out.trans (hbn.mono HB_13.out.size))
    clear hbn hdn
    go_wp2_with fail
    refine (awake_any _ HT_14.out).mono ?_
    rintro e wz ⟨rfl, hbz⟩
    go_wp2_with fail
    go_ret
    exact ⟨rfl, HB_14.out.trans (hbz.mono HB_14.out.size)⟩
  | false =>
    have HV := Lib.hid hvt
    clear hvt
    go_enter Tryd.func3, Tryd.ntmps3
    go_wp2_with fail
    refine (check_any _ _ _ _ G_a_0.out.len G_a_0.out.cap G_a_0.out.max G_a_0.out.wf G_a_0.out.words ).mono ?_
    rw [HV.out]
    rintro e w' ⟨rfl, rfl⟩
    go_wp2_with fail
    refine (rvalid_any G_a_0.out).mono ?_
    rw [HV.out]
    rintro e w1 ⟨rfl, hbn⟩
    have G_a_1 := Lib.hid (G_a_0.out.below hbn (Nat.le_refl _))
    have G_b_1 := Lib.hid (G_b_0.out.below hbn (Nat.le_refl _))
    have HT_1 := Lib.hid (HT_0.out.below hbn (Nat.le_refl _))
    have HB_1 := Lib.hid hbn
    clear hbn
    go_wp2_with fail
    refine (rvalid_any G_a_1.out).mono ?_
    rw [HV.out]
    rintro e w2 ⟨rfl, hbn⟩
    have G_a_2 := Lib.hid (G_a_1.out.below hbn (Nat.le_refl _))
    have G_b_2 := Lib.hid (G_b_1.out.below hbn (Nat.le_refl _))
    have HT_2 := Lib.hid (HT_1.out.below hbn (Nat.le_refl _))
    have HB_2 := Lib.hid (HB_1.out.trans (hbn.mono HB_1.out.size))
    clear hbn
    go_wp2_with fail
    refine (check_any _ _ _ _ G_a_2.out.len G_a_2.out.cap G_a_2.out.max G_a_2.out.wf G_a_2.out.words ).mono ?_
    rw [HV.out]
    rintro e w' ⟨rfl, rfl⟩
    go_wp2_with fail
    refine (list_open G_a_2.out HT_2.out Hza.out rfl).mono ?_
    rintro e w3 ⟨al_p, cl_p, rfl, gn, hbn⟩
    have G_p_3 := Lib.hid gn
    have G_a_3 := Lib.hid (G_a_2.out.below hbn (Nat.le_refl _))
    have G_b_3 := Lib.hid (G_b_2.out.below hbn (Nat.le_refl _))
    have HT_3 := Lib.hid (HT_2.out.below hbn (Nat.le_refl _))
    have HB_3 := Lib.hid (HB_2.out.trans (hbn.mono HB_2.out.size))
    clear gn hbn
    go_wp2_with fail
    refine (rlist_open G_a_3.out Hza.out rfl).mono ?_
    rintro e w4 ⟨al_q, cl_q, rfl, gn, hbn⟩
    have G_q_4 := Lib.hid gn
    have G_a_4 := Lib.hid (G_a_3.out.below hbn (Nat.le_refl _))
    have G_b_4 := Lib.hid (G_b_3.out.below hbn (Nat.le_refl _))
    have G_p_4 := Lib.hid (G_p_3.out.below hbn (Nat.le_refl _))
    have HT_4 := Lib.hid (HT_3.out.below hbn (Nat.le_refl _))
    have HB_4 := Lib.hid (HB_3.out.trans (hbn.mono HB_3.out.size))
    clear gn hbn
    go_wp2_with fail
    refine (requalInts_self al_p cl_p za al_q cl_q _ hca G_p_4.out G_q_4.out).mono ?_
    rintro e w5 ⟨rfl, hdn⟩
    have hbn := hdn.below w4.heap.size
    have G_a_5 := Lib.hid (G_a_4.out.below hbn (Nat.le_refl _))
    have G_b_5 := Lib.hid (G_b_4.out.below hbn (Nat.le_refl _))
    have HT_5 := Lib.hid (HT_4.out.below hbn (Nat.le_refl _))
    have HB_5 := Lib.hid (HB_4.out.trans (hbn.mono HB_4.out.size))
    clear hbn hdn
    go_wp2_with fail
    refine (has_int x hx G_a_5.out).mono ?_
    rw [Hh.out]
    rintro e w' ⟨rfl, rfl⟩
    go_wp2_with fail
    refine (rhas_any x G_a_5.out).mono ?_
    rw [Hh.out]
    rintro e w6 ⟨rfl, hbn⟩
    have G_a_6 := Lib.hid (G_a_5.out.below hbn (Nat.le_refl _))
    have G_b_6 := Lib.hid (G_b_5.out.below hbn (Nat.le_refl _))
    have HT_6 := Lib.hid (HT_5.out.below hbn (Nat.le_refl _))
    have HB_6 := Lib.hid (HB_5.out.trans (hbn.mono HB_5.out.size))
    clear hbn
    go_wp2_with fail
    refine (count_g G_a_6.out).mono ?_
    rw [HnC.out]
    rintro e w' ⟨rfl, rfl⟩
    go_wp2_with fail
    refine (rlist_open G_a_6.out Hza.out rfl).mono ?_
    rintro e w7 ⟨al_r, cl_r, rfl, gn, hbn⟩
    have G_r_7 := Lib.hid gn
    have G_a_7 := Lib.hid (G_a_6.out.below hbn (Nat.le_refl _))
    have G_b_7 := Lib.hid (G_b_6.out.below hbn (Nat.le_refl _))
    have HT_7 := Lib.hid (HT_6.out.below hbn (Nat.le_refl _))
    have HB_7 := Lib.hid (HB_6.out.trans (hbn.mono HB_6.out.size))
    clear gn hbn
    go_wp2_with fail
    refine (next_any a ca wa x _ hx2 G_a_7.out.len G_a_7.out.wf G_a_7.out.words HT_7.out ).mono ?_
    rw [Hnx.out]
    rintro e w' ⟨rfl, rfl⟩
    go_wp2_with fail
    refine (rnext_any x G_a_7.out).mono ?_
    rw [Hnx.out]
    rintro e w8 ⟨rfl, hbn⟩
    have G_a_8 := Lib.hid (G_a_7.out.below hbn (Nat.le_refl _))
    have G_b_8 := Lib.hid (G_b_7.out.below hbn (Nat.le_refl _))
    have HT_8 := Lib.hid (HT_7.out.below hbn (Nat.le_refl _))
    have HB_8 := Lib.hid (HB_7.out.trans (hbn.mono HB_7.out.size))
    clear hbn
    go_wp2_with fail
    refine (within_any G_a_8.out G_b_8.out).mono ?_
    rw [Hw.out]
    rintro e w9 ⟨rfl, hdn⟩
    have hbn := hdn.below w8.heap.size
    have G_a_9 := Lib.hid (G_a_8.out.below hbn (Nat.le_refl _))
    have G_b_9 := Lib.hid (G_b_8.out.below hbn (Nat.le_refl _))
    have HT_9 := Lib.hid (HT_8.out.below hbn (Nat.le_refl _))
    have HB_9 := Lib.hid (HB_8.out.trans (hbn.mono HB_8.out.size))
    clear hbn hdn
    go_wp2_with fail
    refine (rwithin_any G_a_9.out G_b_9.out).mono ?_
    rw [Hw.out]
    rintro e w10 ⟨rfl, hbn⟩
    have G_a_10 := Lib.hid (G_a_9.out.below hbn (Nat.le_refl _))
    have G_b_10 := Lib.hid (G_b_9.out.below hbn (Nat.le_refl _))
    have HT_10 := Lib.hid (HT_9.out.below hbn (Nat.le_refl _))
    have HB_10 := Lib.hid (HB_9.out.trans (hbn.mono HB_9.out.size))
    clear hbn
    go_wp2_with fail
    refine (same_any G_a_10.out G_b_10.out).mono ?_
    rw [Hs.out]
    rintro e w11 ⟨rfl, hdn⟩
    have hbn := hdn.below w10.heap.size
    have G_a_11 := Lib.hid (G_a_10.out.below hbn (Nat.le_refl _))
    have G_b_11 := Lib.hid (G_b_10.out.below hbn (Nat.le_refl _))
    have HT_11 := Lib.hid (HT_10.out.below hbn (Nat.le_refl _))
    have HB_11 := Lib.hid (HB_10.out.trans (hbn.mono HB_10.out.size))
    clear hbn hdn
    go_wp2_with fail
    refine (rlist_open G_a_11.out Hza.out rfl).mono ?_
    rintro e w12 ⟨al_s, cl_s, rfl, gn, hbn⟩
    have G_s_12 := Lib.hid gn
    have G_a_12 := Lib.hid (G_a_11.out.below hbn (Nat.le_refl _))
    have G_b_12 := Lib.hid (G_b_11.out.below hbn (Nat.le_refl _))
    have HT_12 := Lib.hid (HT_11.out.below hbn (Nat.le_refl _))
    have HB_12 := Lib.hid (HB_11.out.trans (hbn.mono HB_11.out.size))
    clear gn hbn
    go_wp2_with fail
    refine (rlist_open G_b_12.out Hzb.out rfl).mono ?_
    rintro e w13 ⟨al_t, cl_t, rfl, gn, hbn⟩
    have G_t_13 := Lib.hid gn
    have G_a_13 := Lib.hid (G_a_12.out.below hbn (Nat.le_refl _))
    have G_b_13 := Lib.hid (G_b_12.out.below hbn (Nat.le_refl _))
    have G_s_13 := Lib.hid (G_s_12.out.below hbn (Nat.le_refl _))
    have HT_13 := Lib.hid (HT_12.out.below hbn (Nat.le_refl _))
    have HB_13 := Lib.hid (HB_12.out.trans (hbn.mono HB_12.out.size))
    clear gn hbn
    go_wp2_with fail
    refine (requalInts_any al_s cl_s za al_t cl_t zb _ hca G_s_13.out hcb G_t_13.out).mono ?_
    rw [HsI.out]
    rintro e w14 ⟨rfl, hdn⟩
    have hbn := hdn.below w13.heap.size
    have G_a_14 := Lib.hid (G_a_13.out.below hbn (Nat.le_refl _))
    have G_b_14 := Lib.hid (G_b_13.out.below hbn (Nat.le_refl _))
    have HT_14 := Lib.hid (HT_13.out.below hbn (Nat.le_refl _))
    have HB_14 := Lib.hid (HB_13.out.trans (hbn.mono HB_13.out.size))
    clear hbn hdn
    go_wp2_with fail
    refine (awake_any _ HT_14.out).mono ?_
    rintro e wz ⟨rfl, hbz⟩
    go_wp2_with fail
    go_ret
    exact ⟨rfl, HB_14.out.trans (hbz.mono HB_14.out.size)⟩

set_option maxHeartbeats 800000 in
theorem tells_any (a : Option Addr) (ca : Nat) (wa : List Nat) (b : Option Addr) (cb : Nat) (wb : List Nat) (x : Int) (w : World)
    (h1 : wa.length ≤ ca ∧ ca ≤ maxLen ∧ Wf wa) (g1 : Words w a wa) (h2 : wb.length ≤ cb ∧ cb ≤ maxLen ∧ Wf wb) (g2 : Words w b wb) (hx : (Lit.int .i64 x).wf = true) (hT : Tz w) :
    Calls Tryd.prog 3 #[.slice a wa.length ca, .slice b wb.length cb, .int .i64 x] w fun e w' => e = .returned (.bool true) ∧ Below w.heap.size w w' := by
  by_cases hs : wa.length ≤ 1100 ∧ wb.length ≤ 1100
  · exact tells_small x hx ⟨hs.1, h1.1, h1.2.1, h1.2.2, g1⟩ ⟨hs.2, h2.1, h2.2.1, h2.2.2, g2⟩ hT
  · have HT := Lib.hid hT
    have l1 := h1.1; have l2 := h2.1
    have m1 := h1.2.1; have m2 := h2.2.1
    unfold maxLen at m1 m2
    clear h1 h2 g1 g2 hT hx
    by_cases c1 : 1100 < wa.length
    · clear hs
      go_enter Tryd.func3, Tryd.ntmps3
      go_wp2_with (go_at_call 10; refine (awake_any _ HT.out).mono ?_; rintro e w' ⟨rfl, hb⟩)
      go_ret
      exact ⟨rfl, hb⟩
    · have c2 : 1100 < wb.length := by omega
      clear hs
      go_enter Tryd.func3, Tryd.ntmps3
      go_wp2_with (go_at_call 10; refine (awake_any _ HT.out).mono ?_; rintro e w' ⟨rfl, hb⟩)
      go_ret
      exact ⟨rfl, hb⟩
end Go.Proofs.YtggkhbjhhglbbaaDoor
