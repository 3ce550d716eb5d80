/-
  BitsChanges: the walk of the law.
-/
import Derived.Test.YtggkhbjhhglbbaaDoorChange
import Derived.Test.YtggkhbjhhglbbaaDoorTells
namespace Go.Proofs.YtggkhbjhhglbbaaDoor
open Go.RowKit Go.WideShapes
set_option linter.unusedVariables false

theorem hasB_int {ws : List Nat} {y : Int} (h : ¬ y < 0) : hasB ws y = mem ws y.toNat := by
  have := hasB_nat ws y.toNat
  rwa [show ((y.toNat : Nat) : Int) = y from by omega] at this
theorem hasB_with_x {wb cs : List Nat} {m : Nat} (h : IsS cs (fun i => mem wb i || decide (i = m))) : hasB cs (m : Int) = true := by
  rw [hasB_nat, h.mem]; simp
theorem hasB_without_x {wb ds : List Nat} {m : Nat} (h : IsS ds (fun i => mem wb i && !decide ((i : Int) = (m : Int)))) : hasB ds (m : Int) = false := by
  rw [hasB_nat, h.mem]; simp
theorem hasB_with_y {wb cs : List Nat} {m : Nat} {y : Int} (h : IsS cs (fun i => mem wb i || decide (i = m))) (hxy : (m : Int) ≠ y) : hasB cs y = hasB wb y := by
  by_cases hy : y < 0
  · rw [hasB_neg hy, hasB_neg hy]
  · rw [hasB_int hy, hasB_int hy, h.mem]
    have : decide (y.toNat = m) = false := by rw [decide_eq_false_iff_not]; omega
    rw [this]; simp
theorem hasB_without_y {wb ds : List Nat} {m : Nat} {y : Int} (h : IsS ds (fun i => mem wb i && !decide ((i : Int) = (m : Int)))) (hxy : (m : Int) ≠ y) : hasB ds y = hasB wb y := by
  by_cases hy : y < 0
  · rw [hasB_neg hy, hasB_neg hy]
  · rw [hasB_int hy, hasB_int hy, h.mem]
    have : decide (((y.toNat : Nat) : Int) = (m : Int)) = false := by rw [decide_eq_false_iff_not]; omega
    rw [this]; simp
theorem asc_one (m : Nat) : Asc [m] := by unfold Asc; simp
theorem ints_one {w : World} {b m : Nat} (h : w.cell? ⟨b, 0, none⟩ = some (.int .i64 (m : Int))) : Ints w (some ⟨b, 0, none⟩) (asInts [m]) := fun _ =>
  ⟨b, 0, rfl, fun i hi => by
    have : i = 0 := by simp [asInts] at hi; exact hi
    subst this
    simpa [asInts] using h⟩
theorem union_one {wb cs ms : List Nat} {m : Nat} (hw : Wf wb) (h : IsS cs (fun i => mem wb i || decide (i = m))) (hs : SetOf ms [m]) : unionL wb ms = cs :=
  ext_normal (wf_unionL hw hs.wf) h.wf (normal_unionL wb ms) h.normal fun i => by
    rw [mem_unionL, h.mem]
    congr 1
    rw [Bool.eq_iff_iff, hs.mem, decide_eq_true_eq, List.mem_singleton]
theorem runion_at {a : Option Addr} {c : Nat} {wa : List Nat} {b : Option Addr} {d : Nat} {wb us : List Nat} {w : World} (hE : unionL wa wb = us) (h1 : Good w a c wa) (h2 : Good w b d wb) :
    Calls Tryd.prog 26 #[.slice a wa.length c, .slice b wb.length d] w fun e w' => ∃ a' c', e = .returned (.slice a' us.length c') ∧ Good w' a' c' us ∧ Below w.heap.size w w' := by
  subst hE
  exact runion_any h1 h2

set_option maxHeartbeats 3200000 in
set_option maxRecDepth 100000 in
theorem changes_bad {b : Option Addr} {cb : Nat} {wb : List Nat} {w : World} (x y : Int) (hx : -9223372036854775808 ≤ x ∧ x ≤ 9223372036854775807) (hbad : x < 0 ∨ 65536 ≤ x) (gb : Good w b cb wb) (hT : Tz w) :
    Calls Tryd.prog 6 #[.slice b wb.length cb, .int .i64 x, .int .i64 y] w fun e w' => e = .returned (.bool true) ∧ Below w.heap.size w w' := by
  have lb := gb.len
  have hx2 := hx.2
  have G_b_0 := Lib.hid gb
  have HT_0 := Lib.hid hT
  clear gb hT
  go_enter Tryd.func6, Tryd.ntmps6
  go_wp2_with fail
  refine (with_bad _ _ _ x _ hbad ).mono ?_
  rintro e w' ⟨rfl, rfl⟩
  go_wp2_with fail
  refine (without_g hx2 G_b_0.out).mono ?_
  rintro e w1 ⟨a_d, c_d, ds, rfl, gn, hds, hbn⟩
  have G_d_1 := Lib.hid gn
  have Hds := Lib.hid hds
  have G_b_1 := Lib.hid (G_b_0.out.below hbn (Nat.le_refl _))
  have HT_1 := Lib.hid (HT_0.out.below hbn (Nat.le_refl _))
  have HB_1 := Lib.hid hbn
  clear gn hds hbn
  go_wp2_with fail
  refine (relem_no x _ hbad ).mono ?_
  rintro e w' ⟨rfl, rfl⟩
  go_wp2_with fail
  refine (rdrop_g (Hds.out) G_b_1.out).mono ?_
  rintro e w2 ⟨a_e, c_e, rfl, gn, hbn⟩
  have G_e_2 := Lib.hid gn
  have G_b_2 := Lib.hid (G_b_1.out.below hbn (Nat.le_refl _))
  have G_d_2 := Lib.hid (G_d_1.out.below hbn (Nat.le_refl _))
  have HT_2 := Lib.hid (HT_1.out.below hbn (Nat.le_refl _))
  have HB_2 := Lib.hid (HB_1.out.trans (hbn.mono HB_1.out.size))
  clear gn hbn
  go_wp2_with fail
  refine (requal_self G_d_2.out G_e_2.out).mono ?_
  rintro e w3 ⟨rfl, hdn⟩
  have hbn := hdn.below w2.heap.size
  have G_b_3 := Lib.hid (G_b_2.out.below hbn (Nat.le_refl _))
  have HT_3 := Lib.hid (HT_2.out.below hbn (Nat.le_refl _))
  have HB_3 := Lib.hid (HB_2.out.trans (hbn.mono HB_2.out.size))
  clear hbn hdn
  go_wp2_with fail
  refine (awake_any _ HT_3.out).mono ?_
  rintro e wz ⟨rfl, hbz⟩
  go_wp2_with fail
  go_ret
  exact ⟨rfl, HB_3.out.trans (hbz.mono HB_3.out.size)⟩

set_option maxHeartbeats 6400000 in
set_option maxRecDepth 100000 in
theorem changes_good {b : Option Addr} {cb : Nat} {wb : List Nat} {w : World} (m : Nat) (y : Int) (hm : m < 65536) (hy : -9223372036854775808 ≤ y ∧ y ≤ 9223372036854775807) (gb : Good w b cb wb) (hT : Tz w) :
    Calls Tryd.prog 6 #[.slice b wb.length cb, .int .i64 m, .int .i64 y] w fun e w' => e = .returned (.bool true) ∧ Below w.heap.size w w' := by
  have lb := gb.len
  have hx : -9223372036854775808 ≤ (m : Int) ∧ (m : Int) ≤ 9223372036854775807 := by omega
  have hx2 := hx.2
  have G_b_0 := Lib.hid gb
  have HT_0 := Lib.hid hT
  clear gb hT
  by_cases hxy : (m : Int) = y
  · subst hxy
    go_enter Tryd.func6, Tryd.ntmps6
    go_wp2_with fail
    refine (with_ok hm G_b_0.out).mono ?_
    rintro e w1 ⟨a_c, c_c, cs, rfl, gn, hcs, hbn⟩
    have G_c_1 := Lib.hid gn
    have Hcs := Lib.hid hcs
    have G_b_1 := Lib.hid (G_b_0.out.below hbn (Nat.le_refl _))
    have HT_1 := Lib.hid (HT_0.out.below hbn (Nat.le_refl _))
    have HB_1 := Lib.hid hbn
    clear gn hcs hbn
    go_wp2_with fail
    refine (without_g hx2 G_b_1.out).mono ?_
    rintro e w2 ⟨a_d, c_d, ds, rfl, gn, hds, hbn⟩
    have G_d_2 := Lib.hid gn
    have Hds := Lib.hid hds
    have G_b_2 := Lib.hid (G_b_1.out.below hbn (Nat.le_refl _))
    have G_c_2 := Lib.hid (G_c_1.out.below hbn (Nat.le_refl _))
    have HT_2 := Lib.hid (HT_1.out.below hbn (Nat.le_refl _))
    have HB_2 := Lib.hid (HB_1.out.trans (hbn.mono HB_1.out.size))
    clear gn hds hbn
    have Hcx := Lib.hid (hasB_with_x Hcs.out)
    have Hdx := Lib.hid (hasB_without_x Hds.out)
    go_wp2_with fail
    refine (relem_yes m _ hm ).mono ?_
    rintro e w' ⟨rfl, rfl⟩
    go_wp2_with fail
    refine (has_int (m : Int) hx G_c_2.out).mono ?_
    rw [Hcx.out]
    rintro e w' ⟨rfl, rfl⟩
    go_wp2_with fail
    refine (has_int (m : Int) hx G_d_2.out).mono ?_
    rw [Hdx.out]
    rintro e w' ⟨rfl, rfl⟩
    go_wp2_with fail
    have hbl : Below w2.heap.size w2 (w2.alloc (Obj.cells #[Value.int .i64 (m : Int)] 3)) := (Below.refl _ _).alloc (Nat.le_refl _) _
    have G_b_3 := Lib.hid (G_b_2.out.below hbl (Nat.le_refl _))
    have G_c_3 := Lib.hid (G_c_2.out.below hbl (Nat.le_refl _))
    have G_d_3 := Lib.hid (G_d_2.out.below hbl (Nat.le_refl _))
    have HT_3 := Lib.hid (HT_2.out.below hbl (Nat.le_refl _))
    have HB_3 := Lib.hid (HB_2.out.trans (hbl.mono HB_2.out.size))
    clear hbl
    refine (rmake_any _ _ 1 [m] _ rfl (by omega) (asc_one m) (fun y hy => by rw [List.mem_singleton.1 hy]; omega) (ints_one (alloc_head _ _ _))).mono ?_
    rintro e w4 ⟨v5, ms, rfl, hown5, hset, hbn⟩
    obtain ⟨a_m, c_m, rfl, gn⟩ := hown5.good (hset.len fun y hy => by rw [List.mem_singleton.1 hy]; omega) hset.wf
    have HE := Lib.hid (union_one (G_b_0.out.wf) Hcs.out hset)
    have G_m_4 := Lib.hid gn
    have G_b_4 := Lib.hid (G_b_3.out.below hbn (Nat.le_refl _))
    have G_c_4 := Lib.hid (G_c_3.out.below hbn (Nat.le_refl _))
    have G_d_4 := Lib.hid (G_d_3.out.below hbn (Nat.le_refl _))
    have HT_4 := Lib.hid (HT_3.out.below hbn (Nat.le_refl _))
    have HB_4 := Lib.hid (HB_3.out.trans (hbn.mono HB_3.out.size))
    clear gn hown5 hset hbn
    go_wp2_with fail
    refine (runion_at (HE.out) G_b_4.out G_m_4.out).mono ?_
    rintro e w5 ⟨a_u, c_u, rfl, gn, hbn⟩
    have G_u_5 := Lib.hid gn
    have G_b_5 := Lib.hid (G_b_4.out.below hbn (Nat.le_refl _))
    have G_c_5 := Lib.hid (G_c_4.out.below hbn (Nat.le_refl _))
    have G_d_5 := Lib.hid (G_d_4.out.below hbn (Nat.le_refl _))
    have HT_5 := Lib.hid (HT_4.out.below hbn (Nat.le_refl _))
    have HB_5 := Lib.hid (HB_4.out.trans (hbn.mono HB_4.out.size))
    clear gn hbn
    go_wp2_with fail
    refine (requal_self G_c_5.out G_u_5.out).mono ?_
    rintro e w6 ⟨rfl, hdn⟩
    have hbn := hdn.below w5.heap.size
    have G_b_6 := Lib.hid (G_b_5.out.below hbn (Nat.le_refl _))
    have G_d_6 := Lib.hid (G_d_5.out.below hbn (Nat.le_refl _))
    have HT_6 := Lib.hid (HT_5.out.below hbn (Nat.le_refl _))
    have HB_6 := Lib.hid (HB_5.out.trans (hbn.mono HB_5.out.size))
    clear hbn hdn
    go_wp2_with fail
    refine (rdrop_g (Hds.out) G_b_6.out).mono ?_
    rintro e w7 ⟨a_e, c_e, rfl, gn, hbn⟩
    have G_e_7 := Lib.hid gn
    have G_b_7 := Lib.hid (G_b_6.out.below hbn (Nat.le_refl _))
    have G_d_7 := Lib.hid (G_d_6.out.below hbn (Nat.le_refl _))
    have HT_7 := Lib.hid (HT_6.out.below hbn (Nat.le_refl _))
    have HB_7 := Lib.hid (HB_6.out.trans (hbn.mono HB_6.out.size))
    clear gn hbn
    go_wp2_with fail
    refine (requal_self G_d_7.out G_e_7.out).mono ?_
    rintro e w8 ⟨rfl, hdn⟩
    have hbn := hdn.below w7.heap.size
    have G_b_8 := Lib.hid (G_b_7.out.below hbn (Nat.le_refl _))
    have HT_8 := Lib.hid (HT_7.out.below hbn (Nat.le_refl _))
    have HB_8 := Lib.hid (HB_7.out.trans (hbn.mono HB_7.out.size))
    clear hbn hdn
    go_wp2_with fail
    refine (awake_any _ HT_8.out).mono ?_
    rintro e wz ⟨rfl, hbz⟩
    go_wp2_with fail
    go_ret
    exact ⟨rfl, HB_8.out.trans (hbz.mono HB_8.out.size)⟩
  · go_enter Tryd.func6, Tryd.ntmps6
    go_wp2_with fail
    refine (with_ok hm G_b_0.out).mono ?_
    rintro e w1 ⟨a_c, c_c, cs, rfl, gn, hcs, hbn⟩
    have G_c_1 := Lib.hid gn
    have Hcs := Lib.hid hcs
    have G_b_1 := Lib.hid (G_b_0.out.below hbn (Nat.le_refl _))
    have HT_1 := Lib.hid (HT_0.out.below hbn (Nat.le_refl _))
    have HB_1 := Lib.hid hbn
    clear gn hcs hbn
    go_wp2_with fail
    refine (without_g hx2 G_b_1.out).mono ?_
    rintro e w2 ⟨a_d, c_d, ds, rfl, gn, hds, hbn⟩
    have G_d_2 := Lib.hid gn
    have Hds := Lib.hid hds
    have G_b_2 := Lib.hid (G_b_1.out.below hbn (Nat.le_refl _))
    have G_c_2 := Lib.hid (G_c_1.out.below hbn (Nat.le_refl _))
    have HT_2 := Lib.hid (HT_1.out.below hbn (Nat.le_refl _))
    have HB_2 := Lib.hid (HB_1.out.trans (hbn.mono HB_1.out.size))
    clear gn hds hbn
    have Hcx := Lib.hid (hasB_with_x Hcs.out)
    have Hdx := Lib.hid (hasB_without_x Hds.out)
    have Hcy := Lib.hid (hasB_with_y Hcs.out hxy)
    have Hdy := Lib.hid (hasB_without_y Hds.out hxy)
    obtain ⟨hh, hhe⟩ : ∃ t, hasB wb y = t := ⟨_, rfl⟩
    have Hb := Lib.hid hhe
    rw [hhe] at Hcy Hdy
    have bh : (hh != hh) = false := by simp
    have t0 : ((m : Int) != y) = true := by rw [bne_iff_ne]; exact hxy
    clear hhe hxy
    go_wp2_with fail
    refine (relem_yes m _ hm ).mono ?_
    rintro e w' ⟨rfl, rfl⟩
    go_wp2_with fail
    refine (has_int (m : Int) hx G_c_2.out).mono ?_
    rw [Hcx.out]
    rintro e w' ⟨rfl, rfl⟩
    go_wp2_with fail
    refine (has_int (m : Int) hx G_d_2.out).mono ?_
    rw [Hdx.out]
    rintro e w' ⟨rfl, rfl⟩
    go_wp2_with fail
    refine (has_int y hy G_c_2.out).mono ?_
    rw [Hcy.out]
    rintro e w' ⟨rfl, rfl⟩
    go_wp2_with fail
    refine (rhas_any y G_b_2.out).mono ?_
    rw [Hb.out]
    rintro e w3 ⟨rfl, hbn⟩
    have G_b_3 := Lib.hid (G_b_2.out.below hbn (Nat.le_refl _))
    have G_c_3 := Lib.hid (G_c_2.out.below hbn (Nat.le_refl _))
    have G_d_3 := Lib.hid (G_d_2.out.below hbn (Nat.le_refl _))
    have HT_3 := Lib.hid (HT_2.out.below hbn (Nat.le_refl _))
    have HB_3 := Lib.hid (HB_2.out.trans (hbn.mono HB_2.out.size))
    clear hbn
    go_wp2_with fail
    refine (has_int y hy G_d_3.out).mono ?_
    rw [Hdy.out]
    rintro e w' ⟨rfl, rfl⟩
    go_wp2_with fail
    refine (rhas_any y G_b_3.out).mono ?_
    rw [Hb.out]
    rintro e w4 ⟨rfl, hbn⟩
    have G_b_4 := Lib.hid (G_b_3.out.below hbn (Nat.le_refl _))
    have G_c_4 := Lib.hid (G_c_3.out.below hbn (Nat.le_refl _))
    have G_d_4 := Lib.hid (G_d_3.out.below hbn (Nat.le_refl _))
    have HT_4 := Lib.hid (HT_3.out.below hbn (Nat.le_refl _))
    have HB_4 := Lib.hid (HB_3.out.trans (hbn.mono HB_3.out.size))
    clear hbn
    go_wp2_with fail
    have hbl : Below w4.heap.size w4 (w4.alloc (Obj.cells #[Value.int .i64 (m : Int)] 3)) := (Below.refl _ _).alloc (Nat.le_refl _) _
    have G_b_5 := Lib.hid (G_b_4.out.below hbl (Nat.le_refl _))
    have G_c_5 := Lib.hid (G_c_4.out.below hbl (Nat.le_refl _))
    have G_d_5 := Lib.hid (G_d_4.out.below hbl (Nat.le_refl _))
    have HT_5 := Lib.hid (HT_4.out.below hbl (Nat.le_refl _))
    have HB_5 := Lib.hid (HB_4.out.trans (hbl.mono HB_4.out.size))
    clear hbl
    refine (rmake_any _ _ 1 [m] _ rfl (by omega) (asc_one m) (fun y hy => by rw [List.mem_singleton.1 hy]; omega) (ints_one (alloc_head _ _ _))).mono ?_
    rintro e w6 ⟨v5, ms, rfl, hown5, hset, hbn⟩
    obtain ⟨a_m, c_m, rfl, gn⟩ := hown5.good (hset.len fun y hy => by rw [List.mem_singleton.1 hy]; omega) hset.wf
    have HE := Lib.hid (union_one (G_b_0.out.wf) Hcs.out hset)
    have G_m_6 := Lib.hid gn
    have G_b_6 := Lib.hid (G_b_5.out.below hbn (Nat.le_refl _))
    have G_c_6 := Lib.hid (G_c_5.out.below hbn (Nat.le_refl _))
    have G_d_6 := Lib.hid (G_d_5.out.below hbn (Nat.le_refl _))
    have HT_6 := Lib.hid (HT_5.out.below hbn (Nat.le_refl _))
    have HB_6 := Lib.hid (HB_5.out.trans (hbn.mono HB_5.out.size))
    clear gn hown5 hset hbn
    go_wp2_with fail
    refine (runion_at (HE.out) G_b_6.out G_m_6.out).mono ?_
    rintro e w7 ⟨a_u, c_u, rfl, gn, hbn⟩
    have G_u_7 := Lib.hid gn
    have G_b_7 := Lib.hid (G_b_6.out.below hbn (Nat.le_refl _))
    have G_c_7 := Lib.hid (G_c_6.out.below hbn (Nat.le_refl _))
    have G_d_7 := Lib.hid (G_d_6.out.below hbn (Nat.le_refl _))
    have HT_7 := Lib.hid (HT_6.out.below hbn (Nat.le_refl _))
    have HB_7 := Lib.hid (HB_6.out.trans (hbn.mono HB_6.out.size))
    clear gn hbn
    go_wp2_with fail
    refine (requal_self G_c_7.out G_u_7.out).mono ?_
    rintro e w8 ⟨rfl, hdn⟩
    have hbn := hdn.below w7.heap.size
    have G_b_8 := Lib.hid (G_b_7.out.below hbn (Nat.le_refl _))
    have G_d_8 := Lib.hid (G_d_7.out.below hbn (Nat.le_refl _))
    have HT_8 := Lib.hid (HT_7.out.below hbn (Nat.le_refl _))
    have HB_8 := Lib.hid (HB_7.out.trans (hbn.mono HB_7.out.size))
    clear hbn hdn
    go_wp2_with fail
    refine (rdrop_g (Hds.out) G_b_8.out).mono ?_
    rintro e w9 ⟨a_e, c_e, rfl, gn, hbn⟩
    have G_e_9 := Lib.hid gn
    have G_b_9 := Lib.hid (G_b_8.out.below hbn (Nat.le_refl _))
    have G_d_9 := Lib.hid (G_d_8.out.below hbn (Nat.le_refl _))
    have HT_9 := Lib.hid (HT_8.out.below hbn (Nat.le_refl _))
    have HB_9 := Lib.hid (HB_8.out.trans (hbn.mono HB_8.out.size))
    clear gn hbn
    go_wp2_with fail
    refine (requal_self G_d_9.out G_e_9.out).mono ?_
    rintro e w10 ⟨rfl, hdn⟩
    have hbn := hdn.below w9.heap.size
    have G_b_10 := Lib.hid (G_b_9.out.below hbn (Nat.le_refl _))
    have HT_10 := Lib.hid (HT_9.out.below hbn (Nat.le_refl _))
    have HB_10 := Lib.hid (HB_9.out.trans (hbn.mono HB_9.out.size))
    clear hbn hdn
    go_wp2_with fail
    refine (awake_any _ HT_10.out).mono ?_
    rintro e wz ⟨rfl, hbz⟩
    go_wp2_with fail
    go_ret
    exact ⟨rfl, HB_10.out.trans (hbz.mono HB_10.out.size)⟩

set_option maxHeartbeats 800000 in
theorem changes_any (b : Option Addr) (cb : Nat) (wb : List Nat) (x y : Int) (w : World)
    (h1 : wb.length ≤ cb ∧ cb ≤ maxLen ∧ Wf wb) (g1 : Words w b wb) (hx : (Lit.int .i64 x).wf = true) (hy : (Lit.int .i64 y).wf = true) (hT : Tz w) :
    Calls Tryd.prog 6 #[.slice b wb.length cb, .int .i64 x, .int .i64 y] w fun e w' => e = .returned (.bool true) ∧ Below w.heap.size w w' := by
  have bx := Go.bounds_i64 hx
  have hy2 := Go.bounds_i64 hy
  clear hx hy
  by_cases hs : wb.length ≤ 1100
  · have hg : Good w b cb wb := ⟨hs, h1.1, h1.2.1, h1.2.2, g1⟩
    by_cases hbad : x < 0 ∨ 65536 ≤ x
    · exact changes_bad x y bx hbad hg hT
    · obtain ⟨m, rfl⟩ : ∃ m : Nat, x = m := ⟨x.toNat, by omega⟩
      exact changes_good m y (by omega) hy2 hg hT
  · have HT := Lib.hid hT
    have l1 := h1.1
    have m1 := h1.2.1
    unfold maxLen at m1
    have c1 : 1100 < wb.length := by omega
    clear h1 g1 hT hs
    go_enter Tryd.func6, Tryd.ntmps6
    go_wp2_with (go_at_call 10; refine (awake_any _ HT.out).mono ?_; rintro e w' ⟨rfl, hb⟩)
    go_ret
    exact ⟨rfl, hb⟩
end Go.Proofs.YtggkhbjhhglbbaaDoor
