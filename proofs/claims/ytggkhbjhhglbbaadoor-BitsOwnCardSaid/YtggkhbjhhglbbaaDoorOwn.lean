/-
  BitsOwn: the walk of the law.
-/
import Derived.Test.YtggkhbjhhglbbaaDoorWr
import Derived.OpenShut
namespace Go.Proofs.YtggkhbjhhglbbaaDoor
open Go.RowKit Go.WideShapes
set_option linter.unusedVariables false

set_option maxHeartbeats 6400000 in
set_option maxRecDepth 100000 in
theorem own_small {a : Option Addr} {ca : Nat} {wa : List Nat} {b : Option Addr} {cb : Nat} {wb : List Nat} {w : World} (x : Int) (hx : -9223372036854775808 ≤ x ∧ x ≤ 9223372036854775807)
    (ga : Good w a ca wa) (na : a = none → ca = 0) (gb : Good w b cb wb) (nb : b = none → cb = 0) (hT : Tz w) :
    Calls Tryd.prog 9 #[.slice a wa.length ca, .slice b wb.length cb, .int .i64 x] w fun e w' => e = .returned (.bool true) ∧ Below w.heap.size w w' := by
  have la := ga.len
  have lb := gb.len
  have hx2 := hx.2
  have Na := Lib.hid na
  have Nb := Lib.hid nb
  have Fa := Lib.hid ga.wf
  have Fb := Lib.hid gb.wf
  have G_a_0 := Lib.hid ga
  have G_b_0 := Lib.hid gb
  have HT_0 := Lib.hid hT
  clear ga gb hT na nb
  go_enter Tryd.func9, Tryd.ntmps9
  have hb0 : Below w.heap.size w (w.alloc (Obj.cells #[] 54)) := (Below.refl _ _).alloc (Nat.le_refl _) _
  have HB_0 := Lib.hid hb0
  have G_a_1 := Lib.hid (G_a_0.out.below hb0 (Nat.le_refl _))
  clear hb0
  go_wp2_with (at_builtin; refine wpList_append_words rfl _ _ rfl w.heap.size w.heap.size rfl (World.ownsRow_made w #[] 0 (Nat.le_refl _) (by unfold maxLen; omega) rfl) a ca wa rfl G_a_1.out.words Na.out la ?_ ?_)
  · simp
  intro vp w1 hop hgp
  obtain ⟨ap, cp, rfl, gp⟩ := hop.good la Fa.out
  have hb1 : Below w.heap.size w w1 := HB_0.out.grown hgp (by simp) (fun k hk => by cases hk; exact Nat.le_refl _)
  have HB_1 := Lib.hid hb1
  have G_p_1 := Lib.hid gp
  have K_a := Lib.hid (G_a_0.out.below hb1 (Nat.le_refl _))
  have K_b := Lib.hid (G_b_0.out.below hb1 (Nat.le_refl _))
  have K_T := Lib.hid (HT_0.out.below hb1 (Nat.le_refl _))
  have hb2 : Below w1.heap.size w1 (w1.alloc (Obj.cells #[] 54)) := (Below.refl _ _).alloc (Nat.le_refl _) _
  have HB_1b := Lib.hid hb2
  have K_b2 := Lib.hid (K_b.out.below hb2 (Nat.le_refl _))
  clear hop hgp gp hb1 hb2
  go_wp2_with (at_builtin; refine wpList_append_words rfl _ _ rfl w1.heap.size w1.heap.size rfl (World.ownsRow_made w1 #[] 0 (Nat.le_refl _) (by unfold maxLen; omega) rfl) b cb wb rfl K_b2.out.words Nb.out lb ?_ ?_)
  · simp
  intro vq w2 hoq hgq
  obtain ⟨aq, cq, rfl, gq⟩ := hoq.good lb Fb.out
  have hb2 : Below w1.heap.size w1 w2 := HB_1b.out.grown hgq (by simp) (fun k hk => by cases hk; exact Nat.le_refl _)
  have HB_2 := Lib.hid (HB_1.out.trans (hb2.mono HB_1.out.size))
  have G_q_2 := Lib.hid gq
  have G_p_2 := Lib.hid (G_p_1.out.below hb2 (Nat.le_refl _))
  have G_a_2 := Lib.hid (K_a.out.below hb2 (Nat.le_refl _))
  have G_b_2 := Lib.hid (K_b.out.below hb2 (Nat.le_refl _))
  have HT_2 := Lib.hid (K_T.out.below hb2 (Nat.le_refl _))
  clear hoq hgq gq hb2
  have HL_2 := Lib.hid (Nat.le_refl w2.heap.size)
  have HP_2 := Lib.hid (Below.refl w2.heap.size w2)
  go_wp2_with fail
  refine (union_w G_p_2.out G_q_2.out).mono ?_
  rintro e w3 ⟨v_u, rfl, gn, hbn⟩
  obtain ⟨o_u, n_u, c_u, rfl⟩ := gn.shape
  have gn2 := gn.base HL_2.out
  have G_u_3 := Lib.hid gn2
  have hsz := hbn.size
  have G_a_3 := Lib.hid (G_a_2.out.below hbn (Nat.le_refl _))
  have G_b_3 := Lib.hid (G_b_2.out.below hbn (Nat.le_refl _))
  have G_p_3 := Lib.hid (G_p_2.out.below hbn (Nat.le_refl _))
  have G_q_3 := Lib.hid (G_q_2.out.below hbn (Nat.le_refl _))
  have HT_3 := Lib.hid (HT_2.out.below hbn (Nat.le_refl _))
  have HB_3 := Lib.hid (HB_2.out.trans (hbn.mono HB_2.out.size))
  have HP_3 := Lib.hid (HP_2.out.trans (hbn.mono HL_2.out))
  have HL_3 := Lib.hid (Nat.le_trans HL_2.out hsz)
  clear gn gn2 hbn hsz
  go_wp2_with fail
  refine (minus_w G_p_3.out G_q_3.out).mono ?_
  rintro e w4 ⟨v_m, rfl, gn, hbn⟩
  obtain ⟨o_m, n_m, c_m, rfl⟩ := gn.shape
  have gn2 := gn.base HL_3.out
  have G_m_4 := Lib.hid gn2
  have hsz := hbn.size
  have G_a_4 := Lib.hid (G_a_3.out.below hbn (Nat.le_refl _))
  have G_b_4 := Lib.hid (G_b_3.out.below hbn (Nat.le_refl _))
  have G_p_4 := Lib.hid (G_p_3.out.below hbn (Nat.le_refl _))
  have G_q_4 := Lib.hid (G_q_3.out.below hbn (Nat.le_refl _))
  have G_u_4 := Lib.hid (G_u_3.out.below hbn (Nat.le_refl _))
  have HT_4 := Lib.hid (HT_3.out.below hbn (Nat.le_refl _))
  have HB_4 := Lib.hid (HB_3.out.trans (hbn.mono HB_3.out.size))
  have HP_4 := Lib.hid (HP_3.out.trans (hbn.mono HL_3.out))
  have HL_4 := Lib.hid (Nat.le_trans HL_3.out hsz)
  clear gn gn2 hbn hsz
  go_wp2_with fail
  refine (both_w G_p_4.out G_q_4.out).mono ?_
  rintro e w5 ⟨v_i, rfl, gn, hbn⟩
  obtain ⟨o_i, n_i, c_i, rfl⟩ := gn.shape
  have gn2 := gn.base HL_4.out
  have G_i_5 := Lib.hid gn2
  have hsz := hbn.size
  have G_a_5 := Lib.hid (G_a_4.out.below hbn (Nat.le_refl _))
  have G_b_5 := Lib.hid (G_b_4.out.below hbn (Nat.le_refl _))
  have G_p_5 := Lib.hid (G_p_4.out.below hbn (Nat.le_refl _))
  have G_q_5 := Lib.hid (G_q_4.out.below hbn (Nat.le_refl _))
  have G_u_5 := Lib.hid (G_u_4.out.below hbn (Nat.le_refl _))
  have G_m_5 := Lib.hid (G_m_4.out.below hbn (Nat.le_refl _))
  have HT_5 := Lib.hid (HT_4.out.below hbn (Nat.le_refl _))
  have HB_5 := Lib.hid (HB_4.out.trans (hbn.mono HB_4.out.size))
  have HP_5 := Lib.hid (HP_4.out.trans (hbn.mono HL_4.out))
  have HL_5 := Lib.hid (Nat.le_trans HL_4.out hsz)
  clear gn gn2 hbn hsz
  go_wp2_with fail
  refine (without_w hx2 G_p_5.out).mono ?_
  rintro e w6 ⟨v_d, rfl, gn, hbn⟩
  obtain ⟨o_d, n_d, c_d, rfl⟩ := gn.shape
  have gn2 := gn.base HL_5.out
  have G_d_6 := Lib.hid gn2
  have hsz := hbn.size
  have G_a_6 := Lib.hid (G_a_5.out.below hbn (Nat.le_refl _))
  have G_b_6 := Lib.hid (G_b_5.out.below hbn (Nat.le_refl _))
  have G_p_6 := Lib.hid (G_p_5.out.below hbn (Nat.le_refl _))
  have G_q_6 := Lib.hid (G_q_5.out.below hbn (Nat.le_refl _))
  have G_u_6 := Lib.hid (G_u_5.out.below hbn (Nat.le_refl _))
  have G_m_6 := Lib.hid (G_m_5.out.below hbn (Nat.le_refl _))
  have G_i_6 := Lib.hid (G_i_5.out.below hbn (Nat.le_refl _))
  have HT_6 := Lib.hid (HT_5.out.below hbn (Nat.le_refl _))
  have HB_6 := Lib.hid (HB_5.out.trans (hbn.mono HB_5.out.size))
  have HP_6 := Lib.hid (HP_5.out.trans (hbn.mono HL_5.out))
  have HL_6 := Lib.hid (Nat.le_trans HL_5.out hsz)
  clear gn gn2 hbn hsz
  go_wp2_with fail
  have hbl : Below w6.heap.size w6 (w6.alloc (Obj.cells #[(.slice o_u n_u c_u), (.slice o_m n_m c_m), (.slice o_i n_i c_i), (.slice o_d n_d c_d)] 22)) := (Below.refl _ _).alloc (Nat.le_refl _) _
  have hsz := hbl.size
  have G_a_7 := Lib.hid (G_a_6.out.below hbl (Nat.le_refl _))
  have G_b_7 := Lib.hid (G_b_6.out.below hbl (Nat.le_refl _))
  have G_p_7 := Lib.hid (G_p_6.out.below hbl (Nat.le_refl _))
  have G_q_7 := Lib.hid (G_q_6.out.below hbl (Nat.le_refl _))
  have G_u_7 := Lib.hid (G_u_6.out.below hbl (Nat.le_refl _))
  have G_m_7 := Lib.hid (G_m_6.out.below hbl (Nat.le_refl _))
  have G_i_7 := Lib.hid (G_i_6.out.below hbl (Nat.le_refl _))
  have G_d_7 := Lib.hid (G_d_6.out.below hbl (Nat.le_refl _))
  have HT_7 := Lib.hid (HT_6.out.below hbl (Nat.le_refl _))
  have HB_7 := Lib.hid (HB_6.out.trans (hbl.mono HB_6.out.size))
  have HP_7 := Lib.hid (HP_6.out.trans (hbl.mono HL_6.out))
  have HL_7 := Lib.hid (Nat.le_trans HL_6.out hsz)
  clear hsz
  have R_7 := Lib.hid (rowS_made w6 (.slice o_u n_u c_u) (.slice o_m n_m c_m) (.slice o_i n_i c_i) (.slice o_d n_d c_d))
  clear hbl
  refine (with_w hx2 G_p_7.out).mono ?_
  rintro e w8 ⟨v_w, er, rfl, gn, hbn⟩
  obtain ⟨o_w, n_w, c_w, rfl⟩ := gn.shape
  have gn2 := gn.base HL_7.out
  have G_w_8 := Lib.hid gn2
  have hsz := hbn.size
  have R2_8 := Lib.hid (R_7.out.below hbn (Nat.le_refl _))
  have G_a_8 := Lib.hid (G_a_7.out.below hbn (Nat.le_refl _))
  have G_b_8 := Lib.hid (G_b_7.out.below hbn (Nat.le_refl _))
  have G_p_8 := Lib.hid (G_p_7.out.below hbn (Nat.le_refl _))
  have G_q_8 := Lib.hid (G_q_7.out.below hbn (Nat.le_refl _))
  have G_u_8 := Lib.hid (G_u_7.out.below hbn (Nat.le_refl _))
  have G_m_8 := Lib.hid (G_m_7.out.below hbn (Nat.le_refl _))
  have G_i_8 := Lib.hid (G_i_7.out.below hbn (Nat.le_refl _))
  have G_d_8 := Lib.hid (G_d_7.out.below hbn (Nat.le_refl _))
  have HT_8 := Lib.hid (HT_7.out.below hbn (Nat.le_refl _))
  have HB_8 := Lib.hid (HB_7.out.trans (hbn.mono HB_7.out.size))
  have HP_8 := Lib.hid (HP_7.out.trans (hbn.mono HL_7.out))
  have HL_8 := Lib.hid (Nat.le_trans HL_7.out hsz)
  clear gn gn2 hbn hsz
  have hbl : Below w8.heap.size w8 (w8.alloc (Obj.cells #[(.slice o_w n_w c_w)] 22)) := (Below.refl _ _).alloc (Nat.le_refl _) _
  have HBL := Lib.hid hbl
  have A_a := Lib.hid (G_a_8.out.below hbl (Nat.le_refl _))
  have A_b := Lib.hid (G_b_8.out.below hbl (Nat.le_refl _))
  have A_p := Lib.hid (G_p_8.out.below hbl (Nat.le_refl _))
  have A_q := Lib.hid (G_q_8.out.below hbl (Nat.le_refl _))
  have A_u := Lib.hid (G_u_8.out.below hbl (Nat.le_refl _))
  have A_m := Lib.hid (G_m_8.out.below hbl (Nat.le_refl _))
  have A_i := Lib.hid (G_i_8.out.below hbl (Nat.le_refl _))
  have A_d := Lib.hid (G_d_8.out.below hbl (Nat.le_refl _))
  have A_w := Lib.hid (G_w_8.out.below hbl (Nat.le_refl _))
  have A_R := Lib.hid (R2_8.out.below hbl (Nat.le_refl _))
  have A_T := Lib.hid (HT_8.out.below hbl (Nat.le_refl _))
  have hsz := hbl.size
  have HLA := Lib.hid (Nat.le_trans HL_8.out hsz)
  clear hbl hsz
  go_wp2_with (at_builtin; go_loud (refine wpList_append_res rfl _ _ rfl w6.heap.size w6.heap.size 4 [(.slice o_u n_u c_u), (.slice o_m n_m c_m), (.slice o_i n_i c_i), (.slice o_d n_d c_d)] rfl A_R.out w8.heap.size (.slice o_w n_w c_w) rfl (alloc_headV _ _ _) A_w.out.one (by simp) ?_ ?_))
  · exact Nat.le_of_lt (World.ownsRow.lt A_R.out _ rfl).2
  intro G cap w9 hR hgr
  have hb9 : Below w2.heap.size w2 w9 := (HP_8.out.trans (HBL.out.mono HL_8.out)).grown hgr HLA.out (fun k hk => by cases hk; exact HL_6.out)
  have HB9 := Lib.hid hb9
  have V9 := Lib.hid (show ∀ v ∈ [Value.slice o_u n_u c_u, .slice o_m n_m c_m, .slice o_i n_i c_i, .slice o_d n_d c_d, .slice o_w n_w c_w], WrV w9 w2.heap.size v from fun v hv => by
    simp only [List.mem_cons, List.not_mem_nil, or_false] at hv
    rcases hv with rfl | rfl | rfl | rfl | rfl
    · exact A_u.out.kept hgr A_R.out
    · exact A_m.out.kept hgr A_R.out
    · exact A_i.out.kept hgr A_R.out
    · exact A_d.out.kept hgr A_R.out
    · exact A_w.out.kept hgr A_R.out)
  obtain ⟨vs, hvs⟩ : ∃ vs, [Value.slice o_u n_u c_u, .slice o_m n_m c_m, .slice o_i n_i c_i, .slice o_d n_d c_d, .slice o_w n_w c_w] = vs := ⟨_, rfl⟩
  have hlen : vs.length = 5 := by rw [← hvs]; rfl
  rw [hvs] at hR V9
  have Hlen := Lib.hid hlen
  have HR9 := Lib.hid hR
  clear hR hgr hb9 hvs hlen
  go_wp2
  go_loopw [12] (fun ii wr => ∃ i : Nat, i ≤ 5 ∧ ii = .int .i64 i ∧ RowS wr w6.heap.size G cap vs ∧ (∀ v ∈ vs, WrV wr w2.heap.size v) ∧ Below w2.heap.size w2 wr) (fun ii _ => 5 - (intOf ii).toNat)
  case atStart => exact ⟨0, by omega, rfl, HR9.out, V9.out, HB9.out⟩
  case round =>
    obtain ⟨i, hi, rfl, hR, hV, hb⟩ := hrel
    have HR := Lib.hid hR
    have HV := Lib.hid hV
    have Hb := Lib.hid hb
    clear hV hb
    by_cases hlt : i < 5
    · have ck := hR.cell (i := i) (by rw [Hlen.out]; exact hlt)
      obtain ⟨v, hv⟩ : ∃ v, vs[i]? = some v := ⟨_, List.getElem?_eq_getElem (by rw [Hlen.out]; exact hlt)⟩
      have hm : v ∈ vs := List.mem_of_getElem? hv
      rw [hv] at ck
      have Hv := Lib.hid hv
      clear hR hv
      rcases HV.out v hm with rfl | ⟨g, n, c, us, rfl, h1, h2, hr⟩
      · go_wp2
        go_loop [13] (fun kk => kk = .int .i64 0) (fun _ => 0)
        case atStart => rfl
        case round =>
          obtain rfl := hrel
          go_wp2
          go_roundw
          case rel => exact ⟨i + 1, by omega, by go_num, HR.out, HV.out, Hb.out⟩
          case measure => simp [intOf]; omega
      · clear h1 hr
        go_wp2
        go_loopw [13] (fun kk wq => ∃ k : Nat, k ≤ n ∧ kk = .int .i64 k ∧ RowS wq w6.heap.size G cap vs ∧ (∀ v ∈ vs, WrV wq w2.heap.size v) ∧ Below w2.heap.size w2 wq) (fun kk _ => n - (intOf kk).toNat)
        case atStart => exact ⟨0, Nat.zero_le _, rfl, HR.out, HV.out, Hb.out⟩
        case round =>
          obtain ⟨k, hk, rfl, hR2, hV2, hb2⟩ := hrel
          have ck2 := hR2.cell (i := i) (by rw [Hlen.out]; exact hlt)
          rw [Hv.out] at ck2
          have HR2 := Lib.hid hR2
          have HV2 := Lib.hid hV2
          have Hb2 := Lib.hid hb2
          clear hR2 hV2 hb2 ck
          by_cases hkn : k < n
          · rcases HV2.out _ hm with h0 | ⟨g2, n2, c2, us2, he, h3, h4, hr2⟩
            · cases h0
            · simp only [Value.slice.injEq, Option.some.injEq, Addr.mk.injEq, and_true] at he
              obtain ⟨rfl, rfl, rfl⟩ := he
              have cz := hr2.cell (i := k) (by omega)
              have fz := hr2.free k
              have hge := hr2.lt.1
              have hne := HR2.out.ne hr2
              generalize us2.getD k 0 = z at *
              clear hr2 h3
              go_wp2
              refine wp_region_tail 14 (by kernel_rfl) (by kernel_rfl) ?_
              simp only [List.take_succ_cons, List.take_zero, List.drop_succ_cons, List.drop_zero, World.drew_is_drewN]
              repeat still_step
              refine wpStill_nil ?_
              go_wp2
              go_roundw
              case rel => exact ⟨k + 1, by omega, by go_num, (HR2.out.drewN 1).store hne, fun v hv => ((HV2.out v hv).drewN 1).store, (Hb2.out.trans (Drawn.below ⟨1, rfl⟩ _)).setCell hge _⟩
              case measure => simp [intOf]; omega
          · go_wp2
            go_roundw
            case rel => exact ⟨i + 1, by omega, by go_num, HR2.out, HV2.out, Hb2.out⟩
            case measure => simp [intOf]; omega
    · have G_p_z := Lib.hid (G_p_2.out.below Hb.out (Nat.le_refl _))
      have G_a_z := Lib.hid (G_a_2.out.below Hb.out (Nat.le_refl _))
      have G_q_z := Lib.hid (G_q_2.out.below Hb.out (Nat.le_refl _))
      have G_b_z := Lib.hid (G_b_2.out.below Hb.out (Nat.le_refl _))
      have HT_z := Lib.hid (HT_2.out.below Hb.out (Nat.le_refl _))
      have HB_z := Lib.hid (HB_2.out.trans (Hb.out.mono HB_2.out.size))
      go_wp2_with fail
      refine (requal_self G_p_z.out G_a_z.out).mono ?_
      rintro e wy ⟨rfl, hdn⟩
      have hbn := hdn.below wr.heap.size
      have G_q_y := Lib.hid (G_q_z.out.below hbn (Nat.le_refl _))
      have G_b_y := Lib.hid (G_b_z.out.below hbn (Nat.le_refl _))
      have HT_y := Lib.hid (HT_z.out.below hbn (Nat.le_refl _))
      have HB_y := Lib.hid (HB_z.out.trans (hbn.mono HB_z.out.size))
      clear hdn hbn
      go_wp2_with fail
      refine (requal_self G_q_y.out G_b_y.out).mono ?_
      rintro e wx ⟨rfl, hdn⟩
      have hbn := hdn.below wy.heap.size
      have HT_x := Lib.hid (HT_y.out.below hbn (Nat.le_refl _))
      have HB_x := Lib.hid (HB_y.out.trans (hbn.mono HB_y.out.size))
      clear hdn hbn
      go_wp2_with fail
      refine (awake_any _ HT_x.out).mono ?_
      rintro e wz ⟨rfl, hbz⟩
      go_wp2_with fail
      go_ret
      exact ⟨rfl, HB_x.out.trans (hbz.mono HB_x.out.size)⟩

set_option maxHeartbeats 800000 in
theorem own_any (a : Option Addr) (ca : Nat) (wa : List Nat) (b : Option Addr) (cb : Nat) (wb : List Nat) (x : Int) (w : World)
    (h1 : wa.length ≤ ca ∧ ca ≤ maxLen ∧ Wf wa ∧ (a = none → ca = 0)) (g1 : Words w a wa) (h2 : wb.length ≤ cb ∧ cb ≤ maxLen ∧ Wf wb ∧ (b = none → cb = 0)) (g2 : Words w b wb) (hx : (Lit.int .i64 x).wf = true) (hT : Tz w) :
    Calls Tryd.prog 9 #[.slice a wa.length ca, .slice b wb.length cb, .int .i64 x] w fun e w' => e = .returned (.bool true) ∧ Below w.heap.size w w' := by
  by_cases hs : wa.length ≤ 1100 ∧ wb.length ≤ 1100
  · exact own_small x (Go.bounds_i64 hx) ⟨hs.1, h1.1, h1.2.1, h1.2.2.1, g1⟩ h1.2.2.2 ⟨hs.2, h2.1, h2.2.1, h2.2.2.1, g2⟩ h2.2.2.2 hT
  · have HT := Lib.hid hT
    have l1 := h1.1; have l2 := h2.1
    have m1 := h1.2.1; have m2 := h2.2.1
    unfold maxLen at m1 m2
    clear h1 h2 g1 g2 hT hx
    by_cases c1 : 1100 < wa.length
    · clear hs
      go_enter Tryd.func9, Tryd.ntmps9
      go_wp2_with (go_at_call 10; refine (awake_any _ HT.out).mono ?_; rintro e w' ⟨rfl, hb⟩)
      go_ret
      exact ⟨rfl, hb⟩
    · have c2 : 1100 < wb.length := by omega
      clear hs
      go_enter Tryd.func9, Tryd.ntmps9
      go_wp2_with (go_at_call 10; refine (awake_any _ HT.out).mono ?_; rintro e w' ⟨rfl, hb⟩)
      go_ret
      exact ⟨rfl, hb⟩
end Go.Proofs.YtggkhbjhhglbbaaDoor
