/-
  container/heap at a heap of nodes: sifting down.
-/
import Derived.Test.YtopbbihbpalnlaaSHeapU
namespace Go.Proofs.Ytopbbihbpalnlaa
open Go.RowKit
set_option linter.unusedVariables false
set_option maxRecDepth 100000
theorem kids {c k : Nat} (h : pa c = k) (h0 : 0 < c) : c = 2 * k + 1 ∨ c = 2 * k + 2 := by unfold pa at h; omega
theorem kid1 (k : Nat) : pa (2 * k + 1) = k := by unfold pa; omega
theorem kid2 (k : Nat) : pa (2 * k + 2) = k := by unfold pa; omega
def DownEnd (w : World) (base H n : Nat) (u : Value) (ys : List Int) (e : Ending) (w' : World) : Prop := ∃ (b : Bool) (zs : List Int), e = .returned (.bool b) ∧ zs.Perm ys ∧ HPn zs n ∧ (∀ k, n ≤ k → zs.getD k 0 = ys.getD k 0) ∧ HB w' base H u zs ∧ G2 w w' H u.ownBlock
set_option maxHeartbeats 4000000 in
theorem down_any (base H n : Nat) (u : Value) (ys : List Int) (w : World) (hb : HB w base H u ys) (hn : n < ys.length) (hl : ys.length ≤ 100000) (hd : DnI ys n 0) :
    Calls Try.prog 64 #[.iface 64 (.pointer (some ⟨H, 0, none⟩)), .int .i64 0, .int .i64 (n : Int)] w (DownEnd w base H n u ys) := by
  obtain ⟨g, cap, rfl⟩ := own_slice hb.own (by omega)
  obtain ⟨m, hm⟩ : ∃ m, ys.length = m := ⟨_, rfl⟩
  rw [hm] at hb hn hl ⊢
  have hst : Hid (∃ zs : List Int, zs.length = m ∧ zs.Perm ys ∧ DnI zs n 0 ∧ (∀ k, n ≤ k → zs.getD k 0 = ys.getD k 0) ∧ HB w base H (.slice (some ⟨g, 0, none⟩) m cap) zs ∧ G2 w w H (some g)) := ⟨ys, hm, List.Perm.refl _, hd, fun _ _ => rfl, hb, G2.refl _ _ _⟩
  clear hb hd hm
  go_enter Try.func64, Try.ntmps64
  go_wp2
  go_loopw [7] (fun x W => ∃ k : Nat, x = .int .i64 k ∧ (k = 0 ∨ k < n) ∧ Hid (∃ zs : List Int, zs.length = m ∧ zs.Perm ys ∧ DnI zs n k ∧ (∀ k, n ≤ k → zs.getD k 0 = ys.getD k 0) ∧ HB W base H (.slice (some ⟨g, 0, none⟩) m cap) zs ∧ G2 w W H (some g))) (fun x _ => m - (intOf x).toNat)
  case atStart => exact ⟨0, rfl, .inl rfl, hst⟩
  case round =>
    obtain ⟨k, rfl, hk, hz⟩ := hrel
    by_cases h0 : n ≤ 2 * k + 1
    · go_wp2
      go_ret
      obtain ⟨zs, z1, z2, z3, z4, z5, z6⟩ := hz.out
      exact ⟨_, zs, rfl, z2, z3.stop (fun c c0 cn cp => by have := kids cp c0; omega), z4, z5, z6⟩
    · obtain ⟨zs, z1, z2, z3, z4, z5, z6⟩ := hz.out
      have H1 := Lib.hid z1
      have H2 := Lib.hid z2
      have H3 := Lib.hid z3
      have H4 := Lib.hid z4
      have H5 := Lib.hid z5
      have H6 := Lib.hid z6
      clear z1 z2 z3 z4 z5 z6 hz
      have hkm : k < m := by omega
      by_cases h2 : 2 * k + 2 < n
      · have hm0 := meth_less H wr _ H5.out.box.cell
        have hl0 := lfless_any base g cap (2 * k + 2) (2 * k + 1) zs wr ⟨by rw [H1.out]; exact H5.out.own⟩ (by rw [H1.out]; omega) (by rw [H1.out]; omega)
        rw [H1.out, show ((2 * k + 2 : Nat) : Int) = 2 * (k : Int) + 1 + 1 by omega, show ((2 * k + 1 : Nat) : Int) = 2 * (k : Int) + 1 by omega] at hl0
        have Hl0 := Lib.hid hl0
        obtain ⟨t, ht⟩ : ∃ t, decide (zs.getD (2 * k + 2) 0 < zs.getD (2 * k + 1) 0) = t := ⟨_, rfl⟩
        have Ht := Lib.hid ht
        rw [ht] at Hl0
        clear hl0 ht
        go_wp2_with fail
        refine Hl0.out.mono ?_
        rintro e w1 ⟨rfl, kk, rfl⟩
        clear hm0
        cases t with
        | true =>
          have hmin : Hid (∀ c, 0 < c → c < n → pa c = k → zs.getD (2 * k + 2) 0 ≤ zs.getD c 0) := fun c c0 cn cp => by
            have h9 := Ht.out
            simp only [decide_eq_true_eq] at h9
            rcases kids cp c0 with e | e
            · rw [e]; omega
            · rw [e]; exact Int.le_refl _
          have H6' : Hid (G2 w (wr.drewN kk) H (some g)) := ⟨H6.out.os, H6.out.tape, H6.out.output, H6.out.size, H6.out.block⟩
          have hm1 := meth_less H (wr.drewN kk) _ H5.out.box.cell
          have hl1 := lfless_any base g cap (2 * k + 2) k zs ((wr.drewN kk)) ⟨by rw [H1.out]; exact H5.out.own⟩ (by rw [H1.out]; omega) (by rw [H1.out]; omega)
          rw [H1.out, show ((2 * k + 2 : Nat) : Int) = 2 * (k : Int) + 1 + 1 by omega] at hl1
          have Hl1 := Lib.hid hl1
          obtain ⟨t2, ht2⟩ : ∃ t2, decide (zs.getD (2 * k + 2) 0 < zs.getD k 0) = t2 := ⟨_, rfl⟩
          have Ht2 := Lib.hid ht2
          rw [ht2] at Hl1
          clear hl1 ht2
          go_wp2_with fail
          refine Hl1.out.mono ?_
          rintro e w1 ⟨rfl, kk2, rfl⟩
          cases t2 with
          | false =>
            go_wp2
            go_ret
            have h9 := Ht2.out
            simp only [decide_eq_false_iff_not] at h9
            exact ⟨_, zs, rfl, H2.out, H3.out.stop (fun c c0 cn cp => by have := hmin.out c c0 cn cp; omega), H4.out, (HB.drewN H5.out _), ⟨H6'.out.os, H6'.out.tape, H6'.out.output, H6'.out.size, H6'.out.block⟩⟩
          | true =>
            have hm2 := meth_swap H (wr.drewN (kk + kk2)) _ H5.out.box.cell
            have hswap := swap_any base g cap k (2 * k + 2) zs (wr.drewN (kk + kk2)) ⟨by rw [H1.out]; exact H5.out.own⟩ (by rw [H1.out]; omega) (by rw [H1.out]; omega)
            rw [H1.out, show ((2 * k + 2 : Nat) : Int) = 2 * (k : Int) + 1 + 1 by omega] at hswap
            have Hswap := Lib.hid hswap
            clear hswap
            go_wp2_with fail
            refine Hswap.out.mono ?_
            rintro e w2 ⟨rfl, hr, hg⟩
            have hnew : Hid (∃ zs : List Int, zs.length = m ∧ zs.Perm ys ∧ DnI zs n (2 * k + 2) ∧ (∀ k, n ≤ k → zs.getD k 0 = ys.getD k 0) ∧ HB w2 base H (.slice (some ⟨g, 0, none⟩) m cap) zs ∧ G2 w w2 H (some g)) := by
              have hlt := Ht2.out
              simp only [decide_eq_true_eq] at hlt
              have hkl : k < zs.length := by rw [H1.out]; exact hkm
              have hjl : 2 * k + 2 < zs.length := by rw [H1.out]; omega
              refine ⟨swp zs k (2 * k + 2), by rw [swp_len]; exact H1.out, (swp_perm hkl hjl).trans H2.out, H3.out.swap (by rw [H1.out]; omega) (by omega) (by omega) (kid2 k) hmin.out hlt, fun c hc => ?_, HB.swapped (H5.out.drewN _) hr (by rw [swp_len]; exact H1.out) hg, ?_⟩
              · rw [swp_at hkl hjl, if_neg (by omega), if_neg (by omega)]; exact H4.out c hc
              · exact (⟨H6'.out.os, H6'.out.tape, H6'.out.output, H6'.out.size, H6'.out.block⟩ : G2 w (wr.drewN (kk + kk2)) H (some g)).trans (u := .slice (some ⟨g, 0, none⟩) m cap) (G2.grown hg) (.inl rfl)
            clear hr hg
            go_wp2
            go_roundw
            case rel => exact ⟨2 * k + 2, by go_num, by omega, hnew⟩
            case measure => simp [intOf]; omega
        | false =>
          have hmin : Hid (∀ c, 0 < c → c < n → pa c = k → zs.getD (2 * k + 1) 0 ≤ zs.getD c 0) := fun c c0 cn cp => by
            have h9 := Ht.out
            simp only [decide_eq_false_iff_not] at h9
            rcases kids cp c0 with e | e
            · rw [e]; exact Int.le_refl _
            · rw [e]; omega
          have H6' : Hid (G2 w (wr.drewN kk) H (some g)) := ⟨H6.out.os, H6.out.tape, H6.out.output, H6.out.size, H6.out.block⟩
          have hm1 := meth_less H (wr.drewN kk) _ H5.out.box.cell
          have hl1 := lfless_any base g cap (2 * k + 1) k zs ((wr.drewN kk)) ⟨by rw [H1.out]; exact H5.out.own⟩ (by rw [H1.out]; omega) (by rw [H1.out]; omega)
          rw [H1.out, show ((2 * k + 1 : Nat) : Int) = 2 * (k : Int) + 1 by omega] at hl1
          have Hl1 := Lib.hid hl1
          obtain ⟨t2, ht2⟩ : ∃ t2, decide (zs.getD (2 * k + 1) 0 < zs.getD k 0) = t2 := ⟨_, rfl⟩
          have Ht2 := Lib.hid ht2
          rw [ht2] at Hl1
          clear hl1 ht2
          go_wp2_with fail
          refine Hl1.out.mono ?_
          rintro e w1 ⟨rfl, kk2, rfl⟩
          cases t2 with
          | false =>
            go_wp2
            go_ret
            have h9 := Ht2.out
            simp only [decide_eq_false_iff_not] at h9
            exact ⟨_, zs, rfl, H2.out, H3.out.stop (fun c c0 cn cp => by have := hmin.out c c0 cn cp; omega), H4.out, (HB.drewN H5.out _), ⟨H6'.out.os, H6'.out.tape, H6'.out.output, H6'.out.size, H6'.out.block⟩⟩
          | true =>
            have hm2 := meth_swap H (wr.drewN (kk + kk2)) _ H5.out.box.cell
            have hswap := swap_any base g cap k (2 * k + 1) zs (wr.drewN (kk + kk2)) ⟨by rw [H1.out]; exact H5.out.own⟩ (by rw [H1.out]; omega) (by rw [H1.out]; omega)
            rw [H1.out, show ((2 * k + 1 : Nat) : Int) = 2 * (k : Int) + 1 by omega] at hswap
            have Hswap := Lib.hid hswap
            clear hswap
            go_wp2_with fail
            refine Hswap.out.mono ?_
            rintro e w2 ⟨rfl, hr, hg⟩
            have hnew : Hid (∃ zs : List Int, zs.length = m ∧ zs.Perm ys ∧ DnI zs n (2 * k + 1) ∧ (∀ k, n ≤ k → zs.getD k 0 = ys.getD k 0) ∧ HB w2 base H (.slice (some ⟨g, 0, none⟩) m cap) zs ∧ G2 w w2 H (some g)) := by
              have hlt := Ht2.out
              simp only [decide_eq_true_eq] at hlt
              have hkl : k < zs.length := by rw [H1.out]; exact hkm
              have hjl : 2 * k + 1 < zs.length := by rw [H1.out]; omega
              refine ⟨swp zs k (2 * k + 1), by rw [swp_len]; exact H1.out, (swp_perm hkl hjl).trans H2.out, H3.out.swap (by rw [H1.out]; omega) (by omega) (by omega) (kid1 k) hmin.out hlt, fun c hc => ?_, HB.swapped (H5.out.drewN _) hr (by rw [swp_len]; exact H1.out) hg, ?_⟩
              · rw [swp_at hkl hjl, if_neg (by omega), if_neg (by omega)]; exact H4.out c hc
              · exact (⟨H6'.out.os, H6'.out.tape, H6'.out.output, H6'.out.size, H6'.out.block⟩ : G2 w (wr.drewN (kk + kk2)) H (some g)).trans (u := .slice (some ⟨g, 0, none⟩) m cap) (G2.grown hg) (.inl rfl)
            clear hr hg
            go_wp2
            go_roundw
            case rel => exact ⟨2 * k + 1, by go_num, by omega, hnew⟩
            case measure => simp [intOf]; omega
      · have hmin : Hid (∀ c, 0 < c → c < n → pa c = k → zs.getD (2 * k + 1) 0 ≤ zs.getD c 0) := fun c c0 cn cp => by
          rcases kids cp c0 with e | e
          · rw [e]; exact Int.le_refl _
          · omega
        have H6' := H6
        have hm1 := meth_less H wr _ H5.out.box.cell
        have hl1 := lfless_any base g cap (2 * k + 1) k zs (wr) ⟨by rw [H1.out]; exact H5.out.own⟩ (by rw [H1.out]; omega) (by rw [H1.out]; omega)
        rw [H1.out, show ((2 * k + 1 : Nat) : Int) = 2 * (k : Int) + 1 by omega] at hl1
        have Hl1 := Lib.hid hl1
        obtain ⟨t2, ht2⟩ : ∃ t2, decide (zs.getD (2 * k + 1) 0 < zs.getD k 0) = t2 := ⟨_, rfl⟩
        have Ht2 := Lib.hid ht2
        rw [ht2] at Hl1
        clear hl1 ht2
        go_wp2_with fail
        refine Hl1.out.mono ?_
        rintro e w1 ⟨rfl, kk2, rfl⟩
        cases t2 with
        | false =>
          go_wp2
          go_ret
          have h9 := Ht2.out
          simp only [decide_eq_false_iff_not] at h9
          exact ⟨_, zs, rfl, H2.out, H3.out.stop (fun c c0 cn cp => by have := hmin.out c c0 cn cp; omega), H4.out, (HB.drewN H5.out _), ⟨H6'.out.os, H6'.out.tape, H6'.out.output, H6'.out.size, H6'.out.block⟩⟩
        | true =>
          have hm2 := meth_swap H ((wr).drewN kk2) _ H5.out.box.cell
          have hswap := swap_any base g cap k (2 * k + 1) zs ((wr).drewN kk2) ⟨by rw [H1.out]; exact H5.out.own⟩ (by rw [H1.out]; omega) (by rw [H1.out]; omega)
          rw [H1.out, show ((2 * k + 1 : Nat) : Int) = 2 * (k : Int) + 1 by omega] at hswap
          have Hswap := Lib.hid hswap
          clear hswap
          go_wp2_with fail
          refine Hswap.out.mono ?_
          rintro e w2 ⟨rfl, hr, hg⟩
          have hnew : Hid (∃ zs : List Int, zs.length = m ∧ zs.Perm ys ∧ DnI zs n (2 * k + 1) ∧ (∀ k, n ≤ k → zs.getD k 0 = ys.getD k 0) ∧ HB w2 base H (.slice (some ⟨g, 0, none⟩) m cap) zs ∧ G2 w w2 H (some g)) := by
            have hlt := Ht2.out
            simp only [decide_eq_true_eq] at hlt
            have hkl : k < zs.length := by rw [H1.out]; exact hkm
            have hjl : 2 * k + 1 < zs.length := by rw [H1.out]; omega
            refine ⟨swp zs k (2 * k + 1), by rw [swp_len]; exact H1.out, (swp_perm hkl hjl).trans H2.out, H3.out.swap (by rw [H1.out]; omega) (by omega) (by omega) (kid1 k) hmin.out hlt, fun c hc => ?_, HB.swapped (H5.out.drewN _) hr (by rw [swp_len]; exact H1.out) hg, ?_⟩
            · rw [swp_at hkl hjl, if_neg (by omega), if_neg (by omega)]; exact H4.out c hc
            · exact (⟨H6'.out.os, H6'.out.tape, H6'.out.output, H6'.out.size, H6'.out.block⟩ : G2 w ((wr).drewN kk2) H (some g)).trans (u := .slice (some ⟨g, 0, none⟩) m cap) (G2.grown hg) (.inl rfl)
          clear hr hg
          go_wp2
          go_roundw
          case rel => exact ⟨2 * k + 1, by go_num, by omega, hnew⟩
          case measure => simp [intOf]; omega
end Go.Proofs.Ytopbbihbpalnlaa
