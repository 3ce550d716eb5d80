/-
  container/heap at a heap of nodes: sifting up.
-/
import Derived.Test.YtopbbihbpalnlaaSHeapB
import Derived.Test.YtopbbihbpalnlaaSHeapM
namespace Go.Proofs.Ytopbbihbpalnlaa
open Go.RowKit
set_option linter.unusedVariables false
set_option maxRecDepth 100000
theorem load_lf (H : Nat) (W : World) (u : Value) (h : W.cell? ⟨H, 0, none⟩ = some u) : (loadVar 62 ⟨H, 0, none⟩).run Try.prog W = .ok u W := by
  simp [go_sem, h]
theorem wnc (t : TypeId) (a : Addr) (x y : String) : Builtin.ssaWrapNilChk_ #[t] t #[.pointer (some a), strVal x, strVal y] = pure (.pointer (some a)) := rfl
theorem find_len : (Array.find? (fun x => x.name == "Len") Try.t64.methods).map (fun m => (m.path.toList, m.func)) = some ([], some (118, false)) := by kernel_rfl
theorem meth_len (H : Nat) (W : World) (u : Value) (h : W.cell? ⟨H, 0, none⟩ = some u) : (method 237 64 (.pointer (some ⟨H, 0, none⟩)) "Len").run Try.prog W = .ok (118, u) W := by
  obtain ⟨m, hm, hx⟩ := Option.map_eq_some_iff.mp find_len
  simp only [Prod.mk.injEq] at hx
  obtain ⟨hp, hf⟩ := hx
  have hl := load_lf H W u h
  rw [method]
  have hp2 : m.path = #[] := by rw [← Array.toList_eq_nil_iff]; exact hp
  simp [go_sem, hm, hf, hp2, follow, receiverAt, Place.get, wnc, h]
theorem find_less : (Array.find? (fun x => x.name == "Less") Try.t64.methods).map (fun m => (m.path.toList, m.func)) = some ([], some (119, false)) := by kernel_rfl
theorem meth_less (H : Nat) (W : World) (u : Value) (h : W.cell? ⟨H, 0, none⟩ = some u) : (method 237 64 (.pointer (some ⟨H, 0, none⟩)) "Less").run Try.prog W = .ok (119, u) W := by
  obtain ⟨m, hm, hx⟩ := Option.map_eq_some_iff.mp find_less
  simp only [Prod.mk.injEq] at hx
  obtain ⟨hp, hf⟩ := hx
  have hl := load_lf H W u h
  rw [method]
  have hp2 : m.path = #[] := by rw [← Array.toList_eq_nil_iff]; exact hp
  simp [go_sem, hm, hf, hp2, follow, receiverAt, Place.get, wnc, h]
theorem find_swap : (Array.find? (fun x => x.name == "Swap") Try.t64.methods).map (fun m => (m.path.toList, m.func)) = some ([], some (120, false)) := by kernel_rfl
theorem meth_swap (H : Nat) (W : World) (u : Value) (h : W.cell? ⟨H, 0, none⟩ = some u) : (method 237 64 (.pointer (some ⟨H, 0, none⟩)) "Swap").run Try.prog W = .ok (120, u) W := by
  obtain ⟨m, hm, hx⟩ := Option.map_eq_some_iff.mp find_swap
  simp only [Prod.mk.injEq] at hx
  obtain ⟨hp, hf⟩ := hx
  have hl := load_lf H W u h
  rw [method]
  have hp2 : m.path = #[] := by rw [← Array.toList_eq_nil_iff]; exact hp
  simp [go_sem, hm, hf, hp2, follow, receiverAt, Place.get, wnc, h]
theorem meth_push (H : Nat) (W : World) : (method 237 64 (.pointer (some ⟨H, 0, none⟩)) "Push").run Try.prog W = .ok (122, .pointer (some ⟨H, 0, none⟩)) W := by kernel_rfl
theorem meth_pop (H : Nat) (W : World) : (method 237 64 (.pointer (some ⟨H, 0, none⟩)) "Pop").run Try.prog W = .ok (121, .pointer (some ⟨H, 0, none⟩)) W := by kernel_rfl
theorem own_slice {w : World} {base : Nat} {u : Value} {ys : List Int} (h : Own w base u ys) (h0 : 0 < ys.length) : ∃ g cap, u = .slice (some ⟨g, 0, none⟩) ys.length cap := by
  rcases h.2 with ⟨_, h2⟩ | ⟨g0, cap0, cur, h1, _⟩
  · omega
  · exact ⟨g0, cap0, h1⟩
theorem HB.drewN {w : World} {base H : Nat} {u : Value} {ys : List Int} (h : HB w base H u ys) (n : Nat) : HB (w.drewN n) base H u ys := ⟨h.box, h.own, h.lt, h.sz⟩
theorem HB.swapped {w w' : World} {base H g cap n : Nat} {ys zs : List Int} (h : HB w base H (.slice (some ⟨g, 0, none⟩) n cap) ys) (hr : HR w' base g cap zs) (hn : zs.length = n) (hg : w.grownBy w' (some g)) : HB w' base H (.slice (some ⟨g, 0, none⟩) n cap) zs := by
  subst hn
  exact ⟨h.box.kept hg (h.box.not_row lf_ne h.own), hr.own, h.lt, Nat.le_trans h.sz hg.size⟩
set_option maxHeartbeats 2000000 in
theorem up_any (base H j : Nat) (u : Value) (ys : List Int) (w : World) (hb : HB w base H u ys) (hj : j < ys.length) (hl : ys.length ≤ 100000) (hu : UpI ys j) :
    Calls Try.prog 63 #[.iface 64 (.pointer (some ⟨H, 0, none⟩)), .int .i64 (j : Int)] w fun e w' => e = .returned (.tuple #[]) ∧ ∃ zs, zs.Perm ys ∧ HPn zs zs.length ∧ HB w' base H u zs ∧ G2 w w' H u.ownBlock := by
  obtain ⟨g, cap, rfl⟩ := own_slice hb.own (by omega)
  obtain ⟨n, hn⟩ : ∃ n, ys.length = n := ⟨_, rfl⟩
  rw [hn] at hb hj hl ⊢
  have hst : Hid (∃ zs : List Int, zs.length = n ∧ zs.Perm ys ∧ UpI zs j ∧ HB w base H (.slice (some ⟨g, 0, none⟩) n cap) zs ∧ G2 w w H (some g)) := ⟨ys, hn, List.Perm.refl _, hu, hb, G2.refl _ _ _⟩
  clear hb hu hn
  go_enter Try.func63, Try.ntmps63
  go_wp2
  go_loopw [1] (fun x W => ∃ k : Nat, x = .int .i64 k ∧ k < n ∧ Hid (∃ zs : List Int, zs.length = n ∧ zs.Perm ys ∧ UpI zs k ∧ HB W base H (.slice (some ⟨g, 0, none⟩) n cap) zs ∧ G2 w W H (some g))) (fun x _ => (intOf x).toNat)
  case atStart => exact ⟨j, rfl, hj, hst⟩
  case round =>
    obtain ⟨k, rfl, hk, hz⟩ := hrel
    by_cases h0 : k = 0
    · subst h0
      go_wp2
      go_end0
      obtain ⟨zs, z1, z2, z3, z4, z5⟩ := hz.out
      exact ⟨rfl, zs, z2, z3.zero, z4, z5⟩
    · obtain ⟨zs, z1, z2, z3, z4, z5⟩ := hz.out
      obtain ⟨p, hp⟩ : ∃ p, pa k = p := ⟨_, rfl⟩
      have hpk : p < k := by unfold pa at hp; omega
      have e1 : (((k : Int) - 1).tdiv 2) = (p : Int) := by rw [Int.tdiv_eq_ediv_of_nonneg (by omega)]; unfold pa at hp; omega
      have e2 : ((p : Int) == (k : Int)) = false := by simp; omega
      have hm := meth_less H wr _ z4.box.cell
      have hless := lfless_any base g cap k p zs wr ⟨by rw [z1]; exact z4.own⟩ (by omega) (by omega)
      rw [z1] at hless
      have Hless := Lib.hid hless
      have Hp := Lib.hid hp
      have H1 := Lib.hid z1
      have H2 := Lib.hid z2
      have H3 := Lib.hid z3
      have H4 := Lib.hid z4
      have H5 := Lib.hid z5
      obtain ⟨t, ht⟩ : ∃ t, decide (zs.getD k 0 < zs.getD p 0) = t := ⟨_, rfl⟩
      have Ht := Lib.hid ht
      rw [ht] at Hless
      clear hless hp z1 z2 z3 z4 z5 hz ht
      go_wp2_with fail
      refine Hless.out.mono ?_
      rintro e w1 ⟨rfl, kk, rfl⟩
      cases t with
      | false =>
        go_wp2
        go_end0
        have := Ht.out
        simp only [decide_eq_false_iff_not] at this
        rw [← Hp.out] at this
        exact ⟨rfl, zs, H2.out, H3.out.stop this, H4.out.drewN kk, ⟨H5.out.os, H5.out.tape, H5.out.output, H5.out.size, H5.out.block⟩⟩
      | true =>
        have hm2 := meth_swap H (wr.drewN kk) _ H4.out.box.cell
        have hswap := swap_any base g cap p k zs (wr.drewN kk) ⟨by rw [H1.out]; exact H4.out.own⟩ (by rw [H1.out]; omega) (by rw [H1.out]; omega)
        rw [H1.out] at hswap
        have Hswap := Lib.hid hswap
        clear hswap
        go_wp2_with fail
        refine Hswap.out.mono ?_
        rintro e w2 ⟨rfl, hr, hg⟩
        have hnew : Hid (∃ zs : List Int, zs.length = n ∧ zs.Perm ys ∧ UpI zs p ∧ HB w2 base H (.slice (some ⟨g, 0, none⟩) n cap) zs ∧ G2 w w2 H (some g)) := by
          have hlt := Ht.out
          simp only [decide_eq_true_eq] at hlt
          have hkl : k < zs.length := by rw [H1.out]; exact hk
          have hpp := Hp.out
          subst hpp
          refine ⟨swp zs (pa k) k, by rw [swp_len]; exact H1.out, (swp_perm (by omega) hkl).trans H2.out, H3.out.swap hkl (by omega) hlt, HB.swapped (H4.out.drewN kk) hr (by rw [swp_len]; exact H1.out) hg, ?_⟩
          exact (⟨H5.out.os, H5.out.tape, H5.out.output, H5.out.size, H5.out.block⟩ : G2 w (wr.drewN kk) H (some g)).trans (u := .slice (some ⟨g, 0, none⟩) n cap) (G2.grown hg) (.inl rfl)
        clear hr hg
        go_wp2
        go_roundw
        case rel => exact ⟨p, by go_num, by omega, hnew⟩
        case measure => simp [intOf]; omega
end Go.Proofs.Ytopbbihbpalnlaa
