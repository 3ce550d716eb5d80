/-
  container/heap at a heap of nodes: Push and Pop.
-/
import Derived.Test.YtopbbihbpalnlaaSHeapD
namespace Go.Proofs.Ytopbbihbpalnlaa
open Go.RowKit
set_option linter.unusedVariables false
set_option maxRecDepth 100000
def PushEnd (w : World) (base H : Nat) (u : Value) (ys : List Int) (x : Int) (e : Ending) (w' : World) : Prop :=
  e = .returned (.tuple #[]) ∧ ∃ zs u', zs.Perm (ys ++ [x]) ∧ HPn zs zs.length ∧ HB w' base H u' zs ∧ G2 w w' H u.ownBlock ∧ LaterB w u.ownBlock u'
theorem hpush_any (base H : Nat) (u : Value) (ys : List Int) (x : Int) (w : World) (hb : HB w base H u ys) (hl : ys.length + 1 ≤ 100000) (hp : HPn ys ys.length) :
    Calls Try.prog 48 #[.iface 64 (.pointer (some ⟨H, 0, none⟩)), .iface 3 (.int .i64 x)] w (PushEnd w base H u ys x) := by
  have hm := meth_push H w
  have hcall := lpush_any base H u ys x w hb (by omega)
  have Hcall := Lib.hid hcall
  have Hp := Lib.hid hp
  obtain ⟨n, hn⟩ : ∃ n, ys.length = n := ⟨_, rfl⟩
  rw [hn] at hl
  have Hn := Lib.hid hn
  clear hcall hp hn hb
  go_enter Try.func48, Try.ntmps48
  go_wp2_with fail
  refine Hcall.out.mono ?_
  rintro e w1 ⟨rfl, u1, hb1, hg1, hl1⟩
  have hlen1 : (ys ++ [x]).length = n + 1 := by simp [Hn.out]
  obtain ⟨g, cap, rfl⟩ := own_slice hb1.own (by omega)
  have hm1 := meth_len H w1 _ hb1.box.cell
  have hup := up_any base H n _ (ys ++ [x]) w1 hb1 (by omega) (by omega) (by rw [← Hn.out]; exact UpI.push Hp.out x)
  rw [hlen1] at hm1 hup hl1 hb1
  have Hup := Lib.hid hup
  have Hg1 := Lib.hid hg1
  have Hl1 := Lib.hid hl1
  clear hup hg1 hl1 hb1 hm hlen1
  go_wp2_with fail
  refine (len_any (some ⟨g, 0, none⟩) (n + 1) cap w1).mono ?_
  rintro e w2 ⟨rfl, rfl⟩
  go_wp2_with fail
  refine Hup.out.mono ?_
  rintro e w3 ⟨rfl, zs, z1, z2, z3, z4⟩
  go_wp2
  go_end0
  exact ⟨rfl, zs, _, z1, z2, z3, Hg1.out.trans z4 Hl1.out, Hl1.out⟩
def PopEnd (w : World) (base H : Nat) (u : Value) (ys : List Int) (n : Nat) (e : Ending) (w' : World) : Prop :=
  e = .returned (.iface 3 (.int .i64 (ys.getD 0 0))) ∧ ∃ zs u', (ys.getD 0 0 :: zs).Perm ys ∧ HPn zs zs.length ∧ HB w' base H u' zs ∧ G2 w w' H u.ownBlock ∧ LaterB w u.ownBlock u'
theorem take_last {zs : List Int} {n : Nat} (h : zs.length = n + 1) : zs.take n ++ [zs.getD n 0] = zs := by
  have := List.take_append_getElem (l := zs) (i := n) (by omega)
  rw [List.getD_eq_getElem?_getD, List.getElem?_eq_getElem (by omega)]
  rw [List.take_of_length_le (show zs.length ≤ n + 1 by omega)] at this
  simpa using this
theorem hpop_any (base H n : Nat) (u : Value) (ys : List Int) (w : World) (hb : HB w base H u ys) (hn : ys.length = n + 1) (hl : n + 1 ≤ 100000) (hp : HPn ys ys.length) :
    Calls Try.prog 49 #[.iface 64 (.pointer (some ⟨H, 0, none⟩))] w (PopEnd w base H u ys n) := by
  obtain ⟨g, cap, rfl⟩ := own_slice hb.own (by omega)
  rw [hn] at hp
  have hm1 := meth_len H w _ hb.box.cell
  have hm2 := meth_swap H w _ hb.box.cell
  have hsw := swap_any base g cap 0 n ys w ⟨hb.own⟩ (by omega) (by omega)
  rw [hn] at hm1 hm2 hsw hb
  have Hsw := Lib.hid hsw
  have Hb := Lib.hid hb
  have Hn := Lib.hid hn
  have Hp := Lib.hid hp
  rw [hn]
  clear hsw hb hp hn
  go_enter Try.func49, Try.ntmps49
  go_wp2_with fail
  refine (len_any (some ⟨g, 0, none⟩) (n + 1) cap w).mono ?_
  rintro e w2 ⟨rfl, rfl⟩
  go_wp2_with fail
  refine Hsw.out.mono ?_
  rintro e w3 ⟨rfl, hr3, hg3⟩
  have hb3 := HB.swapped Hb.out hr3 (by rw [swp_len]; exact Hn.out) hg3
  have hdn := down_any base H n _ (swp ys 0 n) w3 hb3 (by rw [swp_len, Hn.out]; omega) (by rw [swp_len, Hn.out]; exact hl) (DnI.pop Hp.out Hn.out)
  have Hdn := Lib.hid hdn
  have Hg3 := Lib.hid (G2.grown (H := H) hg3)
  clear hr3 hg3 hb3 hdn hm1 hm2
  go_wp2_with fail
  refine Hdn.out.mono ?_
  rintro e w4 ⟨b, zs, rfl, z1, z2, z3, z4, z5⟩
  have hzl : zs.length = n + 1 := by rw [z1.length_eq, swp_len]; exact Hn.out
  have hlast : zs.getD n 0 = ys.getD 0 0 := by rw [z3 n (Nat.le_refl _), swp_at (by rw [Hn.out]; omega) (by rw [Hn.out]; omega), if_pos rfl]
  have htl := take_last hzl
  rw [hlast] at htl
  have hm4 := meth_pop H w4
  have hpo := lpop_any base H _ (zs.take n) (ys.getD 0 0) w4 (by rw [htl]; exact z4) (by rw [List.length_take]; omega)
  have Hpo := Lib.hid hpo
  have Hend : Hid ((ys.getD 0 0 :: zs.take n).Perm ys ∧ HPn (zs.take n) (zs.take n).length) := by
    refine ⟨?_, ?_⟩
    · have h1 : (ys.getD 0 0 :: zs.take n).Perm (zs.take n ++ [ys.getD 0 0]) := (List.perm_append_singleton _ _).symm
      rw [htl] at h1
      exact h1.trans (z1.trans (swp_perm (by rw [Hn.out]; omega) (by rw [Hn.out]; omega)))
    · have hlt : (zs.take n).length = n := by rw [List.length_take]; omega
      rw [hlt]
      intro k k0 kn
      have h1 := z2 k k0 kn
      have hat : ∀ i, i < n → (zs.take n).getD i 0 = zs.getD i 0 := fun i hi => by simp [List.getD_eq_getElem?_getD, hi]
      rw [hat k kn, hat (pa k) (by unfold pa; omega)]
      exact h1
  have H5 := Lib.hid z5
  obtain ⟨x, hx⟩ : ∃ x, ys.getD 0 0 = x := ⟨_, rfl⟩
  rw [hx] at Hpo
  have Hx := Lib.hid hx
  clear z1 z2 z3 z4 z5 hpo hlast htl hzl hx
  go_wp2_with fail
  refine Hpo.out.mono ?_
  rintro e w5 ⟨rfl, u5, hb5, hg5, hl5⟩
  go_wp2
  go_ret
  refine ⟨by rw [Hx.out]; rfl, zs.take n, u5, Hend.out.1, Hend.out.2, hb5, ?_, ?_⟩
  · exact (Hg3.out.trans (u := .slice (some ⟨g, 0, none⟩) (n + 1) cap) H5.out (.inl rfl)).trans (u := .slice (some ⟨g, 0, none⟩) (n + 1) cap) hg5 (.inl rfl)
  · rcases hl5 with e | ⟨k, e, h⟩
    · exact .inl e
    · exact .inr ⟨k, e, Nat.le_trans (Nat.le_trans Hg3.out.size H5.out.size) h⟩
end Go.Proofs.Ytopbbihbpalnlaa
