/-
  Components.
-/
import Derived.Test.YtopbbihbpalnlaaSIn
import Derived.Test.YtopbbihbpalnlaaSCC
import Derived.Test.YtopbbihbpalnlaaSAcy
import Derived.Deep.RegionHeld3
namespace Go.Proofs.Ytopbbihbpalnlaa
open Go.RowKit
set_option linter.unusedVariables false
theorem RL.drew {w : World} {u : Value} {L : List (List Int)} (h : RL w u L) : RL w.drew u L := h
/-- The components that the program lists: none at an invalid graph. -/
structure CL (N : Int) (ps : List (Int × Int)) (L : List (List Nat)) : Prop where
  good : gchk N ps = 0 → CC N.toNat (suN ps) L
  bad : gchk N ps ≠ 0 → L = []
  cnt : gchk N ps = 0 → L.length = (compL N.toNat (suN ps) srt).length
theorem OrdOk.len {N : Nat} {ps : List (Int × Int)} {L : List (List Nat)} {s : List Nat} (h : OrdOk N ps L s) : s.length = L.length := by
  have := (List.perm_ext_iff_of_nodup h.nd (List.nodup_range (n := L.length))).mpr (fun i => by rw [h.mem i, List.mem_range])
  simpa using this.length_eq
def CpEnd (w : World) (N : Int) (ps : List (Int × Int)) (e : Ending) (w' : World) : Prop :=
  ∃ u L, e = .returned (.tuple #[u, .int .i64 (gchk N ps)]) ∧ RL w' u (L.map ni) ∧ Below w.heap.size w w' ∧ CL N ps L
set_option maxRecDepth 100000 in
set_option maxHeartbeats 1000000 in
theorem components_any (N : Int) (a : Option Addr) (n c : Nat) (ps : List (Int × Int)) (hl : ps.length = n) (hn : n ≤ maxLen) (w : World) (hE : Pairs w a ps) : Calls Try.prog 11 #[.agg #[.int .i64 N, .slice a n c]] w (CpEnd w N ps) := by
  have hb0 := (Below.refl w.heap.size w).alloc (Nat.le_refl _) (Obj.cells #[Value.int .i64 N, Value.slice a n c] 24)
  have hE1 := hE.below hb0 (Nat.le_refl _)
  obtain ⟨k, hk⟩ : ∃ k, gchk N ps = k := ⟨_, rfl⟩
  have hck := check_any N a c ps _ (by rw [hl]; exact hn) hE1
  rw [hl, hk] at hck
  have Hck := Lib.hid hck
  have Hb0 := Lib.hid hb0
  have HE := Lib.hid hE
  have Hl := Lib.hid hl
  have Hk := Lib.hid hk
  clear hck hb0 hE hE1 hl hk
  by_cases hk0 : k = 0
  · have e0 : (k != 0) = false := by rw [hk0]; rfl
    have hg := gchk_ok (show gchk N ps = 0 by rw [Hk.out]; exact hk0)
    obtain ⟨N, rfl⟩ : ∃ m : Nat, N = (m : Int) := ⟨N.toNat, by have := hg.lo; omega⟩
    have hn2 : n ≤ 32768 := by have := hg.len; rw [Hl.out] at this; exact this
    have hN8 : N ≤ 8192 := by have := hg.hi; omega
    have hcm := compL_comps (N := N) (su := suN ps) (srt := srt) srt_perm (suN_lt hg)
    have hsr := compL_srt (N := N) (su := suN ps) (srt := srt)
    have Hlok := Lib.hid (hcm.lok hg)
    have Hcc : Hid (∀ s, OrdOk N ps (compL N (suN ps) srt) s → CC N (suN ps) (s.map fun i => (compL N (suN ps) srt).getD i [])) := by show ∀ s, _; exact fun s h => h.cc hg hcm hsr
    have Hg := Lib.hid hg
    clear hg hcm hsr
    subst hk0
    go_enter Try.func11, Try.ntmps11
    go_wp2_with fail
    refine Hck.out.mono ?_
    rintro e w1 ⟨rfl, hb1⟩
    have g0 := (hb1.cell (p := ⟨w.heap.size, 0, none⟩) (by simp)).trans (show _ = some (Value.int .i64 (N : Int)) by simp)
    have g1 := (hb1.cell (p := ⟨w.heap.size, 1, none⟩) (by simp)).trans (show _ = some (Value.slice a n c) by simp)
    have Hb1 := Lib.hid (Hb0.out.trans (hb1.mono (by simp)))
    clear hb1
    have hS0 : w1.cell? ⟨w.heap.size, 0, none⟩ = some (.int .i64 (N : Int)) ∧ w1.cell? ⟨w.heap.size, 1, none⟩ = some (.slice a n c) ∧ Below w.heap.size w w1 := ⟨g0, g1, Hb1.out⟩
    have hS1 : w1.drew.cell? ⟨w.heap.size, 0, none⟩ = some (.int .i64 (N : Int)) ∧ w1.drew.cell? ⟨w.heap.size, 1, none⟩ = some (.slice a n c) ∧ Below w.heap.size w w1.drew := ⟨g0, g1, Hb1.out.drew⟩
    go_wp2_with fail
    go_region_held3 (fun X => X.cell? ⟨w.heap.size, 0, none⟩ = some (.int .i64 (N : Int)) ∧ X.cell? ⟨w.heap.size, 1, none⟩ = some (.slice a n c) ∧ Below w.heap.size w X)
      (first
        | (with_reducible assumption)
        | fail)
      (first
        | (go_at_call 31; (with_reducible refine Calls.mono (comps_pairs N a n c ps Hl.out _ (HE.out.below (by exact (by assumption : _ ∧ _ ∧ _).2.2) (Nat.le_refl _)) Hg.out) ?_); rintro e wA ⟨u, vs, rfl, hrw, hbA⟩; have hRA := hrw.rl; have hSA := keepG (by assumption) rfl hbA)
        | (go_at_call 30; (with_reducible refine Calls.mono (in_order N a n c ps Hl.out _ (HE.out.below (by exact hSA.2.2) (Nat.le_refl _)) hn2 hN8 _ Hlok.out u (by first | exact hRA | exact hRA.drew)) ?_); rintro e wB ⟨u2, s, rfl, hRB, hbB, hord⟩; have hSB := keepG hSA rfl hbB))
    all_goals
      go_wp2
      go_ret2
      refine ⟨u2, s.map fun i => (compL N (suN ps) srt).getD i [], by rw [Hk.out]; rfl, ?_, hSB.2.2, ⟨fun _ => Hcc.out s hord, fun h => absurd Hk.out h, fun _ => by rw [List.length_map, Int.toNat_natCast]; exact hord.len⟩⟩
      rw [List.map_map]
      simp only [map_ni_at] at hRB
      exact hRB
  · have e0 : (k != 0) = true := by rw [bne_iff_ne]; exact hk0
    go_enter Try.func11, Try.ntmps11
    go_wp2_with fail
    refine Hck.out.mono ?_
    rintro e w1 ⟨rfl, hb1⟩
    have Hb1 := Lib.hid (Hb0.out.trans (hb1.mono (by simp)))
    clear hb1
    go_wp2
    go_ret2
    exact ⟨.slice none 0 0, [], by rw [Hk.out]; rfl, ⟨none, 0, rfl, fun h => by simp at h⟩, Hb1.out, ⟨fun h => absurd (by rw [← Hk.out]; exact h) hk0, fun _ => rfl, fun h => absurd (by rw [← Hk.out]; exact h) hk0⟩⟩
end Go.Proofs.Ytopbbihbpalnlaa
