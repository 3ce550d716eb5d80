/-
  How the arguments of a law are opened: a slice of ints, a slice of edges, a graph.
-/
import Derived.Test.YtcmliokkamgcdaaGMem
import Derived.Test.YtcmliokkamgcdaaGStops
import Derived.ProofKit
import Derived.OpenShut
import Derived.ShutString
import Derived.ChangeOld
import Derived.Deep.SlicePairs
import Derived.Lib.SmallJoins
namespace Go.Proofs.Ytcmliokkamgcdaa
open Go.ChangeShapes Go.WideShapes Go.ChangeAt Go.RowKit Go.Joins
set_option linter.unusedVariables false
set_option maxRecDepth 100000

theorem own : ownKnob Try.prog.godebug = none := by kernel_rfl
theorem laidOut : laidOutB Try.prog = true := by kernel_rfl

theorem open_ints_arg {H : Type} {enc : TypeId × Value → H} {W : World} {bs : Nat} {v : Value} {d : DataW H} {p : List MemPlace}
    (hok : Value.okWide Try.prog W .any bs 25 v) (h : DataW.Trod enc Try.prog W 0 (fun _ => true) true 25 v d p) :
    ∃ a c, ∃ zs : List Int, v = .slice a zs.length c ∧ zs.length ≤ maxLen ∧ Ints W a zs ∧ ∀ z ∈ zs, (Lit.int .i64 z).wf = true := by
  obtain ⟨a0, len0, cap0, rfl⟩ := okWide_slice Try.underlying25 hok
  obtain ⟨fuel, hf⟩ := h
  rcases open_ints Try.underlying25 Try.underlying3 (by kernel_rfl) hf with ⟨hcs, _⟩ | ⟨x, l, c, zs, hcs, _, hl, hm, hz, _, hcell, hwz⟩
  · simp [Value.cells] at hcs
    obtain ⟨rfl, rfl, rfl⟩ := hcs
    exact ⟨none, 0, [], rfl, by simp, fun h => absurd h (by simp), by simp⟩
  · simp [Value.cells] at hcs
    obtain ⟨rfl, rfl, rfl⟩ := hcs
    have hz' : zs.length = cap0 := by simpa using hz
    have hlen : (zs.take len0).length = len0 := by rw [List.length_take]; omega
    refine ⟨some x, cap0, zs.take len0, by rw [hlen], by rw [hlen]; omega, fun h0 => ?_, fun z hz => hwz z (List.mem_of_mem_take hz)⟩
    rw [hlen] at h0
    have hs := World.cell?_spot (hcell 0 (by omega))
    obtain ⟨b, off, spot⟩ := x
    have hsp : spot = none := by simpa [Addr.add] using hs
    subst hsp
    refine ⟨b, off, rfl, fun i hi => ?_⟩
    rw [hlen] at hi
    have hc := hcell i (by omega)
    rw [add_plain] at hc
    rw [hc]
    simp [List.getD, hi]

theorem open_edges_cells {H : Type} {enc : TypeId × Value → H} {W : World} {v : Value} {y : DataW H × List MemPlace} {fuel : Nat}
    (hf : DataW.trod enc Try.prog W 0 (fun _ => true) true fuel 22 [v] = some y) :
    ∃ a c, ∃ ps : List (Int × Int), v = .slice a ps.length c ∧ Edg W a c ps := by
  rcases Go.Deep.open_slice_pairs Try.underlying22 Try.underlying52 (by kernel_rfl) rfl rfl (by kernel_rfl) (by kernel_rfl) hf with ⟨hcs, _⟩ | ⟨x, l, c, m, n, V0, V1, D0, D1, P0, P1, hcs, _, hl, hm, hmm, _, hcell⟩
  · simp at hcs
    subst hcs
    exact ⟨none, 0, [], rfl, fun h => absurd h (by simp), by simp, by simp, fun _ => rfl⟩
  · simp at hcs
    subst hcs
    have hmc : m = c := by simpa using hmm
    subst hmc
    have hval : ∀ i, i < l → ∃ e : Int × Int, V0 i = .int .i64 e.1 ∧ V1 i = .int .i64 e.2 := by
      intro i hi
      obtain ⟨_, _, g0, g1⟩ := hcell i (by omega)
      obtain ⟨z0, e0, _, w0⟩ := DataW.trod_int Try.underlying3 g0
      obtain ⟨z1, e1, _, w1⟩ := DataW.trod_int Try.underlying3 g1
      exact ⟨(z0, z1), by simpa using e0, by simpa using e1⟩
    obtain ⟨F, hF⟩ := Go.Deep.choose_lt hval
    have hlen : ((List.range l).map F).length = l := by simp
    refine ⟨some x, m, (List.range l).map F, by rw [hlen], fun h0 => ?_, by rw [hlen]; exact hl, hm, fun h => by cases h⟩
    rw [hlen] at h0
    have hs := World.cell?_spot (hcell 0 (by omega)).1
    obtain ⟨b, off, spot⟩ := x
    have hsp : spot = none := by simpa [Addr.add] using hs
    subst hsp
    refine ⟨b, off, rfl, fun i hi => ?_⟩
    rw [hlen] at hi
    obtain ⟨h1, h2, _, _⟩ := hcell i (by omega)
    obtain ⟨e1, e2⟩ := hF i hi
    rw [add_plain] at h1 h2
    rw [← Nat.add_assoc] at h2
    exact ⟨by rw [h1, e1]; simp [List.getD, hi], by rw [h2, e2]; simp [List.getD, hi]⟩
theorem open_edges_arg {H : Type} {enc : TypeId × Value → H} {W : World} {bs : Nat} {v : Value} {d : DataW H} {p : List MemPlace}
    (hok : Value.okWide Try.prog W .any bs 22 v) (h : DataW.Trod enc Try.prog W 0 (fun _ => true) true 22 v d p) :
    ∃ a c, ∃ ps : List (Int × Int), v = .slice a ps.length c ∧ Edg W a c ps := by
  obtain ⟨a0, len0, cap0, rfl⟩ := okWide_slice Try.underlying22 hok
  obtain ⟨fuel, hf⟩ := h
  exact open_edges_cells (by simpa [Value.cells] using hf)
theorem open_graph_arg {H : Type} {enc : TypeId × Value → H} {W : World} {bs : Nat} {v : Value} {d : DataW H} {p : List MemPlace}
    (hok : Value.okWide Try.prog W .any bs 24 v) (h : DataW.Trod enc Try.prog W 0 (fun _ => true) true 24 v d p) :
    ∃ (N : Int) (a : Option Addr) (c : Nat) (ps : List (Int × Int)), v = .agg #[.int .i64 N, .slice a ps.length c] ∧ Edg W a c ps := by
  obtain ⟨c0, c1, y0, y1, m, rfl, rfl, rfl, hy0, hy1⟩ := open_agg2 Try.underlying24 (by kernel_rfl) (by kernel_rfl) hok h
  obtain ⟨N, e0, _, _⟩ := DataW.trod_int Try.underlying3 hy0
  obtain ⟨a, c, ps, rfl, hE⟩ := open_edges_cells hy1
  have e0' : c0 = .int .i64 N := by simpa using e0
  subst e0'
  exact ⟨N, a, c, ps, rfl, hE⟩
end Go.Proofs.Ytcmliokkamgcdaa
