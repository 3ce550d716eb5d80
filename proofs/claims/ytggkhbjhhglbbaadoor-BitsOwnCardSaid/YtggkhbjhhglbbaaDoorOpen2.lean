/-
  An argument set is opened; a nil one has no capacity.
-/
import Derived.Test.YtggkhbjhhglbbaaDoorOpen
namespace Go.Proofs.YtggkhbjhhglbbaaDoor
open Go.ChangeShapes Go.WideShapes Go.ChangeAt Go.RowKit
set_option linter.unusedVariables false

theorem open_words2_arg {H : Type} {enc : TypeId × Value → H} {W : World} {bs : Nat} {v : Value} {d : DataW H} {p : List MemPlace}
    (hok : Value.okWide Tryd.prog W .any bs 23 v) (h : DataW.Trod enc Tryd.prog W 0 (fun _ => true) true 23 v d p) :
    ∃ a c, ∃ ws : List Nat, v = .slice a ws.length c ∧ (ws.length ≤ c ∧ c ≤ maxLen ∧ Wf ws ∧ (a = none → c = 0)) ∧ Words W a ws := by
  obtain ⟨a0, len0, cap0, rfl⟩ := okWide_slice Tryd.underlying23 hok
  obtain ⟨fuel, hf⟩ := h
  rcases open_ints Tryd.underlying23 Tryd.underlying54 (by kernel_rfl) hf with ⟨hcs, _⟩ | ⟨x, l, c, zs, hcs, _, hl, hm, hz, _, hcell, hwz⟩
  · simp [Value.cells] at hcs
    obtain ⟨rfl, rfl, rfl⟩ := hcs
    exact ⟨none, 0, [], rfl, ⟨by simp, by simp, Wf.nil, fun _ => rfl⟩, fun h => absurd h (by simp)⟩
  · simp [Value.cells] at hcs
    obtain ⟨rfl, rfl, rfl⟩ := hcs
    have hz' : zs.length = cap0 := by simpa using hz
    have hlen : ((zs.take len0).map Int.toNat).length = len0 := by rw [List.length_map, List.length_take]; omega
    have hb : ∀ i, i < zs.length → 0 ≤ zs.getD i 0 ∧ zs.getD i 0 ≤ 18446744073709551615 := fun i hi => by
      have := hwz (zs.getD i 0) (by simp [hi])
      exact bounds_u64 this
    have hat : ∀ i, i < len0 → ((zs.take len0).map Int.toNat).getD i 0 = (zs.getD i 0).toNat := fun i hi => by
      simp [List.getD, hi, show i < zs.length from by omega]
    refine ⟨some x, cap0, (zs.take len0).map Int.toNat, by rw [hlen], ⟨by rw [hlen]; omega, hm, fun i => ?_, fun h => by cases h⟩, fun h0 => ?_⟩
    · by_cases hi : i < len0
      · rw [hat i hi]; have := hb i (by omega); omega
      · rw [getD_out (by omega)]; omega
    · rw [hlen] at h0
      have hs := World.cell?_spot (hcell 0 (by omega))
      obtain ⟨b, off, spot⟩ := x
      have hsp : spot = none := by simpa [Addr.add] using hs
      subst hsp
      refine ⟨b, off, rfl, fun i hi => ?_⟩
      rw [hlen] at hi
      have hc := hcell i (by omega)
      rw [add_plain] at hc
      rw [hc, hat i hi]
      have := hb i (by omega)
      rw [Int.toNat_of_nonneg this.1]

end Go.Proofs.YtggkhbjhhglbbaaDoor
