/-
  How the arguments of a law are opened: slices of ints, of numbers of 16 bits, a worklist.
-/
import Derived.Test.YtpegkmancaoeiaaWArr
import Derived.ProofKit
import Derived.OpenShut
import Derived.ShutString
import Derived.ChangeOld
import Derived.Lib.SmallJoins
namespace Go.Proofs.Ytpegkmancaoeiaa
open Go.ChangeShapes Go.WideShapes Go.ChangeAt Go.RowKit Go.Joins
set_option linter.unusedVariables false

theorem own : ownKnob Try.prog.godebug = none := by kernel_rfl
theorem laidOut : laidOutB Try.prog = true := by kernel_rfl

/-- The cells of a slice of ints, read. -/
theorem open_ints_cells {H : Type} {enc : TypeId × Value → H} {W : World} {v : Value} {x : DataW H × List MemPlace} {fuel : Nat}
    (hf : DataW.trod enc Try.prog W 0 (fun _ => true) true fuel 22 [v] = some x) :
    ∃ a c, ∃ zs : List Int, v = .slice a zs.length c ∧ zs.length ≤ maxLen ∧ Ints W a zs ∧ (a = none → c = 0) ∧ zs.length ≤ c ∧ c ≤ maxLen ∧ ∀ z ∈ zs, (Lit.int .i64 z).wf = true := by
  rcases open_ints Try.underlying22 Try.underlying3 (by kernel_rfl) hf with ⟨hcs, _⟩ | ⟨x, l, c, zs, hcs, _, hl, hm, hz, _, hcell, hwz⟩
  · simp at hcs
    exact ⟨none, 0, [], by rw [hcs]; rfl, by simp, fun h => absurd h (by simp), fun _ => rfl, by simp, by simp, by simp⟩
  · simp at hcs
    have hz' : zs.length = c := by simpa using hz
    have hlen : (zs.take l).length = l := by rw [List.length_take]; omega
    refine ⟨some x, c, zs.take l, by rw [hlen, hcs], by rw [hlen]; omega, fun h0 => ?_, (fun h => by cases h), by rw [hlen]; exact hl, hm, fun z hz => hwz z (List.mem_of_mem_take hz)⟩
    rw [hlen] at h0
    have hs := World.cell?_spot (hcell 0 (by omega))
    obtain ⟨b, off, spot⟩ := x
    have hsp : spot = none := by simpa [Addr.add] using hs
    subst hsp
    refine ⟨b, off, rfl, fun i hi => ?_⟩
    rw [hlen] at hi
    have hc := hcell i (by omega)
    rw [add_plain] at hc
    rw [hc]
    simp [List.getD, hi]

theorem open_ints_arg {H : Type} {enc : TypeId × Value → H} {W : World} {bs : Nat} {v : Value} {d : DataW H} {p : List MemPlace}
    (hok : Value.okWide Try.prog W .any bs 22 v) (h : DataW.Trod enc Try.prog W 0 (fun _ => true) true 22 v d p) :
    ∃ a c, ∃ zs : List Int, v = .slice a zs.length c ∧ zs.length ≤ maxLen ∧ Ints W a zs ∧ (a = none → c = 0) ∧ zs.length ≤ c ∧ c ≤ maxLen ∧ ∀ z ∈ zs, (Lit.int .i64 z).wf = true := by
  obtain ⟨a0, len0, cap0, rfl⟩ := okWide_slice Try.underlying22 hok
  obtain ⟨fuel, hf⟩ := h
  exact open_ints_cells (by simpa [Value.cells] using hf)

theorem open_u16s_arg {H : Type} {enc : TypeId × Value → H} {W : World} {bs : Nat} {v : Value} {d : DataW H} {p : List MemPlace}
    (hok : Value.okWide Try.prog W .any bs 40 v) (h : DataW.Trod enc Try.prog W 0 (fun _ => true) true 40 v d p) :
    ∃ a c, ∃ ls : List Nat, v = .slice a ls.length c ∧ ls.length ≤ maxLen ∧ U16s W a ls ∧ ∀ i, ls.getD i 0 < 65536 := by
  obtain ⟨a0, len0, cap0, rfl⟩ := okWide_slice Try.underlying40 hok
  obtain ⟨fuel, hf⟩ := h
  rcases open_ints Try.underlying40 Try.underlying41 (by kernel_rfl) hf with ⟨hcs, _⟩ | ⟨x, l, c, zs, hcs, _, hl, hm, hz, _, hcell, hwz⟩
  · simp [Value.cells] at hcs
    obtain ⟨rfl, rfl, rfl⟩ := hcs
    exact ⟨none, 0, [], rfl, by simp, fun h => absurd h (by simp), by simp⟩
  · simp [Value.cells] at hcs
    obtain ⟨rfl, rfl, rfl⟩ := hcs
    have hz' : zs.length = cap0 := by simpa using hz
    have hb : ∀ i, 0 ≤ zs.getD i 0 ∧ zs.getD i 0 < 65536 := by
      intro i
      by_cases hi : i < zs.length
      · have hm' : zs.getD i 0 ∈ zs := by rw [List.getD_eq_getElem?_getD, List.getElem?_eq_getElem hi]; exact List.getElem_mem hi
        have := hwz _ hm'
        simp [Lit.wf] at this
        have m1 : IntKind.u16.min = 0 := rfl
        have m2 : IntKind.u16.max = 65535 := rfl
        rw [m1, m2] at this
        have e : zs.getD i 0 = zs[i]?.getD 0 := List.getD_eq_getElem?_getD ..
        rw [e]
        exact ⟨by omega, by omega⟩
      · rw [List.getD_eq_getElem?_getD, List.getElem?_eq_none (by omega)]; simp
    have hlen : ((zs.take len0).map Int.toNat).length = len0 := by rw [List.length_map, List.length_take]; omega
    have hget : ∀ i, i < len0 → (((zs.take len0).map Int.toNat).getD i 0 : Nat) = zs.getD i 0 := by
      intro i hi
      have h1 := (hb i).1
      have h2 : i < zs.length := by omega
      have h3 : zs.getD i 0 = zs[i] := by simp [List.getD, h2]
      rw [h3] at h1 ⊢
      simp [List.getD, hi, h2]
      omega
    refine ⟨some x, cap0, (zs.take len0).map Int.toNat, by rw [hlen], by rw [hlen]; omega, fun h0 => ?_, fun i => ?_⟩
    · rw [hlen] at h0
      have hs := World.cell?_spot (hcell 0 (by omega))
      obtain ⟨b, off, spot⟩ := x
      have hsp : spot = none := by simpa [Addr.add] using hs
      subst hsp
      refine ⟨b, off, rfl, fun i hi => ?_⟩
      rw [hlen] at hi
      have hc := hcell i (by omega)
      rw [add_plain] at hc
      rw [hc, hget i hi]
    · by_cases hi : i < len0
      · have := hget i hi
        have := (hb i).2
        omega
      · rw [List.getD_eq_getElem?_getD, List.getElem?_eq_none (by rw [hlen]; omega)]; simp

theorem open_queue_arg {H : Type} {enc : TypeId × Value → H} {W : World} {bs : Nat} {v : Value} {d : DataW H} {p : List MemPlace}
    (hok : Value.okWide Try.prog W .any bs 24 v) (h : DataW.Trod enc Try.prog W 0 (fun _ => true) true 24 v d p) :
    ∃ ra rc, ∃ rs : List Int, ∃ za zc, ∃ zs : List Int, v = .agg #[.slice ra rs.length rc, .slice za zs.length zc] ∧ rs.length ≤ maxLen ∧ zs.length ≤ maxLen ∧ Ints W ra rs ∧ Ints W za zs ∧ (ra = none → rc = 0) ∧ (za = none → zc = 0) ∧
      zs.length ≤ zc ∧ zc ≤ maxLen := by
  obtain ⟨c0, c1, y0, y1, m, rfl, rfl, rfl, hy0, hy1⟩ := open_agg2 Try.underlying24 (by kernel_rfl) (by kernel_rfl) hok h
  obtain ⟨ra, rc, rs, rfl, h1, h2, h3, h4, h5, h6⟩ := open_ints_cells hy0
  obtain ⟨za, zc, zs, rfl, g1, g2, g3, g4, g5, g6⟩ := open_ints_cells hy1
  exact ⟨ra, rc, rs, za, zc, zs, rfl, h1, g1, h2, g2, h3, g3, g4, g5⟩
end Go.Proofs.Ytpegkmancaoeiaa
