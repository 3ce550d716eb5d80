/-
  slices.Contains at nodes.
-/
import Derived.Test.YtopbbihbpalnlaaSRows
import Derived.LoopTactic
import Derived.RegionTactic
namespace Go.Proofs.Ytopbbihbpalnlaa
open Go.RowKit
set_option linter.unusedVariables false

def IdxEnd (w : World) (zs : List Int) (v : Int) (e : Ending) (w' : World) : Prop := ∃ r : Int, e = .returned (.int .i64 r) ∧ decide (0 ≤ r) = decide (v ∈ zs) ∧ ∃ k, w' = w.drewN k
set_option maxRecDepth 100000 in
theorem idx_any (a : Option Addr) (n c : Nat) (zs : List Int) (v : Int) (hl : zs.length = n) (w : World) (hE : Ints w a zs) (hn : n ≤ 100000) : Calls Try.prog 57 #[.slice a n c, .int .i64 v] w (IdxEnd w zs v) := by
  have HE := Lib.hid hE
  have Hl := Lib.hid hl
  have hno : Hid (∀ i, i < 0 → zs.getD i 0 ≠ v) := fun i hi => by omega
  clear hE hl
  go_enter Try.func57, Try.ntmps57
  go_wp2
  go_loopw [8] (fun x W => ∃ k : Nat, x = .int .i64 k ∧ k ≤ n ∧ (∃ q, W = w.drewN q) ∧ Hid (∀ i, i < k → zs.getD i 0 ≠ v)) (fun x _ => n - (intOf x).toNat)
  case atStart => exact ⟨0, rfl, Nat.zero_le _, ⟨0, rfl⟩, hno⟩
  case round =>
    obtain ⟨k, rfl, hk, ⟨q, rfl⟩, hno⟩ := hrel
    by_cases hlt : k < n
    · obtain ⟨b, off, rfl, hcell⟩ := HE.out (by rw [Hl.out]; omega)
      have hx := hcell k (by rw [Hl.out]; exact hlt)
      obtain ⟨x, he⟩ : ∃ x, zs.getD k 0 = x := ⟨_, rfl⟩
      rw [he] at hx
      have hx2 : (w.drewN q).cell? ⟨b, off + k, none⟩ = some (.int .i64 x) := hx
      have He := Lib.hid he
      clear hcell he
      by_cases hv : x = v
      · have e0 : (v == x) = true := by simp [hv]
        have e1 : (x == v) = true := by simp [hv]
        go_wp2
        go_ret
        refine ⟨(k : Int), rfl, ?_, q, rfl⟩
        have : v ∈ zs := by
          rw [← hv, ← He.out, List.getD_eq_getElem?_getD, List.getElem?_eq_getElem (by rw [Hl.out]; exact hlt)]
          exact List.getElem_mem _
        simp [this]
      · have e0 : (v == x) = false := by simpa using fun e => hv e.symm
        have e1 : (x == v) = false := by simpa using hv
        have hno2 : Hid (∀ i, i < k + 1 → zs.getD i 0 ≠ v) := fun i hi => by
          by_cases e : i = k
          · rw [e, He.out]; exact hv
          · exact hno.out i (by omega)
        clear hv
        go_wp2
        go_roundw
        case rel => exact ⟨k + 1, by go_num, hlt, ⟨_, rfl⟩, hno2⟩
        case measure => simp [intOf]; omega
    · obtain rfl : k = n := by omega
      go_wp2
      go_ret
      refine ⟨-1, rfl, ?_, q, rfl⟩
      have : v ∉ zs := fun hm => by
        obtain ⟨i, hi, e⟩ := List.getElem_of_mem hm
        apply hno.out i (by rw [← Hl.out]; exact hi)
        rw [List.getD_eq_getElem?_getD, List.getElem?_eq_getElem hi]
        exact e
      simp [this]
set_option maxRecDepth 100000 in
theorem has_any (a : Option Addr) (n c : Nat) (zs : List Int) (v : Int) (hl : zs.length = n) (w : World) (hE : Ints w a zs) (hn : n ≤ 100000) : Calls Try.prog 37 #[.slice a n c, .int .i64 v] w fun e w' => e = .returned (.bool (decide (v ∈ zs))) ∧ ∃ k, w' = w.drewN k := by
  have hcall := Lib.hid (idx_any a n c zs v hl w hE hn)
  obtain ⟨t, ht⟩ : ∃ t, decide (v ∈ zs) = t := ⟨_, rfl⟩
  rw [ht]
  have Ht := Lib.hid ht
  clear hE hl ht
  go_enter Try.func37, Try.ntmps37
  go_wp2_with fail
  refine hcall.out.mono ?_
  rintro e w5 ⟨r, rfl, hr, k, rfl⟩
  rw [Ht.out] at hr
  have Hr := Lib.hid hr
  clear hr
  go_wp2
  go_ret
  exact ⟨by show Ending.returned (Value.bool (decide (0 ≤ r))) = _; rw [Hr.out], k, rfl⟩
end Go.Proofs.Ytopbbihbpalnlaa
