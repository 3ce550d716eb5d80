/-
  Recursive, of the program, at a valid graph.
-/
import Derived.Test.YtopbbihbpalnlaaSRec
import Derived.Test.YtopbbihbpalnlaaGReach
import Derived.Test.YtopbbihbpalnlaaGSucc
namespace Go.Proofs.Ytopbbihbpalnlaa
open Go.RowKit
set_option linter.unusedVariables false
theorem keepR2 {W X X' : World} {p q : Addr} {B : Nat} {u0 u1 : Value} (H : X.cell? p = some u0 ∧ X.cell? q = some u1 ∧ Below B W X) (hB : W.heap.size = B) (hb : Below X.heap.size X X') :
    X'.cell? p = some u0 ∧ X'.cell? q = some u1 ∧ Below B W X' := by
  have hs := H.2.2.size
  exact ⟨(hb.cell (World.block_lt_of_cell? _ _ H.1)).trans H.1, (hb.cell (World.block_lt_of_cell? _ _ H.2.1)).trans H.2.1, H.2.2.trans (hb.mono (by omega))⟩
set_option maxRecDepth 100000 in
set_option maxHeartbeats 1000000 in
theorem rec_good (N : Nat) (a : Option Addr) (n c : Nat) (ps : List (Int × Int)) (v : Int) (w : World) (hl : ps.length = n) (hE : Edg w a c ps) (hok : gchk (N : Int) ps = 0) (hs : (succL ps v).length ≤ 100000) (hr : (reachL N ps (succL ps v)).length ≤ 100000) :
    Calls Try.prog 22 #[.agg #[.int .i64 (N : Int), .slice a n c], .int .i64 v] w fun e w' => e = .returned (.bool (decide (v ∈ reachL N ps (succL ps v)))) ∧ Below w.heap.size w w' := by
  obtain ⟨w1, hw1⟩ : ∃ w1, w.alloc (Obj.cells #[Value.int .i64 (N : Int), Value.slice a n c] 24) = w1 := ⟨_, rfl⟩
  have hb0 : Below w.heap.size w w1 := by rw [← hw1]; exact (Below.refl w.heap.size w).alloc (Nat.le_refl _) _
  have g0 : w1.cell? ⟨w.heap.size, 0, none⟩ = some (.int .i64 (N : Int)) := by rw [← hw1]; simp [go_sem]
  have g1 : w1.cell? ⟨w.heap.size, 1, none⟩ = some (.slice a n c) := by rw [← hw1]; simp [go_sem]
  have hS0 : w1.cell? ⟨w.heap.size, 0, none⟩ = some (.int .i64 (N : Int)) ∧ w1.cell? ⟨w.heap.size, 1, none⟩ = some (.slice a n c) ∧ Below w.heap.size w w1 := ⟨g0, g1, hb0⟩
  have hS1 : w1.drew.cell? ⟨w.heap.size, 0, none⟩ = some (.int .i64 (N : Int)) ∧ w1.drew.cell? ⟨w.heap.size, 1, none⟩ = some (.slice a n c) ∧ Below w.heap.size w w1.drew := ⟨g0, g1, hb0.drew⟩
  obtain ⟨s, hs2⟩ : ∃ s, succL ps v = s := ⟨_, rfl⟩
  rw [hs2] at hs hr ⊢
  obtain ⟨r, hr2⟩ : ∃ r, reachL N ps s = r := ⟨_, rfl⟩
  rw [hr2] at hr ⊢
  obtain ⟨ms, hms⟩ : ∃ m, s.length = m := ⟨_, rfl⟩
  obtain ⟨mr, hmr⟩ : ∃ m, r.length = m := ⟨_, rfl⟩
  have hsu : ∀ X, Below w.heap.size w X → Calls Try.prog 39 #[.agg #[.int .i64 (N : Int), .slice a n c], .int .i64 v] X fun e w' => ∃ b d, e = .returned (.slice b ms d) ∧ Ints w' b s ∧ Below X.heap.size X w' := fun X hX => by
    have := succ_good (N : Int) a c ps v X (hE.below hX (Nat.le_refl _)) hok
    rw [hl] at this
    refine this.mono ?_
    rintro e w' ⟨u, rfl, ho, hb⟩
    rw [hs2] at ho
    obtain ⟨b, d, rfl, hi⟩ := ho.shape
    exact ⟨b, d, by rw [hms], hi, hb⟩
  have hre : ∀ X b d, Below w.heap.size w X → Ints X b s → Calls Try.prog 38 #[.agg #[.int .i64 (N : Int), .slice a n c], .slice b ms d] X fun e w' => ∃ b2 d2, e = .returned (.slice b2 mr d2) ∧ Ints w' b2 r ∧ Below X.heap.size X w' := fun X b d hX hi => by
    have := reach_good N a c ps b d s X (hE.below hX (Nat.le_refl _)) hok hi (by unfold maxLen; omega)
    rw [hl, hms] at this
    refine this.mono ?_
    rintro e w' ⟨u, rfl, ho, hb⟩
    rw [hr2] at ho
    obtain ⟨b2, d2, rfl, hi2⟩ := ho.shape
    exact ⟨b2, d2, by rw [hmr], hi2, hb⟩
  have Hsu := Lib.hid hsu
  have Hre := Lib.hid hre
  have Hw1 := Lib.hid hw1
  have Hmr := Lib.hid hmr
  obtain ⟨t, ht⟩ : ∃ t, decide (v ∈ r) = t := ⟨_, rfl⟩
  have Ht := Lib.hid ht
  rw [ht]
  have hmr8 : mr ≤ 100000 := by omega
  clear hsu hre hw1 hmr hms hs2 hr2 hE hok hl hb0 ht
  go_enter Try.func22, Try.ntmps22
  go_wp2_with fail
  rw [Hw1.out]
  go_region_held3 (fun X => X.cell? ⟨w.heap.size, 0, none⟩ = some (.int .i64 (N : Int)) ∧ X.cell? ⟨w.heap.size, 1, none⟩ = some (.slice a n c) ∧ Below w.heap.size w X)
    (first
      | (with_reducible assumption)
      | fail)
    (first
      | (go_at_call 39; (with_reducible refine Calls.mono (Hsu.out _ (by exact (by assumption : _ ∧ _ ∧ _).2.2)) ?_); rintro e wA ⟨b1, d1, rfl, hi1, hbA⟩; have hSA := keepR2 (by assumption) rfl hbA)
      | (go_at_call 38; (with_reducible refine Calls.mono (Hre.out _ b1 d1 (by exact hSA.2.2) (by first | exact hi1 | exact hi1.drewN 1)) ?_); rintro e wB ⟨b2, d2, rfl, hi2, hbB⟩; have hSB := keepR2 hSA rfl hbB)
      | (go_at_call 37; (with_reducible refine Calls.mono (has_any b2 mr d2 r v Hmr.out _ hi2 hmr8) ?_); rintro e wC ⟨rfl, k, rfl⟩; rw [Ht.out]; have hSC : (wB.drewN k).cell? ⟨w.heap.size, 0, none⟩ = some (.int .i64 (N : Int)) ∧ (wB.drewN k).cell? ⟨w.heap.size, 1, none⟩ = some (.slice a n c) ∧ Below w.heap.size w (wB.drewN k) := ⟨hSB.1, hSB.2.1, ⟨hSB.2.2.os, hSB.2.2.tape, hSB.2.2.output, hSB.2.2.size, hSB.2.2.block⟩⟩))
  all_goals
    go_wp2
    go_ret
    exact ⟨rfl, hSC.2.2⟩
end Go.Proofs.Ytopbbihbpalnlaa
