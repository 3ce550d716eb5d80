/-
  GraphTells: the walk of the law.
-/
import Derived.Test.YthgnbpiemkcdhaaGRAll
namespace Go.Proofs.Ythgnbpiemkcdhaa
open Go.RowKit Go.Shelf Go.WideShapes
set_option linter.unusedVariables false

theorem keep2 {W X X' : World} {p q : Addr} {B : Nat} {u0 u1 : Value} (H : X.cell? p = some u0 ∧ X.cell? q = some u1 ∧ Below B W X) (hB : W.heap.size = B) (hb : Below X.heap.size X X') :
    X'.cell? p = some u0 ∧ X'.cell? q = some u1 ∧ Below B W X' := by
  have hs := H.2.2.size
  exact ⟨(hb.cell (World.block_lt_of_cell? _ _ H.1)).trans H.1, (hb.cell (World.block_lt_of_cell? _ _ H.2.1)).trans H.2.1, H.2.2.trans (hb.mono (by omega))⟩
set_option maxHeartbeats 8000000 in
set_option maxRecDepth 100000 in
theorem tells_row (N : Int) (a : Option Addr) (c : Nat) (ps : List (Int × Int)) (v : Int) (w : World) (hE : Edg w a c ps) (hw : (Lit.int .i64 v).wf = true) :
    Calls Try.prog 3 #[.agg #[.int .i64 N, .slice a ps.length c], .int .i64 v] w fun e w' => e = .returned (.bool true) ∧ Below w.heap.size w w' := by
  have hcap : ps.length ≤ maxLen := by have := hE.cap; have := hE.max; omega
  obtain ⟨n, hl⟩ : ∃ n, ps.length = n := ⟨_, rfl⟩
  have hcap' := hcap
  unfold maxLen at hcap'
  rw [hl] at hcap' hcap ⊢
  have Hb0 := Lib.hid ((Below.refl w.heap.size w).alloc (Nat.le_refl _) (Obj.cells #[Value.int .i64 N, Value.slice a n c] 24))
  by_cases hbig : 400 < n
  · clear hE hl
    go_enter Try.func3, Try.ntmps3
    go_wp2_with (go_at_call 10; refine (awake_any _).mono ?_; rintro e w' ⟨rfl, hb⟩)
    go_ret
    exact ⟨rfl, Hb0.out.trans (hb.mono (by simp))⟩
  · obtain ⟨k, hk⟩ : ∃ k, gchk N ps = k := ⟨_, rfl⟩
    obtain ⟨S, hS⟩ : ∃ S, succA N ps v = S := ⟨_, rfl⟩
    obtain ⟨s, hs⟩ : ∃ s, S.length = s := ⟨_, rfl⟩
    obtain ⟨P, hP⟩ : ∃ P, predA N ps v = P := ⟨_, rfl⟩
    obtain ⟨p, hp⟩ : ∃ p, P.length = p := ⟨_, rfl⟩
    obtain ⟨N', qs, hR, hqn⟩ := revOf_ex N ps
    obtain ⟨l, hq⟩ : ∃ l, qs.length = l := ⟨_, rfl⟩
    have hln : l ≤ 400 := by omega
    have hlm : l ≤ maxLen := by unfold maxLen; omega
    have hn5 : n ≤ 100000 := by omega
    obtain ⟨w0, hw0⟩ : ∃ w0, w.alloc (Obj.cells #[Value.int .i64 N, Value.slice a n c] 24) = w0 := ⟨_, rfl⟩
    have hz0 : w.heap.size < w0.heap.size := by rw [← hw0]; simp
    have q0 : w0.cell? ⟨w.heap.size, 0, none⟩ = some (.int .i64 N) := by rw [← hw0]; simp [go_sem]
    have q1 : w0.cell? ⟨w.heap.size, 1, none⟩ = some (.slice a n c) := by rw [← hw0]; simp [go_sem]
    have HB0 : Hid (Below w.heap.size w w0) := by show Below _ _ _; rw [← hw0]; exact Hb0.out
    have HE := Lib.hid (hE.below HB0.out (Nat.le_refl _))
    have Hw0 := Lib.hid hw0
    have Hl := Lib.hid hl
    have Hk := Lib.hid hk
    have HS := Lib.hid hS
    have Hs := Lib.hid hs
    have HP := Lib.hid hP
    have Hp := Lib.hid hp
    have HR := Lib.hid hR
    have Hq := Lib.hid hq
    have hS0 : w0.drew.cell? ⟨w.heap.size, 0, none⟩ = some (.int .i64 N) ∧ w0.drew.cell? ⟨w.heap.size, 1, none⟩ = some (.slice a n c) ∧ Below w0.heap.size w0 w0.drew := ⟨q0, q1, Drawn.below ⟨1, rfl⟩ _⟩
    clear hE hl hk hS hs hP hp hR hq hw0 hqn
    go_enter Try.func3, Try.ntmps3
    go_wp2_with fail
    rw [Hw0.out]
    go_region_held3 (fun X => X.cell? ⟨w.heap.size, 0, none⟩ = some (.int .i64 N) ∧ X.cell? ⟨w.heap.size, 1, none⟩ = some (.slice a n c) ∧ Below w0.heap.size w0 X)
      (first
        | (with_reducible assumption)
        | fail)
      (first
        | (go_at_call 11; (with_reducible refine Calls.mono (chk_at N a n c ps k Hk.out _ Hl.out hcap (HE.out.below (by exact (by assumption : _ ∧ _ ∧ _).2.2) (Nat.le_refl _)).pairs) ?_); rintro e wA ⟨rfl, hbA⟩; have hSA := keep2 (by assumption) rfl hbA)
        | (go_at_call 12; (with_reducible refine Calls.mono (rchk_at N a n c ps k Hk.out _ Hl.out hcap (HE.out.below (by exact hSA.2.2) (Nat.le_refl _)).pairs) ?_); rintro e wB ⟨rfl, hbB⟩; have hSB := keep2 hSA rfl hbB)
        | (go_at_call 14; (with_reducible refine Calls.mono (succA_at N a n c ps v S s HS.out Hs.out _ Hl.out (HE.out.below (by exact hSB.2.2) (Nat.le_refl _))) ?_); rintro e wC ⟨b1, j1, rfl, hi1, hm1, hbC⟩; have hSC := keep2 hSB rfl hbC)
        | (go_at_call 15; (with_reducible refine Calls.mono (rsuccA_at N a n c ps v S s HS.out Hs.out _ Hl.out hn5 (HE.out.below (by exact hSC.2.2) (Nat.le_refl _)).pairs) ?_); rintro e wD ⟨b2, j2, rfl, hi2, hm2, hbD⟩; have hSD := keep2 hSC rfl hbD)
        | (go_at_call 13; (with_reducible refine Calls.mono (eq_at s b1 j1 b2 j2 S Hs.out _ hm1 (hi1.below hbD (Nat.le_refl _)) hi2) ?_); rintro e wE ⟨rfl, hdE⟩; have hSE := keep2 hSD rfl (hdE.below _))
        | (go_at_call 16; (with_reducible refine Calls.mono (predA_at N a n c ps v P p HP.out Hp.out _ Hl.out (HE.out.below (by exact hSE.2.2) (Nat.le_refl _))) ?_); rintro e wF ⟨b3, j3, rfl, hi3, hm3, hbF⟩; have hSF := keep2 hSE rfl hbF)
        | (go_at_call 17; (with_reducible refine Calls.mono (rpredA_at N a n c ps v P p HP.out Hp.out _ Hl.out hn5 (HE.out.below (by exact hSF.2.2) (Nat.le_refl _))) ?_); rintro e wG ⟨b4, j4, rfl, hi4, hm4, hbG⟩; have hSG := keep2 hSF rfl hbG)
        | (go_at_call 13; (with_reducible refine Calls.mono (eq_at p b3 j3 b4 j4 P Hp.out _ hm3 (hi3.below hbG (Nat.le_refl _)) hi4) ?_); rintro e wH ⟨rfl, hdH⟩; have hSH := keep2 hSG rfl (hdH.below _))
        | (go_at_call 19; (with_reducible refine Calls.mono (turnA_at N a n c ps N' qs l HR.out Hq.out _ Hl.out (HE.out.below (by exact hSH.2.2) (Nat.le_refl _))) ?_); rintro e wI ⟨b5, j5, rfl, hi5, hbI⟩; have hSI := keep2 hSH rfl hbI)
        | (go_at_call 20; (with_reducible refine Calls.mono (rturnA_at N a n c ps N' qs l HR.out Hq.out _ Hl.out hn5 (HE.out.below (by exact hSI.2.2) (Nat.le_refl _))) ?_); rintro e wJ ⟨b6, j6, rfl, hi6, hbJ⟩; have hSJ := keep2 hSI rfl hbJ)
        | (go_at_call 18; (with_reducible refine Calls.mono (samg_at N' b5 l j5 qs b6 j6 _ Hq.out hlm (hi5.below hbJ (Nat.le_refl _)) hi6) ?_); rintro e wK ⟨rfl, hbK⟩; have hSK := keep2 hSJ rfl hbK)
        | (go_at_call 10; (with_reducible refine Calls.mono (awake_any _) ?_); rintro e wL ⟨rfl, hbL⟩; have hSL := keep2 hSK rfl hbL))
    go_wp2
    go_ret
    exact ⟨rfl, HB0.out.trans (hSL.2.2.mono (Nat.le_of_lt hz0))⟩
end Go.Proofs.Ythgnbpiemkcdhaa
