/-
  GraphPostorder: the walk of the law.
-/
import Derived.Test.YthgnbpiemkcdhaaGRPost
import Derived.Test.YthgnbpiemkcdhaaGOrderA
import Derived.Test.YthgnbpiemkcdhaaGTells
namespace Go.Proofs.Ythgnbpiemkcdhaa
open Go.RowKit Go.Shelf Go.WideShapes
set_option linter.unusedVariables false

set_option maxHeartbeats 1000000 in
theorem rpost_bad (N : Int) (a : Option Addr) (n c : Nat) (ps : List (Int × Int)) (hl : ps.length = n) (root : Int) (w : World) (hn : n ≤ maxLen) (hE : Pairs w a ps) (hbad : nodeB N ps root = false) :
    Calls Try.prog 29 #[.agg #[.int .i64 N, .slice a n c], .int .i64 root] w fun e w' => e = .returned (.slice none 0 0) ∧ Below w.heap.size w w' := by
  have hb0 := (Below.refl w.heap.size w).alloc (Nat.le_refl _) (Obj.cells #[Value.int .i64 N, Value.slice a n c] 24)
  have hck := rnode_at N a n c ps root false hbad (w.alloc (Obj.cells #[Value.int .i64 N, Value.slice a n c] 24)) hl hn (hE.below hb0 (Nat.le_refl _))
  have Hb0 := Lib.hid hb0
  have Hck := Lib.hid hck
  clear hck hb0 hE hl hn hbad
  go_enter Try.func29, Try.ntmps29
  go_wp2_with (go_at_call 34; refine Hck.out.mono ?_; rintro e w1 ⟨rfl, hb1⟩; have Hb1 := Lib.hid hb1; clear hb1)
  go_ret
  exact ⟨rfl, Hb0.out.trans (Hb1.out.mono (by simp))⟩
theorem rpostA_at (N : Int) (a : Option Addr) (n c : Nat) (ps : List (Int × Int)) (root : Int) (zs : List Int) (m : Nat) (hz : postA N ps root = zs) (hm : zs.length = m) (w : World) (hl : ps.length = n) (hE : Edg w a c ps) :
    Calls Try.prog 29 #[.agg #[.int .i64 N, .slice a n c], .int .i64 root] w fun e w' => ∃ b k, e = .returned (.slice b m k) ∧ Ints w' b zs ∧ m ≤ maxLen ∧ Below w.heap.size w w' := by
  have hcap : n ≤ maxLen := by have := hE.cap; have := hE.max; omega
  unfold postA at hz
  by_cases h : gchk N ps = 0 ∧ isNd N root = true
  · rw [if_pos h] at hz
    obtain ⟨h1, h2⟩ := h
    have h3 := isNd_iff.1 h2
    obtain ⟨M, rfl⟩ : ∃ M : Nat, N = (M : Int) := ⟨N.toNat, by omega⟩
    obtain ⟨r, rfl⟩ : ∃ r : Nat, root = (r : Int) := ⟨root.toNat, by omega⟩
    rw [Int.toNat_natCast] at hz
    refine (rpost_good M a n c ps hl r w hE h1 (by omega)).mono ?_
    rintro e w' ⟨v, rfl, ho, hb⟩
    rw [hz] at ho
    have hle := own_le ho
    obtain ⟨b, k, rfl, hi⟩ := ho.shape
    exact ⟨b, k, by rw [hm], hi, by rw [← hm]; exact hle, hb⟩
  · rw [if_neg h] at hz
    subst hz
    obtain rfl : m = 0 := by rw [← hm]; rfl
    refine (rpost_bad N a n c ps hl root w hcap hE.pairs ?_).mono ?_
    · unfold nodeB
      by_cases h1 : gchk N ps = 0
      · rw [h1]
        cases h2 : isNd N root with
        | true => exact absurd ⟨h1, h2⟩ h
        | false => rfl
      · rw [decide_eq_false h1]; rfl
    · rintro e w' ⟨rfl, hb⟩
      exact ⟨_, _, rfl, fun h => absurd h (by simp), Nat.zero_le _, hb⟩

set_option maxHeartbeats 4000000 in
set_option maxRecDepth 100000 in
theorem post_row (N : Int) (a : Option Addr) (c : Nat) (ps : List (Int × Int)) (root : Int) (w : World) (hE : Edg w a c ps) (hw : (Lit.int .i64 root).wf = true) :
    Calls Try.prog 6 #[.agg #[.int .i64 N, .slice a ps.length c], .int .i64 root] w fun e w' => e = .returned (.bool true) ∧ Below w.heap.size w w' := by
  have hcap : ps.length ≤ maxLen := by have := hE.cap; have := hE.max; omega
  obtain ⟨n, hl⟩ : ∃ n, ps.length = n := ⟨_, rfl⟩
  have hcap' := hcap
  unfold maxLen at hcap'
  rw [hl] at hcap' hcap ⊢
  have Hb0 := Lib.hid ((Below.refl w.heap.size w).alloc (Nat.le_refl _) (Obj.cells #[Value.int .i64 N, Value.slice a n c] 24))
  by_cases hbig : 400 < n
  · clear hE hl
    go_enter Try.func6, Try.ntmps6
    go_wp2_with (go_at_call 10; refine (awake_any _).mono ?_; rintro e w' ⟨rfl, hb⟩)
    go_ret
    exact ⟨rfl, Hb0.out.trans (hb.mono (by simp))⟩
  · obtain ⟨P, hP⟩ : ∃ P, postA N ps root = P := ⟨_, rfl⟩
    obtain ⟨p, hp⟩ : ∃ p, P.length = p := ⟨_, rfl⟩
    obtain ⟨w0, hw0⟩ : ∃ w0, w.alloc (Obj.cells #[Value.int .i64 N, Value.slice a n c] 24) = w0 := ⟨_, rfl⟩
    have hz0 : w.heap.size < w0.heap.size := by rw [← hw0]; simp
    have q0 : w0.cell? ⟨w.heap.size, 0, none⟩ = some (.int .i64 N) := by rw [← hw0]; simp [go_sem]
    have q1 : w0.cell? ⟨w.heap.size, 1, none⟩ = some (.slice a n c) := by rw [← hw0]; simp [go_sem]
    have HB0 : Hid (Below w.heap.size w w0) := by show Below _ _ _; rw [← hw0]; exact Hb0.out
    have HE := Lib.hid (hE.below HB0.out (Nat.le_refl _))
    have Hw0 := Lib.hid hw0
    have Hl := Lib.hid hl
    have HP := Lib.hid hP
    have Hp := Lib.hid hp
    have hS0 : w0.drew.cell? ⟨w.heap.size, 0, none⟩ = some (.int .i64 N) ∧ w0.drew.cell? ⟨w.heap.size, 1, none⟩ = some (.slice a n c) ∧ Below w0.heap.size w0 w0.drew := ⟨q0, q1, Drawn.below ⟨1, rfl⟩ _⟩
    clear hE hl hP hp hw0
    go_enter Try.func6, Try.ntmps6
    go_wp2_with fail
    rw [Hw0.out]
    go_region_held3 (fun X => X.cell? ⟨w.heap.size, 0, none⟩ = some (.int .i64 N) ∧ X.cell? ⟨w.heap.size, 1, none⟩ = some (.slice a n c) ∧ Below w0.heap.size w0 X)
      (first
        | (with_reducible assumption)
        | fail)
      (first
        | (go_at_call 28; (with_reducible refine Calls.mono (postA_at N a n c ps root P p HP.out Hp.out _ Hl.out (HE.out.below (by exact (by assumption : _ ∧ _ ∧ _).2.2) (Nat.le_refl _))) ?_); rintro e wA ⟨b1, j1, rfl, hi1, hm1, _, hbA⟩; have hSA := keep2 (by assumption) rfl hbA)
        | (go_at_call 29; (with_reducible refine Calls.mono (rpostA_at N a n c ps root P p HP.out Hp.out _ Hl.out (HE.out.below (by exact hSA.2.2) (Nat.le_refl _))) ?_); rintro e wB ⟨b2, j2, rfl, hi2, hm2, hbB⟩; have hSB := keep2 hSA rfl hbB)
        | (go_at_call 13; (with_reducible refine Calls.mono (eq_at p b1 j1 b2 j2 P Hp.out _ hm1 (hi1.below hbB (Nat.le_refl _)) hi2) ?_); rintro e wE ⟨rfl, hdE⟩; have hSE := keep2 hSB rfl (hdE.below _))
        | (go_at_call 10; (with_reducible refine Calls.mono (awake_any _) ?_); rintro e wL ⟨rfl, hbL⟩; have hSL := keep2 hSE rfl hbL))
    go_wp2
    go_ret
    exact ⟨rfl, HB0.out.trans (hSL.2.2.mono (Nat.le_of_lt hz0))⟩
end Go.Proofs.Ythgnbpiemkcdhaa
