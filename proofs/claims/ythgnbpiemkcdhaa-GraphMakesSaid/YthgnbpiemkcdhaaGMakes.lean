/-
  GraphMakes: the walk of the law.
-/
import Derived.Test.YthgnbpiemkcdhaaGRAll
namespace Go.Proofs.Ythgnbpiemkcdhaa
open Go.RowKit Go.Shelf Go.WideShapes
set_option linter.unusedVariables false

theorem makeE_ok {n : Int} {ps : List (Int × Int)} (h : makeE n ps = 0) : 0 ≤ n ∧ n ≤ 8192 ∧ inN n ps = true := by
  unfold makeE at h
  by_cases c1 : n < 0
  · rw [if_pos c1] at h; cases h
  rw [if_neg c1] at h
  by_cases c2 : 8192 < n
  · rw [if_pos c2] at h; cases h
  rw [if_neg c2] at h
  by_cases c3 : inN n ps = false
  · rw [if_pos c3] at h; cases h
  · exact ⟨by omega, by omega, by simpa using c3⟩
set_option maxHeartbeats 3200000 in
set_option maxRecDepth 100000 in
theorem makes_row (n : Int) (a : Option Addr) (c : Nat) (ps : List (Int × Int)) (w : World) (hw : (Lit.int .i64 n).wf = true) (hE : Edg w a c ps) :
    Calls Try.prog 4 #[.int .i64 n, .slice a ps.length c] w fun e w' => e = .returned (.bool true) ∧ Below w.heap.size w w' := by
  have hcap : ps.length ≤ maxLen := by have := hE.cap; have := hE.max; omega
  obtain ⟨m, hl⟩ : ∃ m, ps.length = m := ⟨_, rfl⟩
  have hcap' := hcap
  unfold maxLen at hcap'
  rw [hl] at hcap' hcap ⊢
  by_cases hbig : 400 < m
  · clear hE hl
    go_enter Try.func4, Try.ntmps4
    go_wp2_with (go_at_call 10; refine (awake_any _).mono ?_; rintro e w' ⟨rfl, hb⟩)
    go_ret
    exact ⟨rfl, hb⟩
  · obtain ⟨er, N', qs, hM, hqn⟩ := mkOf_ex n ps
    obtain ⟨l, hq⟩ : ∃ l, qs.length = l := ⟨_, rfl⟩
    have hln : l ≤ 400 := by omega
    have hlm : l ≤ maxLen := by unfold maxLen; omega
    have hchk : er = 0 → gchk N' qs = 0 := fun h => by
      obtain ⟨h1, ⟨_, rfl, hc⟩ | ⟨h2, _⟩⟩ := hM
      · have := makeE_ok (h1.trans h)
        exact gchk_of (hc.valid this.1 this.2.1 (by omega) this.2.2)
      · exact absurd h h2
    have HE := Lib.hid hE
    have Hl := Lib.hid hl
    have HM := Lib.hid hM
    have Hq := Lib.hid hq
    have Hchk := Lib.hid hchk
    clear hE hl hM hq hchk hqn
    go_enter Try.func4, Try.ntmps4
    go_wp2_with fail
    refine (makeA_at n a m c ps er N' qs l HM.out Hq.out w Hl.out (by omega) HE.out).mono ?_
    rintro e w1 ⟨b1, k1, rfl, hp1, hb1⟩
    have Hp1 := Lib.hid hp1
    have Hb1 := Lib.hid hb1
    have hs1 := hb1.size
    have hba := Lib.hid ((Below.refl w1.heap.size w1).alloc (Nat.le_refl _) (Obj.cells #[.int .i64 N', .slice b1 l k1] 24))
    clear hp1 hb1
    go_wp2_with fail
    refine (rmakeA_at n a m c ps er N' qs l HM.out Hq.out _ Hl.out (by omega) (HE.out.below (Hb1.out.trans (hba.out.mono hs1)) (Nat.le_refl _))).mono ?_
    rintro e w2 ⟨b2, k2, rfl, hp2, hb2⟩
    have hs2 : w1.heap.size < w2.heap.size := by have := hb2.size; simp at this; omega
    have c0 := (hb2.cell (p := ⟨w1.heap.size, 0, none⟩) (by simp)).trans (show _ = some (Value.int .i64 N') by simp [go_sem])
    have c1 := (hb2.cell (p := ⟨w1.heap.size, 1, none⟩) (by simp)).trans (show _ = some (Value.slice b1 l k1) by simp [go_sem])
    have c0a : ∀ o, (w2.alloc o).cell? ⟨w1.heap.size, 0, none⟩ = some (Value.int .i64 N') := fun o => (((Below.refl w2.heap.size w2).alloc (Nat.le_refl _) o).cell (p := ⟨w1.heap.size, 0, none⟩) hs2).trans c0
    have c1a : ∀ o, (w2.alloc o).cell? ⟨w1.heap.size, 1, none⟩ = some (Value.slice b1 l k1) := fun o => (((Below.refl w2.heap.size w2).alloc (Nat.le_refl _) o).cell (p := ⟨w1.heap.size, 1, none⟩) hs2).trans c1
    have Hb2 := Lib.hid (((Hb1.out.trans (hba.out.mono hs1)).trans (hb2.mono (by simp; omega))).alloc (by omega) (Obj.cells #[.int .i64 N', .slice b2 l k2] 24))
    have Hp1' := Lib.hid (((Hp1.out.below hba.out (Nat.le_refl _)).below hb2 (Nat.le_refl _)).below ((Below.refl w2.heap.size w2).alloc (Nat.le_refl _) (Obj.cells #[.int .i64 N', .slice b2 l k2] 24)) (Nat.le_refl _))
    have Hp2 := Lib.hid (hp2.below ((Below.refl w2.heap.size w2).alloc (Nat.le_refl _) (Obj.cells #[.int .i64 N', .slice b2 l k2] 24)) (Nat.le_refl _))
    clear hp2 hb2 c0 c1
    go_wp2_with fail
    refine (samg_at N' b1 l k1 qs b2 k2 _ Hq.out hlm Hp1'.out Hp2.out).mono ?_
    rintro e w3 ⟨rfl, hb3⟩
    have hs3 : w2.heap.size < w3.heap.size := by have := hb3.size; simp at this; omega
    have Hb3 := Lib.hid (Hb2.out.trans (hb3.mono (by simp; omega)))
    have Hp3 := Lib.hid (Hp1'.out.below hb3 (Nat.le_refl _))
    have d0 := (hb3.cell (p := ⟨w1.heap.size, 0, none⟩) (by simp; omega)).trans (c0a _)
    have d1 := (hb3.cell (p := ⟨w1.heap.size, 1, none⟩) (by simp; omega)).trans (c1a _)
    clear hb3 c0a c1a
    by_cases her : er = 0
    · subst her
      go_wp2_with fail
      refine (chk_at N' b1 l k1 qs 0 (Hchk.out (by first | trivial | rfl)) _ Hq.out hlm Hp3.out).mono ?_
      rintro e w4 ⟨rfl, hb4⟩
      have Hb4 := Lib.hid (Hb3.out.trans (hb4.mono Hb3.out.size))
      clear hb4
      go_wp2_with (go_at_call 10; refine (awake_any _).mono ?_; rintro e w' ⟨rfl, hb⟩)
      go_ret
      exact ⟨rfl, Hb4.out.trans (hb.mono Hb4.out.size)⟩
    · have hd4 : (er != 0) = true := by rw [bne_iff_ne]; exact her
      go_wp2_with (go_at_call 10; refine (awake_any _).mono ?_; rintro e w' ⟨rfl, hb⟩)
      go_ret
      exact ⟨rfl, Hb3.out.trans (hb.mono Hb3.out.size)⟩
end Go.Proofs.Ythgnbpiemkcdhaa
