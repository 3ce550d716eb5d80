/-
  SccCondenses: the walk of the law.
-/
import Derived.Test.YtopbbihbpalnlaaSAwake
import Derived.Test.YtopbbihbpalnlaaSConP
namespace Go.Proofs.Ytopbbihbpalnlaa
open Go.RowKit Go.Shelf Go.WideShapes
set_option linter.unusedVariables false
def smallB (N : Int) (n : Nat) : Bool := decide (N ≤ 40) && decide (n ≤ 200)
theorem small_any (N : Int) (a : Option Addr) (n c : Nat) (w : World) : Calls Try.prog 9 #[.agg #[.int .i64 N, .slice a n c]] w fun e w' => e = .returned (.bool (smallB N n)) ∧ Below w.heap.size w w' := by
  have Hb0 := Lib.hid ((Below.refl w.heap.size w).alloc (Nat.le_refl _) (Obj.cells #[Value.int .i64 N, Value.slice a n c] 24))
  by_cases h1 : N ≤ 40
  · by_cases h2 : n ≤ 200
    · have e1 : decide (N ≤ 40) = true := decide_eq_true h1
      have e2 : decide ((n : Int) ≤ 200) = true := by rw [decide_eq_true_iff]; omega
      have Hs : Hid (smallB N n = true) := by show _ = _; unfold smallB; rw [e1, decide_eq_true h2]; rfl
      go_enter Try.func9, Try.ntmps9
      go_wp2
      go_ret
      exact ⟨by rw [Hs.out]; rfl, Hb0.out⟩
    · have e1 : decide (N ≤ 40) = true := decide_eq_true h1
      have e2 : decide ((n : Int) ≤ 200) = false := by rw [decide_eq_false_iff_not]; omega
      have Hs : Hid (smallB N n = false) := by show _ = _; unfold smallB; rw [e1, decide_eq_false h2]; rfl
      go_enter Try.func9, Try.ntmps9
      go_wp2
      go_ret
      exact ⟨by rw [Hs.out]; rfl, Hb0.out⟩
  · have e1 : decide (N ≤ 40) = false := decide_eq_false h1
    have Hs : Hid (smallB N n = false) := by show _ = _; unfold smallB; rw [e1]; rfl
    go_enter Try.func9, Try.ntmps9
    go_wp2
    go_ret
    exact ⟨by rw [Hs.out]; rfl, Hb0.out⟩
/-- What both condensed graphs are. -/
def CondD (N : Int) (ps : List (Int × Int)) (k : Int) (L : List (List Nat)) (M : Int) (qs : List (Int × Int)) : Prop := (k ≠ 0 ∧ M = 0 ∧ qs = []) ∨ (k = 0 ∧ M = (L.length : Int) ∧ Canon (condP N.toNat L ps) qs)
theorem CondD.unique {N : Int} {ps : List (Int × Int)} {k : Int} {L : List (List Nat)} {M M2 : Int} {qs qs2 : List (Int × Int)} (h : CondD N ps k L M qs) (h2 : CondD N ps k L M2 qs2) : M2 = M ∧ qs2 = qs := by
  rcases h with ⟨a, b, d⟩ | ⟨a, b, d⟩
  · rcases h2 with ⟨a2, b2, d2⟩ | ⟨a2, b2, d2⟩
    · exact ⟨by rw [b, b2], by rw [d, d2]⟩
    · exact absurd a2 a
  · rcases h2 with ⟨a2, b2, d2⟩ | ⟨a2, b2, d2⟩
    · exact absurd a a2
    · exact ⟨by rw [b, b2], d2.unique d⟩
theorem cond_uni {w1 : World} {N : Int} {ps : List (Int × Int)} {k : Int} {L : List (List Nat)} {e1 : Ending} (h1 : (k ≠ 0 ∧ e1 = .returned (.tuple #[.agg #[.int .i64 0, .slice none 0 0], .int .i64 k])) ∨
    (k = 0 ∧ ∃ qs m l a' c', L.length = m ∧ qs.length = l ∧ Canon (condP N.toNat L ps) qs ∧ l ≤ ps.length ∧ Edg w1 a' c' qs ∧ e1 = .returned (.tuple #[.agg #[.int .i64 (m : Int), .slice a' l c'], .int .i64 0]))) :
    ∃ (M : Int) (qs : List (Int × Int)) (l : Nat) (a1 : Option Addr) (c1 : Nat), CondD N ps k L M qs ∧ qs.length = l ∧ l ≤ ps.length ∧ e1 = .returned (.tuple #[.agg #[.int .i64 M, .slice a1 l c1], .int .i64 k]) ∧ Pairs w1 a1 qs := by
  rcases h1 with ⟨hk, rfl⟩ | ⟨rfl, qs, m, l, a1, c1, hm, hl, hc, hle, hE, rfl⟩
  · exact ⟨0, [], 0, none, 0, .inl ⟨hk, rfl, rfl⟩, rfl, Nat.zero_le _, rfl, fun h => absurd h (by simp)⟩
  · exact ⟨_, qs, l, a1, c1, .inr ⟨rfl, by rw [hm], hc⟩, hl, hle, rfl, hE.pairs⟩
theorem rcond_uni {w1 w2 : World} {N : Int} {ps : List (Int × Int)} {k : Int} {L : List (List Nat)} {e2 : Ending} {M : Int} {qs : List (Int × Int)} {l : Nat} (h2 : RCondEnd w1 N ps k L e2 w2) (hd : CondD N ps k L M qs) (hl : qs.length = l) :
    ∃ (a2 : Option Addr) (c2 : Nat), e2 = .returned (.tuple #[.agg #[.int .i64 M, .slice a2 l c2], .int .i64 k]) ∧ Pairs w2 a2 qs ∧ Below w1.heap.size w1 w2 := by
  obtain ⟨hb2, h2⟩ := h2
  rcases h2 with ⟨hk, rfl⟩ | ⟨rfl, qs2, m2, l2, a2, c2, hm2, hl2, hc2, _, hE2, rfl⟩
  · obtain ⟨rfl, rfl⟩ := hd.unique (.inl ⟨hk, rfl, rfl⟩)
    subst hl
    exact ⟨none, 0, rfl, fun h => absurd h (by simp), hb2⟩
  · obtain ⟨rfl, rfl⟩ := hd.unique (.inr ⟨rfl, rfl, hc2⟩)
    subst hl
    exact ⟨a2, c2, by rw [hm2, hl2], hE2, hb2⟩
theorem keep6 {W X X' : World} {p0 p1 p2 p3 p4 p5 : Addr} {B : Nat} {u0 u1 u2 u3 u4 u5 : Value} (H : X.cell? p0 = some u0 ∧ X.cell? p1 = some u1 ∧ X.cell? p2 = some u2 ∧ X.cell? p3 = some u3 ∧ X.cell? p4 = some u4 ∧ X.cell? p5 = some u5 ∧ Below B W X) (hB : W.heap.size = B) (hb : Below X.heap.size X X') :
    X'.cell? p0 = some u0 ∧ X'.cell? p1 = some u1 ∧ X'.cell? p2 = some u2 ∧ X'.cell? p3 = some u3 ∧ X'.cell? p4 = some u4 ∧ X'.cell? p5 = some u5 ∧ Below B W X' := by
  obtain ⟨h0, h1, h2, h3, h4, h5, h6⟩ := H
  have hs := h6.size
  have hk : ∀ (p : Addr) (u : Value), X.cell? p = some u → X'.cell? p = some u := fun p u h => (hb.cell (World.block_lt_of_cell? _ _ h)).trans h
  exact ⟨hk _ _ h0, hk _ _ h1, hk _ _ h2, hk _ _ h3, hk _ _ h4, hk _ _ h5, h6.trans (hb.mono (by omega))⟩
set_option maxHeartbeats 8000000 in
set_option maxRecDepth 100000 in
theorem condl_row (N : Int) (a : Option Addr) (c : Nat) (ps : List (Int × Int)) (v : Int) (w : World) (hE : Edg w a c ps) (hwv : (Lit.int .i64 v).wf = true) :
    Calls Try.prog 4 #[.agg #[.int .i64 N, .slice a ps.length c], .int .i64 v] w fun e w' => e = .returned (.bool true) ∧ Below w.heap.size w w' := by
  have hcap : ps.length ≤ maxLen := by have := hE.cap; have := hE.max; omega
  obtain ⟨n, hl⟩ : ∃ n, ps.length = n := ⟨_, rfl⟩
  rw [hl] at hcap ⊢
  obtain ⟨k, hk⟩ : ∃ k, gchk N ps = k := ⟨_, rfl⟩
  obtain ⟨w0, hw0⟩ : ∃ w0, w.alloc (Obj.cells #[Value.int .i64 N, Value.slice a n c] 24) = w0 := ⟨_, rfl⟩
  have hz0 : w.heap.size < w0.heap.size := by rw [← hw0]; simp
  have q0 : w0.cell? ⟨w.heap.size, 0, none⟩ = some (.int .i64 N) := by rw [← hw0]; simp [go_sem]
  have q1 : w0.cell? ⟨w.heap.size, 1, none⟩ = some (.slice a n c) := by rw [← hw0]; simp [go_sem]
  have HB0 : Hid (Below w.heap.size w w0) := by show Below _ _ _; rw [← hw0]; exact (Below.refl w.heap.size w).alloc (Nat.le_refl _) _
  have HE := Lib.hid (hE.below HB0.out (Nat.le_refl _))
  obtain ⟨sm, hsm⟩ : ∃ s, smallB N n = s := ⟨_, rfl⟩
  have hsa := small_any N a n c w0
  rw [hsm] at hsa
  have Hsa := Lib.hid hsa
  have Hsm := Lib.hid hsm
  have Hw0 := Lib.hid hw0
  have Hl := Lib.hid hl
  have Hk := Lib.hid hk
  clear hE hl hk hw0 hsa hsm
  go_enter Try.func4, Try.ntmps4
  go_wp2_with fail
  rw [Hw0.out]
  refine Hsa.out.mono ?_
  rintro e w1 ⟨rfl, hb1⟩
  have g0 := (hb1.cell (p := ⟨w.heap.size, 0, none⟩) hz0).trans q0
  have g1 := (hb1.cell (p := ⟨w.heap.size, 1, none⟩) hz0).trans q1
  have hz1 : w.heap.size < w1.heap.size := by have := hb1.size; omega
  have HB1 := Lib.hid (HB0.out.trans (hb1.mono (Nat.le_of_lt hz0)))
  have HE1 := Lib.hid (HE.out.below hb1 (Nat.le_refl _))
  clear hb1 q0 q1 HE
  cases sm with
  | false =>
    go_wp2_with fail
    refine (awake_any w1).mono ?_
    rintro e w2 ⟨rfl, hb2⟩
    have HB2 := Lib.hid (HB1.out.trans (hb2.mono HB1.out.size))
    clear hb2
    go_wp2
    go_ret
    exact ⟨rfl, HB2.out⟩
  | true =>
  have hn200 : n ≤ 200 := by
    have := Hsm.out
    unfold smallB at this
    rw [Bool.and_eq_true] at this
    exact of_decide_eq_true this.2
  go_wp2_with fail
  refine (cond_any N a n c ps Hl.out hcap w1 HE1.out.pairs k Hk.out).mono ?_
  rintro e w2 ⟨L, hC, hb2, hres⟩
  obtain ⟨M, qs, l, a1, c1, hcd, hql, hlps, rfl, hpq⟩ := cond_uni hres
  have k0 := (hb2.cell (p := ⟨w.heap.size, 0, none⟩) hz1).trans g0
  have k1 := (hb2.cell (p := ⟨w.heap.size, 1, none⟩) hz1).trans g1
  have hz2 : w.heap.size < w2.heap.size := by have := hb2.size; omega
  have HB2 := Lib.hid (HB1.out.trans (hb2.mono (Nat.le_of_lt hz1)))
  have HE2 := Lib.hid (HE1.out.below hb2 (Nat.le_refl _))
  rw [Hl.out] at hlps
  obtain ⟨w3, hw3⟩ : ∃ w3, w2.alloc (Obj.cells #[Value.int .i64 M, Value.slice a1 l c1] 24) = w3 := ⟨_, rfl⟩
  have hb3 : Below w2.heap.size w2 w3 := by rw [← hw3]; exact (Below.refl _ _).alloc (Nat.le_refl _) _
  have hs3 : w3.heap.size = w2.heap.size + 1 := by rw [← hw3]; simp
  have c0 : w3.cell? ⟨w2.heap.size, 0, none⟩ = some (.int .i64 M) := by rw [← hw3]; simp [go_sem]
  have c1' : w3.cell? ⟨w2.heap.size, 1, none⟩ = some (.slice a1 l c1) := by rw [← hw3]; simp [go_sem]
  have m0 := (hb3.cell (p := ⟨w.heap.size, 0, none⟩) hz2).trans k0
  have m1 := (hb3.cell (p := ⟨w.heap.size, 1, none⟩) hz2).trans k1
  have HB3 := Lib.hid (HB2.out.trans (hb3.mono (Nat.le_of_lt hz2)))
  have HE3 := Lib.hid (HE2.out.below hb3 (Nat.le_refl _))
  have Hpq3 := Lib.hid (hpq.below hb3 (Nat.le_refl _))
  have hrc := rcond_any N a n c ps Hl.out hcap w3 HE3.out.pairs k Hk.out L hC
  have Hrc := Lib.hid (hrc.mono fun e w' h => rcond_uni h hcd hql)
  have Hw3 := Lib.hid hw3
  have Hql := Lib.hid hql
  clear hb2 hres hcd hql hpq hb3 hw3 hrc hC g0 g1 HE1 HE2
  go_wp2_with fail
  rw [Hw3.out]
  refine Hrc.out.mono ?_
  rintro e w4 ⟨a2, c2, rfl, hp4, hb4⟩
  have n0 := (hb4.cell (p := ⟨w.heap.size, 0, none⟩) (by show w.heap.size < _; omega)).trans m0
  have n1 := (hb4.cell (p := ⟨w.heap.size, 1, none⟩) (by show w.heap.size < _; omega)).trans m1
  have d0 := (hb4.cell (p := ⟨w2.heap.size, 0, none⟩) (by show w2.heap.size < _; omega)).trans c0
  have d1 := (hb4.cell (p := ⟨w2.heap.size, 1, none⟩) (by show w2.heap.size < _; omega)).trans c1'
  have hs4 := hb4.size
  have HB4 := Lib.hid (HB3.out.trans (hb4.mono (by omega)))
  have HE4 := Lib.hid (HE3.out.below hb4 (Nat.le_refl _))
  have Hpq4 := Lib.hid (Hpq3.out.below hb4 (Nat.le_refl _))
  obtain ⟨w5, hw5⟩ : ∃ w5, w4.alloc (Obj.cells #[Value.int .i64 M, Value.slice a2 l c2] 24) = w5 := ⟨_, rfl⟩
  have hb5 : Below w4.heap.size w4 w5 := by rw [← hw5]; exact (Below.refl _ _).alloc (Nat.le_refl _) _
  have hs5 : w5.heap.size = w4.heap.size + 1 := by rw [← hw5]; simp
  have f0 : w5.cell? ⟨w4.heap.size, 0, none⟩ = some (.int .i64 M) := by rw [← hw5]; simp [go_sem]
  have f1 : w5.cell? ⟨w4.heap.size, 1, none⟩ = some (.slice a2 l c2) := by rw [← hw5]; simp [go_sem]
  have o0 := (hb5.cell (p := ⟨w.heap.size, 0, none⟩) (by show w.heap.size < _; omega)).trans n0
  have o1 := (hb5.cell (p := ⟨w.heap.size, 1, none⟩) (by show w.heap.size < _; omega)).trans n1
  have s0 := (hb5.cell (p := ⟨w2.heap.size, 0, none⟩) (by show w2.heap.size < _; omega)).trans d0
  have s1 := (hb5.cell (p := ⟨w2.heap.size, 1, none⟩) (by show w2.heap.size < _; omega)).trans d1
  have HB5 := Lib.hid (HB4.out.trans (hb5.mono (by omega)))
  have HE5 := Lib.hid (HE4.out.below hb5 (Nat.le_refl _))
  have Hpq5 := Lib.hid (Hpq4.out.below hb5 (Nat.le_refl _))
  have Hpr5 := Lib.hid (hp4.below hb5 (Nat.le_refl _))
  have Hw5 := Lib.hid hw5
  have e1 : (k == k) = true := by simp
  have hz4 : w.heap.size < w4.heap.size := by omega
  have hz24 : w2.heap.size < w4.heap.size := by omega
  clear hb4 hb5 hw5 hp4 m0 m1 c0 c1' HE3 HE4 Hpq3 Hpq4 Hrc k0 k1
  have hsame : ∀ X, Below w5.heap.size w5 X → Calls Try.prog 21 #[.agg #[.int .i64 M, .slice a1 l c1], .agg #[.int .i64 M, .slice a2 l c2]] X fun e w' => e = .returned (.bool true) ∧ Below X.heap.size X w' := fun X hX => by
    have := same_any M a1 c1 qs M a2 c2 qs X (by rw [Hql.out]; unfold maxLen; omega) (by rw [Hql.out]; unfold maxLen; omega) (Hpq5.out.below hX (Nat.le_refl _)) (Hpr5.out.below hX (Nat.le_refl _))
    rw [Hql.out, show sameG M qs M qs = true by unfold sameG; simp] at this
    exact this
  obtain ⟨t1, ht1⟩ : ∃ t, decide (v ∈ rA N ps v) = t := ⟨_, rfl⟩
  obtain ⟨t2, ht2⟩ : ∃ t, acyB N ps = t := ⟨_, rfl⟩
  have hrec : ∀ X, Below w5.heap.size w5 X → Calls Try.prog 22 #[.agg #[.int .i64 N, .slice a n c], .int .i64 v] X fun e w' => e = .returned (.bool t1) ∧ Below X.heap.size X w' := fun X hX => rec_any N a n c ps v X Hl.out hcap (HE5.out.below hX (Nat.le_refl _)) t1 ht1
  have hrrec : ∀ X, Below w5.heap.size w5 X → Calls Try.prog 23 #[.agg #[.int .i64 N, .slice a n c], .int .i64 v] X fun e w' => e = .returned (.bool t1) ∧ Below X.heap.size X w' := fun X hX => rrec_any N a n c ps v X Hl.out (by omega) (HE5.out.below hX (Nat.le_refl _)) t1 ht1
  have hacy : ∀ X, Below w5.heap.size w5 X → Calls Try.prog 24 #[.agg #[.int .i64 N, .slice a n c]] X fun e w' => e = .returned (.bool t2) ∧ Below X.heap.size X w' := fun X hX => by
    have := acyclic_any N a n c ps Hl.out hcap X (HE5.out.below hX (Nat.le_refl _)).pairs
    rw [ht2] at this
    exact this
  have hracy : ∀ X, Below w5.heap.size w5 X → Calls Try.prog 25 #[.agg #[.int .i64 N, .slice a n c]] X fun e w' => e = .returned (.bool t2) ∧ Below X.heap.size X w' := fun X hX => racy_any N a n c ps X Hl.out (by omega) (HE5.out.below hX (Nat.le_refl _)) t2 ht2
  have Hsame := Lib.hid hsame
  have Hrec := Lib.hid hrec
  have Hrrec := Lib.hid hrrec
  have Hacy := Lib.hid hacy
  have Hracy := Lib.hid hracy
  have b1 : (t1 == t1) = true := by simp
  have b2 : (t2 == t2) = true := by simp
  clear hsame hrec hrrec hacy hracy ht1 ht2
  have hz05 : w.heap.size ≤ w5.heap.size := by omega
  go_wp2_with fail
  rw [Hw5.out]
  have hS0 : w5.cell? ⟨w.heap.size, 0, none⟩ = some (.int .i64 N) ∧ w5.cell? ⟨w.heap.size, 1, none⟩ = some (.slice a n c) ∧ w5.cell? ⟨w2.heap.size, 0, none⟩ = some (.int .i64 M) ∧ w5.cell? ⟨w2.heap.size, 1, none⟩ = some (.slice a1 l c1) ∧ w5.cell? ⟨w4.heap.size, 0, none⟩ = some (.int .i64 M) ∧ w5.cell? ⟨w4.heap.size, 1, none⟩ = some (.slice a2 l c2) ∧ Below w5.heap.size w5 w5 := ⟨o0, o1, s0, s1, f0, f1, Below.refl _ _⟩
  have hS1 : w5.drew.cell? ⟨w.heap.size, 0, none⟩ = some (.int .i64 N) ∧ w5.drew.cell? ⟨w.heap.size, 1, none⟩ = some (.slice a n c) ∧ w5.drew.cell? ⟨w2.heap.size, 0, none⟩ = some (.int .i64 M) ∧ w5.drew.cell? ⟨w2.heap.size, 1, none⟩ = some (.slice a1 l c1) ∧ w5.drew.cell? ⟨w4.heap.size, 0, none⟩ = some (.int .i64 M) ∧ w5.drew.cell? ⟨w4.heap.size, 1, none⟩ = some (.slice a2 l c2) ∧ Below w5.heap.size w5 w5.drew := ⟨o0, o1, s0, s1, f0, f1, (Below.refl _ _).drew⟩
  clear o0 o1 s0 s1 f0 f1 n0 n1 d0 d1
  go_region_held3 (fun X => X.cell? ⟨w.heap.size, 0, none⟩ = some (.int .i64 N) ∧ X.cell? ⟨w.heap.size, 1, none⟩ = some (.slice a n c) ∧ X.cell? ⟨w2.heap.size, 0, none⟩ = some (.int .i64 M) ∧ X.cell? ⟨w2.heap.size, 1, none⟩ = some (.slice a1 l c1) ∧ X.cell? ⟨w4.heap.size, 0, none⟩ = some (.int .i64 M) ∧ X.cell? ⟨w4.heap.size, 1, none⟩ = some (.slice a2 l c2) ∧ Below w5.heap.size w5 X)
    (first
      | (with_reducible assumption)
      | fail)
    (first
      | (go_at_call 21; (with_reducible refine Calls.mono (Hsame.out _ (by exact (by assumption : _ ∧ _ ∧ _ ∧ _ ∧ _ ∧ _ ∧ _).2.2.2.2.2.2)) ?_); rintro e wA ⟨rfl, hbA⟩; have hSA := keep6 (by assumption) rfl hbA)
      | (go_at_call 22; (with_reducible refine Calls.mono (Hrec.out _ (by exact hSA.2.2.2.2.2.2)) ?_); rintro e wB ⟨rfl, hbB⟩; have hSB := keep6 hSA rfl hbB)
      | (go_at_call 23; (with_reducible refine Calls.mono (Hrrec.out _ (by exact hSB.2.2.2.2.2.2)) ?_); rintro e wC ⟨rfl, hbC⟩; have hSC := keep6 hSB rfl hbC)
      | (go_at_call 24; (with_reducible refine Calls.mono (Hacy.out _ (by exact hSC.2.2.2.2.2.2)) ?_); rintro e wD ⟨rfl, hbD⟩; have hSD := keep6 hSC rfl hbD)
      | (go_at_call 25; (with_reducible refine Calls.mono (Hracy.out _ (by exact hSD.2.2.2.2.2.2)) ?_); rintro e wE ⟨rfl, hbE⟩; have hSE := keep6 hSD rfl hbE)
      | (go_at_call 10; (with_reducible refine Calls.mono (awake_any _) ?_); rintro e wF ⟨rfl, hbF⟩; have hSF := keep6 hSE rfl hbF))
  all_goals
    go_wp2
    go_ret
    exact ⟨rfl, HB5.out.trans (hSF.2.2.2.2.2.2.mono hz05)⟩
end Go.Proofs.Ytopbbihbpalnlaa
