/-
  SccOrder: the walk of the law.
-/
import Derived.Test.YtopbbihbpalnlaaSAwake
import Derived.Test.YtopbbihbpalnlaaSCond
import Derived.Test.YtopbbihbpalnlaaGRCheck
namespace Go.Proofs.Ytopbbihbpalnlaa
open Go.RowKit Go.Shelf Go.WideShapes
set_option linter.unusedVariables false
theorem rc_dec {N : Nat} {ps : List (Int × Int)} (hg : GOk (N : Int) ps) (hd : ∀ e ∈ ps, e.2 < e.1) {x y : Nat} (h : Rc (suN ps) x y) : y ≤ x := by
  induction h with
  | refl => exact Nat.le_refl _
  | tail _ e ih =>
    have := hd _ ((mem_suN hg).mp e)
    simp only at this
    omega
theorem acy_dec {m : Nat} {qs : List (Int × Int)} (hg : GOk (m : Int) qs) (hd : ∀ e ∈ qs, e.2 < e.1) : acyB (m : Int) qs = true := by
  have hc := compL_comps (N := m) (su := suN qs) (srt := srt) srt_perm (suN_lt hg)
  have hl := hc.lok hg
  have hle := hl.count
  have hge : m ≤ (compL m (suN qs) srt).length := by
    have h1 : ((List.range m).map fun (x : Nat) => cx m (compL m (suN qs) srt) (x : Int)).Nodup := by
      unfold List.Nodup
      rw [List.pairwise_map]
      refine List.Pairwise.imp_of_mem ?_ (List.nodup_range (n := m))
      intro a b ha hb hne e
      rw [List.mem_range] at ha hb
      obtain ⟨a1, a2, _⟩ := hl.at_ ha
      obtain ⟨_, b2, _⟩ := hl.at_ hb
      rw [← e] at b2
      have h3 := (hc.scc _ (getD_mem a1) a a2 b).mp b2
      have := rc_dec hg hd h3.1
      have := rc_dec hg hd h3.2
      omega
    have := nodupLe (N := (compL m (suN qs) srt).length) h1 (fun x hx => by
      obtain ⟨v, hv, e⟩ := List.mem_map.mp hx
      rw [List.mem_range] at hv
      exact e ▸ (hl.at_ hv).1)
    simpa using this
  unfold acyB
  rw [if_pos (gchk_of hg), Int.toNat_natCast, show ((compL m (suN qs) srt).length == m) = true by simp; omega, Bool.true_and, Bool.not_eq_true', List.any_eq_false]
  intro e he
  have := hd e he
  simp only [beq_iff_eq]
  omega
theorem CC.order {N : Nat} {ps : List (Int × Int)} {L : List (List Nat)} (h : CC N (suN ps) L) (hg : GOk (N : Int) ps) : ∀ e ∈ ps, ixAt N L e.2 ≤ ixAt N L e.1 := by
  intro e he
  obtain ⟨⟨a1, a2⟩, a3, a4⟩ := hg.fit e he
  obtain ⟨i, b1, b2, b3⟩ := h.ixn a1 a2
  obtain ⟨j, c1, c2, c3⟩ := h.ixn a3 a4
  have hm : e.2.toNat ∈ suN ps e.1.toNat := (mem_suN hg).mpr (by rw [Int.toNat_of_nonneg a1, Int.toNat_of_nonneg a3]; exact he)
  obtain ⟨j', d1, d2⟩ := h.top i b1 _ b2 _ hm
  have := h.dis j' j (by omega) c1 _ d2 c2
  omega
theorem CC.cond_dec {N : Nat} {ps : List (Int × Int)} {L : List (List Nat)} (h : CC N (suN ps) L) (hg : GOk (N : Int) ps) : ∀ x ∈ condP N L ps, x.2 < x.1 := by
  intro x hx
  obtain ⟨e, he, h1, h2, h3⟩ := mem_condP.mp hx
  have := h.order hg e he
  omega
theorem CC.cond_ok {N : Nat} {ps qs : List (Int × Int)} {L : List (List Nat)} (h : CC N (suN ps) L) (hg : GOk (N : Int) ps) (hq : Canon (condP N L ps) qs) (hl : qs.length ≤ ps.length) : GOk (L.length : Int) qs := by
  have := h.count
  have := hg.hi
  have := hg.len
  exact hq.valid (by omega) (by omega) (by omega) (h.cond_in hg)
set_option maxHeartbeats 8000000 in
set_option maxRecDepth 100000 in
theorem ordl_row (N : Int) (a : Option Addr) (c : Nat) (ps : List (Int × Int)) (w : World) (hE : Edg w a c ps) :
    Calls Try.prog 6 #[.agg #[.int .i64 N, .slice a ps.length c]] w fun e w' => e = .returned (.bool true) ∧ Below w.heap.size w w' := by
  have hcap : ps.length ≤ maxLen := by have := hE.cap; have := hE.max; omega
  obtain ⟨n, hl⟩ : ∃ n, ps.length = n := ⟨_, rfl⟩
  have hcap' := hcap
  unfold maxLen at hcap'
  rw [hl] at hcap' hcap ⊢
  have Hb0 := Lib.hid ((Below.refl w.heap.size w).alloc (Nat.le_refl _) (Obj.cells #[Value.int .i64 N, Value.slice a n c] 24))
  by_cases hbig : 400 < n
  · clear hE hl
    go_enter Try.func6, Try.ntmps6
    go_wp2_with (go_at_call 10; refine (awake_any _).mono ?_; rintro e w' ⟨rfl, hb⟩)
    go_ret
    exact ⟨rfl, Hb0.out.trans (hb.mono (by simp))⟩
  by_cases hbig2 : 400 < N
  · clear hE hl
    go_enter Try.func6, Try.ntmps6
    go_wp2_with (go_at_call 10; refine (awake_any _).mono ?_; rintro e w' ⟨rfl, hb⟩)
    go_ret
    exact ⟨rfl, Hb0.out.trans (hb.mono (by simp))⟩
  obtain ⟨k, hk⟩ : ∃ k, gchk N ps = k := ⟨_, rfl⟩
  obtain ⟨w0, hw0⟩ : ∃ w0, w.alloc (Obj.cells #[Value.int .i64 N, Value.slice a n c] 24) = w0 := ⟨_, rfl⟩
  have hz0 : w.heap.size < w0.heap.size := by rw [← hw0]; simp
  have q0 : w0.cell? ⟨w.heap.size, 0, none⟩ = some (.int .i64 N) := by rw [← hw0]; simp [go_sem]
  have q1 : w0.cell? ⟨w.heap.size, 1, none⟩ = some (.slice a n c) := by rw [← hw0]; simp [go_sem]
  have HB0 : Hid (Below w.heap.size w w0) := by show Below _ _ _; rw [← hw0]; exact Hb0.out
  have HE := Lib.hid (hE.pairs.below HB0.out (Nat.le_refl _))
  have Hw0 := Lib.hid hw0
  have Hl := Lib.hid hl
  have Hk := Lib.hid hk
  have d1 : decide ((400 : Int) < (n : Int)) = false := by rw [decide_eq_false_iff_not]; omega
  have d2 : decide ((400 : Int) < N) = false := by rw [decide_eq_false_iff_not]; omega
  have hrcA : ∀ X, Below w0.heap.size w0 X → Calls Try.prog 28 #[.agg #[.int .i64 N, .slice a n c]] X fun e w' => e = .returned (.int .i64 k) ∧ Below X.heap.size X w' := fun X hX => by
    have := rcheck_any N a c ps X (by rw [hl]; exact hcap) (HE.out.below hX (Nat.le_refl _))
    rw [hl, hk] at this
    exact this
  have Hrc := Lib.hid hrcA
  clear hE hl hk hw0 Hb0 hrcA
  go_enter Try.func6, Try.ntmps6
  go_wp2_with fail
  rw [Hw0.out]
  refine (of_any N a n c ps Hl.out hcap w0 HE.out k Hk.out).mono ?_
  rintro e w1 ⟨L, mo, b, d, hmo, rfl, hi, hb1, hC⟩
  have g0 := (hb1.cell (p := ⟨w.heap.size, 0, none⟩) hz0).trans q0
  have g1 := (hb1.cell (p := ⟨w.heap.size, 1, none⟩) hz0).trans q1
  have hz1 : w.heap.size < w1.heap.size := by have := hb1.size; omega
  have Hb1 := Lib.hid hb1
  have HE1 := Lib.hid (HE.out.below hb1 (Nat.le_refl _))
  have Hmo := Lib.hid hmo
  have Hi := Lib.hid hi
  have HC := Lib.hid hC
  clear hb1 hmo hi hC
  go_wp2_with fail
  refine (cond_any N a n c ps Hl.out hcap w1 HE1.out k Hk.out).mono ?_
  rintro e w2 ⟨L2, hC2, hb2, hres⟩
  have k0 := (hb2.cell (p := ⟨w.heap.size, 0, none⟩) hz1).trans g0
  have k1 := (hb2.cell (p := ⟨w.heap.size, 1, none⟩) hz1).trans g1
  have hz2 : w.heap.size < w2.heap.size := by have := hb2.size; omega
  have hz01 : w0.heap.size ≤ w1.heap.size := Hb1.out.size
  have Hb2 := Lib.hid (Hb1.out.trans (hb2.mono hz01))
  have HE2 := Lib.hid (HE1.out.below hb2 (Nat.le_refl _))
  have hz02 : w0.heap.size ≤ w2.heap.size := Hb2.out.size
  by_cases hk0 : k = 0
  rotate_left
  · obtain rfl : e = .returned (.tuple #[.agg #[.int .i64 0, .slice none 0 0], .int .i64 k]) := by
      rcases hres with ⟨_, h⟩ | ⟨h, _⟩
      · exact h
      · exact absurd h hk0
    have hm0 : mo = 0 := by
      rw [← Hmo.out]
      unfold ofL
      rw [if_neg (by rw [Hk.out]; exact hk0)]
      rfl
    subst hm0
    have e0 : (k != 0) = true := by rw [bne_iff_ne]; exact hk0
    have e1 : (k == k) = true := by simp
    clear hb2 hC2 hres Hi Hmo
    have hAl : Below w0.heap.size w0 (w2.alloc (Obj.cells #[Value.int .i64 0, Value.slice none 0 0] 24)) := Hb2.out.alloc hz02 _
    have HAl := Lib.hid hAl
    clear hAl
    go_wp2_with fail
    refine (Hrc.out _ HAl.out).mono ?_
    rintro e w3 ⟨rfl, hb3⟩
    have m0 := (hb3.cell (p := ⟨w.heap.size, 0, none⟩) (by simp; omega)).trans (((Below.refl w2.heap.size w2).alloc (Nat.le_refl _) (Obj.cells #[Value.int .i64 0, Value.slice none 0 0] 24)).cell (p := ⟨w.heap.size, 0, none⟩) hz2 |>.trans k0)
    have m1 := (hb3.cell (p := ⟨w.heap.size, 1, none⟩) (by simp; omega)).trans (((Below.refl w2.heap.size w2).alloc (Nat.le_refl _) (Obj.cells #[Value.int .i64 0, Value.slice none 0 0] 24)).cell (p := ⟨w.heap.size, 1, none⟩) hz2 |>.trans k1)
    have Hb3 := Lib.hid (HAl.out.trans (hb3.mono (by simp; omega)))
    clear hb3
    go_wp2_with fail
    refine (Hrc.out _ Hb3.out).mono ?_
    rintro e w4 ⟨rfl, hb4⟩
    have Hb4 := Lib.hid (Hb3.out.trans (hb4.mono Hb3.out.size))
    clear hb4
    go_wp2_with fail
    refine (awake_any w4).mono ?_
    rintro e w5 ⟨rfl, hb5⟩
    have HB5 := Lib.hid (HB0.out.trans ((Hb4.out.trans (hb5.mono Hb4.out.size)).mono (Nat.le_of_lt hz0)))
    clear hb5
    go_wp2
    go_ret
    exact ⟨rfl, HB5.out⟩
  · obtain ⟨qs, m, l, a', c', hm, hl2, hcan, hln, hE', rfl⟩ : ∃ qs m l a' c', L2.length = m ∧ qs.length = l ∧ Canon (condP N.toNat L2 ps) qs ∧ l ≤ ps.length ∧ Edg w2 a' c' qs ∧ e = .returned (.tuple #[.agg #[.int .i64 (m : Int), .slice a' l c'], .int .i64 0]) := by
      rcases hres with ⟨h, _⟩ | ⟨_, h⟩
      · exact absurd hk0 h
      · exact h
    subst hk0
    have hg := gchk_ok Hk.out
    obtain ⟨N, rfl⟩ : ∃ m : Nat, N = (m : Int) := ⟨N.toNat, by have := hg.lo; omega⟩
    have hcc := HC.out.good Hk.out
    have hcc2 := hC2.good Hk.out
    rw [Int.toNat_natCast] at hcc hcc2 hcan
    have hof : ofL (N : Int) ps L = idxTo N (L.map ni) L.length := by unfold ofL; rw [if_pos Hk.out, Int.toNat_natCast]
    have hmN : mo = N := by rw [← Hmo.out, hof, idxTo_len]
    subst hmN
    have hok2 : GOk (m : Int) qs := by rw [← hm]; exact hcc2.cond_ok hg hcan (by rw [hl2]; exact hln)
    have hdec : ∀ e ∈ qs, e.2 < e.1 := fun e he => hcc2.cond_dec hg e ((hcan.2 e).1 he)
    have hacy := acy_dec hok2 hdec
    have hgc := gchk_of hok2
    rw [Hl.out] at hln
    have Hord : Hid (∀ j, j < n → ixAt mo L (ps.getD j (0, 0)).2 ≤ ixAt mo L (ps.getD j (0, 0)).1) := by
      show ∀ j, _
      intro j hj
      refine hcc.order hg _ ?_
      rw [List.getD_eq_getElem?_getD, List.getElem?_eq_getElem (by rw [Hl.out]; exact hj)]
      exact List.getElem_mem _
    have Hdec : Hid (∀ j, j < l → (qs.getD j (0, 0)).2 < (qs.getD j (0, 0)).1) := by
      show ∀ j, _
      intro j hj
      refine hdec _ ?_
      rw [List.getD_eq_getElem?_getD, List.getElem?_eq_getElem (by rw [hl2]; exact hj)]
      exact List.getElem_mem _
    have hi' := Hi.out
    rw [hof] at hi'
    have Hof := Lib.hid hi'
    have Hg := Lib.hid hg
    have Hl2 := Lib.hid hl2
    have Hgc := Lib.hid hgc
    have Hacy := Lib.hid hacy
    have hEq := hE'.pairs
    obtain ⟨w3, hw3⟩ : ∃ w3, w2.alloc (Obj.cells #[Value.int .i64 (m : Int), Value.slice a' l c'] 24) = w3 := ⟨_, rfl⟩
    have hs3 : w2.heap.size < w3.heap.size := by rw [← hw3]; simp
    have hb23 : Below w2.heap.size w2 w3 := by rw [← hw3]; exact (Below.refl _ _).alloc (Nat.le_refl _) _
    have r0 : w3.cell? ⟨w2.heap.size, 0, none⟩ = some (.int .i64 (m : Int)) := by rw [← hw3]; simp [go_sem]
    have r1 : w3.cell? ⟨w2.heap.size, 1, none⟩ = some (.slice a' l c') := by rw [← hw3]; simp [go_sem]
    have m0 := (hb23.cell (p := ⟨w.heap.size, 0, none⟩) hz2).trans k0
    have m1 := (hb23.cell (p := ⟨w.heap.size, 1, none⟩) hz2).trans k1
    have Hb3 := Lib.hid (Hb2.out.trans (hb23.mono hz02))
    have Hqs3 := Lib.hid (hEq.below hb23 (Nat.le_refl _))
    have HE3 := Lib.hid (HE2.out.below hb23 (Nat.le_refl _))
    have Hof3 := Lib.hid ((Hof.out.below hb2 (Nat.le_refl _)).below hb23 (Nat.le_refl _))
    have Hw3 := Lib.hid hw3
    have hlm : l ≤ maxLen := by unfold maxLen; omega
    have hckA : ∀ X, Below w3.heap.size w3 X → Calls Try.prog 29 #[.agg #[.int .i64 (m : Int), .slice a' l c']] X fun e w' => e = .returned (.int .i64 0) ∧ Below X.heap.size X w' := fun X hX => by
      have := check_any (m : Int) a' c' qs X (by rw [hl2]; exact hlm) (Hqs3.out.below hX (Nat.le_refl _))
      rw [hl2, hgc] at this
      exact this
    have hacA : ∀ X, Below w3.heap.size w3 X → Calls Try.prog 24 #[.agg #[.int .i64 (m : Int), .slice a' l c']] X fun e w' => e = .returned (.bool true) ∧ Below X.heap.size X w' := fun X hX => by
      have := acyclic_any (m : Int) a' l c' qs hl2 hlm X (Hqs3.out.below hX (Nat.le_refl _))
      rw [hacy] at this
      exact this
    have Hck := Lib.hid hckA
    have Hac := Lib.hid hacA
    clear hb2 hC2 hres hcc hcc2 hof hok2 hdec hacy hgc hi' hcan hE' hEq hb23 hw3 hg Hi Hmo hm hl2 hckA hacA
    go_wp2_with fail
    rw [Hw3.out]
    refine (Hrc.out _ Hb3.out).mono ?_
    rintro e w4 ⟨rfl, hb4⟩
    have s0 := (hb4.cell (p := ⟨w2.heap.size, 0, none⟩) hs3).trans r0
    have s1 := (hb4.cell (p := ⟨w2.heap.size, 1, none⟩) hs3).trans r1
    have t0 := (hb4.cell (p := ⟨w.heap.size, 0, none⟩) (by show w.heap.size < _; omega)).trans m0
    have t1 := (hb4.cell (p := ⟨w.heap.size, 1, none⟩) (by show w.heap.size < _; omega)).trans m1
    have hs4 := hb4.size
    have Hb4 := Lib.hid hb4
    clear hb4
    go_wp2_with fail
    refine (Hck.out _ Hb4.out).mono ?_
    rintro e w5 ⟨rfl, hb5⟩
    have s0' := (hb5.cell (p := ⟨w2.heap.size, 0, none⟩) (by show w2.heap.size < _; omega)).trans s0
    have s1' := (hb5.cell (p := ⟨w2.heap.size, 1, none⟩) (by show w2.heap.size < _; omega)).trans s1
    have t0' := (hb5.cell (p := ⟨w.heap.size, 0, none⟩) (by show w.heap.size < _; omega)).trans t0
    have t1' := (hb5.cell (p := ⟨w.heap.size, 1, none⟩) (by show w.heap.size < _; omega)).trans t1
    have hs5 := hb5.size
    have Hb5 := Lib.hid (Hb4.out.trans (hb5.mono hs4))
    clear hb5
    go_wp2_with fail
    refine (Hac.out _ Hb5.out).mono ?_
    rintro e w6 ⟨rfl, hb6⟩
    have hs6 := hb6.size
    have u0 := (hb6.cell (p := ⟨w2.heap.size, 0, none⟩) (by show w2.heap.size < _; omega)).trans s0'
    have u1 := (hb6.cell (p := ⟨w2.heap.size, 1, none⟩) (by show w2.heap.size < _; omega)).trans s1'
    have v0 := (hb6.cell (p := ⟨w.heap.size, 0, none⟩) (by show w.heap.size < _; omega)).trans t0'
    have v1 := (hb6.cell (p := ⟨w.heap.size, 1, none⟩) (by show w.heap.size < _; omega)).trans t1'
    have Hb6 := Lib.hid (Hb5.out.trans (hb6.mono (by omega)))
    clear hb6 s0 s1 s0' s1' t0 t1 t0' t1' r0 r1 m0 m1 k0 k1 g0 g1
    have hs36 := Hb6.out.size
    have Hqs6 := Lib.hid (Hqs3.out.below Hb6.out (Nat.le_refl _))
    have HE6 := Lib.hid (HE3.out.below Hb6.out (Nat.le_refl _))
    have Hof6 := Lib.hid (Hof3.out.below Hb6.out (Nat.le_refl _))
    clear Hqs3 HE3 Hof3 Hck Hac Hrc
    have hiN : (idxTo mo (L.map ni) L.length).length = mo := idxTo_len ..
    have Hb60 := Lib.hid (HB0.out.trans ((Hb3.out.trans (Hb6.out.mono (by omega))).mono (Nat.le_of_lt hz0)))
    go_wp2
    go_loopw [7] (fun i W => ∃ j : Nat, j ≤ n ∧ i = .int .i64 j ∧ Hid (Below w6.heap.size w6 W)) (fun i _ => n - (intOf i).toNat)
    case atStart => exact ⟨0, Nat.zero_le _, rfl, Lib.hid (Below.refl _ _)⟩
    case round =>
      obtain ⟨j, hj, rfl, Hbe⟩ := hrel
      have x0 := (Hbe.out.cell (p := ⟨w.heap.size, 0, none⟩) (by show w.heap.size < _; omega)).trans v0
      have x1 := (Hbe.out.cell (p := ⟨w.heap.size, 1, none⟩) (by show w.heap.size < _; omega)).trans v1
      have y0 := (Hbe.out.cell (p := ⟨w2.heap.size, 0, none⟩) (by show w2.heap.size < _; omega)).trans u0
      have y1 := (Hbe.out.cell (p := ⟨w2.heap.size, 1, none⟩) (by show w2.heap.size < _; omega)).trans u1
      by_cases hlt : j < n
      · obtain ⟨eb, eo, rfl, hcell⟩ := (HE6.out.below Hbe.out (Nat.le_refl _)) (by rw [Hl.out]; omega)
        obtain ⟨hcx, hcy⟩ := hcell j (by rw [Hl.out]; exact hlt)
        have hord := Hord.out j hlt
        obtain ⟨⟨x, y⟩, he⟩ : ∃ e, ps.getD j (0, 0) = e := ⟨_, rfl⟩
        have hnd := Hg.out.node j (by rw [Hl.out]; exact hlt)
        rw [he] at hcx hcy hnd hord
        obtain ⟨x, rfl⟩ : ∃ m : Nat, x = (m : Int) := ⟨x.toNat, by have := hnd.1; simp at this; omega⟩
        obtain ⟨y, rfl⟩ : ∃ m : Nat, y = (m : Int) := ⟨y.toNat, by have := hnd.2; simp at this; omega⟩
        have hxN : x < mo := by have := hnd.1.2; simp at this; omega
        have hyN : y < mo := by have := hnd.2.2; simp at this; omega
        obtain ⟨bb, bo, rfl, hoc⟩ := (Hof6.out.below Hbe.out (Nat.le_refl _)) (by rw [hiN]; omega)
        have cx' := hoc x (by rw [hiN]; exact hxN)
        have cy' := hoc y (by rw [hiN]; exact hyN)
        simp only [ixAt, Int.toNat_natCast] at hord
        obtain ⟨f, hf⟩ : ∃ f, (idxTo mo (L.map ni) L.length).getD x 0 = f := ⟨_, rfl⟩
        obtain ⟨t, ht⟩ : ∃ t, (idxTo mo (L.map ni) L.length).getD y 0 = t := ⟨_, rfl⟩
        rw [hf] at cx' hord
        rw [ht] at cy' hord
        have d5 : decide (f < t) = false := by rw [decide_eq_false_iff_not]; omega
        clear hcell he hnd hoc hf ht y0 y1 hiN
        go_wp2
        go_quiet (fail)
        have Hbe2 := Lib.hid (Hbe.out.trans (Drawn.below (w' := wr.drewN nq) ⟨nq, rfl⟩ _))
        go_wp2
        go_roundw
        case rel => exact ⟨j + 1, hlt, by go_num, Hbe2⟩
        case measure => simp [intOf]; omega
      · obtain rfl : j = n := by omega
        generalize wr = w7 at *
        have hs7 := Hbe.out.size
        clear hiN
        go_wp2
        go_loopw [8] (fun i W => ∃ q : Nat, q ≤ l ∧ i = .int .i64 q ∧ Hid (Below w7.heap.size w7 W)) (fun i _ => l - (intOf i).toNat)
        case atStart => exact ⟨0, Nat.zero_le _, rfl, Lib.hid (Below.refl _ _)⟩
        case round =>
          obtain ⟨q, hq, rfl, Hbf⟩ := hrel
          have z0 := (Hbf.out.cell (p := ⟨w2.heap.size, 0, none⟩) (by show w2.heap.size < _; omega)).trans y0
          have z1 := (Hbf.out.cell (p := ⟨w2.heap.size, 1, none⟩) (by show w2.heap.size < _; omega)).trans y1
          by_cases hlq : q < l
          · obtain ⟨eb, eo, rfl, hcell⟩ := ((Hqs6.out.below Hbe.out (Nat.le_refl _)).below Hbf.out (Nat.le_refl _)) (by rw [Hl2.out]; omega)
            obtain ⟨hcx, hcy⟩ := hcell q (by rw [Hl2.out]; exact hlq)
            have hdq := Hdec.out q hlq
            obtain ⟨⟨x, y⟩, he⟩ : ∃ e, qs.getD q (0, 0) = e := ⟨_, rfl⟩
            rw [he] at hcx hcy hdq
            simp only at hcx hcy hdq
            have d5 : decide (x ≤ y) = false := by rw [decide_eq_false_iff_not]; omega
            clear hcell he
            go_wp2
            go_quiet (fail)
            have Hbf2 := Lib.hid (Hbf.out.trans (Drawn.below (w' := wr.drewN nq) ⟨nq, rfl⟩ _))
            go_wp2
            go_roundw
            case rel => exact ⟨q + 1, hlq, by go_num, Hbf2⟩
            case measure => simp [intOf]; omega
          · obtain rfl : q = l := by omega
            go_wp2_with fail
            refine (awake_any wr).mono ?_
            rintro e w9 ⟨rfl, hb9⟩
            have HB9 := Lib.hid (Hb60.out.trans (((Hbe.out.trans (Hbf.out.mono hs7)).trans (hb9.mono (by have := Hbf.out.size; omega))).mono (by have := Hb60.out.size; omega)))
            clear hb9
            go_wp2
            go_ret
            exact ⟨rfl, HB9.out⟩
end Go.Proofs.Ytopbbihbpalnlaa
