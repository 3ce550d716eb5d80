/-
  SccCycles: the walk of the law.
-/
import Derived.Test.YtopbbihbpalnlaaSAwake
namespace Go.Proofs.Ytopbbihbpalnlaa
open Go.RowKit Go.Shelf Go.WideShapes
set_option linter.unusedVariables false

theorem comps_law (N : Int) (a : Option Addr) (n c : Nat) (ps : List (Int × Int)) (hl : ps.length = n) (hn : n ≤ maxLen) (w : World) (hE : Pairs w a ps) (k : Int) (hk : gchk N ps = k) : Calls Try.prog 11 #[.agg #[.int .i64 N, .slice a n c]] w fun e w' => Below w.heap.size w w' ∧ ∃ L m a1 c1, L.length = m ∧ e = .returned (.tuple #[.slice a1 m c1, .int .i64 k]) ∧ RL w' (.slice a1 m c1) (L.map ni) ∧ CL N ps L := by
  refine (components_any N a n c ps hl hn w hE).mono ?_
  rintro e w' ⟨u, L, he, hR, hb, hC⟩
  obtain ⟨a1, c1, rfl, hz⟩ := id hR
  rw [List.length_map] at hR he
  exact ⟨hb, L, L.length, a1, c1, rfl, by rw [he, hk], hR, hC⟩
/-- Is what SccCycles counts. -/
def cycB (N : Int) (ps : List (Int × Int)) (k : Int) (m j : Nat) : Bool := (k == 0) && ((m : Int) == N) && (ps.take j).all fun e => e.1 != e.2
theorem cycB_succ {N : Int} {ps : List (Int × Int)} {k : Int} {m j : Nat} (hj : j < ps.length) : cycB N ps k m (j + 1) = (cycB N ps k m j && ((ps.getD j (0, 0)).1 != (ps.getD j (0, 0)).2)) := by
  unfold cycB
  rw [List.take_succ_eq_append_getElem hj, List.all_append, List.getD_eq_getElem?_getD, List.getElem?_eq_getElem hj]
  simp [Bool.and_assoc]
theorem cycB_false {N : Int} {ps : List (Int × Int)} {k : Int} {m j : Nat} (h : cycB N ps k m j = false) (hj : j ≤ ps.length) : cycB N ps k m ps.length = false := by
  unfold cycB at *
  rw [List.take_length]
  cases h1 : (k == 0) && ((m : Int) == N) with
  | false => rfl
  | true =>
    rw [h1, Bool.true_and] at h
    rw [Bool.true_and]
    rw [List.all_eq_false] at h ⊢
    obtain ⟨x, hx, h2⟩ := h
    exact ⟨x, List.mem_of_mem_take hx, h2⟩
theorem cycB_is {N : Int} {ps : List (Int × Int)} {L : List (List Nat)} (h : CL N ps L) : acyB N ps = cycB N ps (gchk N ps) L.length ps.length := by
  unfold acyB cycB
  rw [List.take_length]
  by_cases hk : gchk N ps = 0
  · have hN : 0 ≤ N := (gchk_ok hk).lo
    rw [if_pos hk, hk, h.cnt hk]
    have e1 : ((compL N.toNat (suN ps) srt).length == N.toNat) = (((compL N.toNat (suN ps) srt).length : Int) == N) := by
      rw [Bool.eq_iff_iff, beq_iff_eq, beq_iff_eq]; omega
    rw [e1, show ((0 : Int) == 0) = true from rfl, Bool.true_and]
    congr 1
    rw [List.not_any_eq_all_not]
    rfl
  · rw [if_neg hk, show (gchk N ps == 0) = false by simpa using hk]
    rfl
set_option maxHeartbeats 4000000 in
set_option maxRecDepth 100000 in
theorem cyc_row (N : Int) (a : Option Addr) (c : Nat) (ps : List (Int × Int)) (w : World) (hE : Edg w a c ps) :
    Calls Try.prog 8 #[.agg #[.int .i64 N, .slice a ps.length c]] w fun e w' => e = .returned (.bool true) ∧ Below w.heap.size w w' := by
  have hcap : ps.length ≤ maxLen := by have := hE.cap; have := hE.max; omega
  obtain ⟨n, hl⟩ : ∃ n, ps.length = n := ⟨_, rfl⟩
  have hcap' := hcap
  unfold maxLen at hcap'
  rw [hl] at hcap' hcap ⊢
  have Hb0 := Lib.hid ((Below.refl w.heap.size w).alloc (Nat.le_refl _) (Obj.cells #[Value.int .i64 N, Value.slice a n c] 24))
  by_cases hbig : 400 < n
  · clear hE hl
    go_enter Try.func8, Try.ntmps8
    go_wp2_with (go_at_call 10; refine (awake_any _).mono ?_; rintro e w' ⟨rfl, hb⟩)
    go_ret
    exact ⟨rfl, Hb0.out.trans (hb.mono (by simp))⟩
  by_cases hbig2 : 400 < N
  · clear hE hl
    go_enter Try.func8, Try.ntmps8
    go_wp2_with (go_at_call 10; refine (awake_any _).mono ?_; rintro e w' ⟨rfl, hb⟩)
    go_ret
    exact ⟨rfl, Hb0.out.trans (hb.mono (by simp))⟩
  obtain ⟨k, hk⟩ : ∃ k, gchk N ps = k := ⟨_, rfl⟩
  obtain ⟨w0, hw0⟩ : ∃ w0, w.alloc (Obj.cells #[Value.int .i64 N, Value.slice a n c] 24) = w0 := ⟨_, rfl⟩
  have hz0 : w.heap.size < w0.heap.size := by rw [← hw0]; simp
  have q0 : w0.cell? ⟨w.heap.size, 0, none⟩ = some (.int .i64 N) := by rw [← hw0]; simp [go_sem]
  have q1 : w0.cell? ⟨w.heap.size, 1, none⟩ = some (.slice a n c) := by rw [← hw0]; simp [go_sem]
  have HB0 : Hid (Below w.heap.size w w0) := by show Below _ _ _; rw [← hw0]; exact Hb0.out
  have HE := Lib.hid (hE.pairs.below HB0.out (Nat.le_refl _))
  have Hw0 := Lib.hid hw0
  have Hl := Lib.hid hl
  have Hk := Lib.hid hk
  clear hE hl hk hw0 Hb0
  go_enter Try.func8, Try.ntmps8
  go_wp2_with fail
  rw [Hw0.out]
  refine (comps_law N a n c ps Hl.out hcap w0 HE.out k Hk.out).mono ?_
  rintro e w1 ⟨hb1, L, m, a1, c1, hm, rfl, _, hC⟩
  have g0 := (hb1.cell (p := ⟨w.heap.size, 0, none⟩) hz0).trans q0
  have g1 := (hb1.cell (p := ⟨w.heap.size, 1, none⟩) hz0).trans q1
  have HB1 := Lib.hid (HB0.out.trans (hb1.mono (Nat.le_of_lt hz0)))
  have HE1 := Lib.hid (HE.out.below hb1 (Nat.le_refl _))
  have Hres : Hid (acyB N ps = cycB N ps k m n) := by show _ = _; rw [cycB_is hC, Hk.out, hm, Hl.out]
  have hz1 : w.heap.size < w1.heap.size := by have := hb1.size; omega
  have d1 : decide ((400 : Int) < (n : Int)) = false := by simp; omega
  clear hb1 hm hC
  have hstart : cycB N ps k m 0 = ((k == 0) && ((m : Int) == N)) := by simp [cycB]
  by_cases hk0 : k = 0
  · have e0 : (k == 0) = true := by simpa using hk0
    by_cases hmN : (m : Int) = N
    · have e1 : ((m : Int) == N) = true := by simpa using hmN
      rw [e0, e1] at hstart
      have Hst := Lib.hid hstart.symm
      clear hstart
      go_wp2
      go_loopw [5, 6] (fun v i W => ∃ j : Nat, ∃ b : Bool, j ≤ n ∧ i = .int .i64 j ∧ v = .bool b ∧ Hid (b = cycB N ps k m j) ∧ Hid (Below w1.heap.size w1 W)) (fun _ i _ => n - (intOf i).toNat)
      case atStart => exact ⟨0, _, Nat.zero_le _, rfl, rfl, Hst, Lib.hid (Below.refl _ _)⟩
      case round =>
        obtain ⟨j, b, hj, rfl, rfl, Hb, Hbe⟩ := hrel
        have k0 := (Hbe.out.cell (p := ⟨w.heap.size, 0, none⟩) hz1).trans g0
        have k1 := (Hbe.out.cell (p := ⟨w.heap.size, 1, none⟩) hz1).trans g1
        clear Hst
        by_cases hlt : j < n
        · cases b with
          | true =>
            obtain ⟨bb, off, rfl, hcell⟩ := (HE1.out.below Hbe.out (Nat.le_refl _)) (by rw [Hl.out]; omega)
            obtain ⟨hcx, hcy⟩ := hcell j (by rw [Hl.out]; exact hlt)
            obtain ⟨x, hx⟩ : ∃ x, (ps.getD j (0, 0)).1 = x := ⟨_, rfl⟩
            obtain ⟨y, hy⟩ : ∃ y, (ps.getD j (0, 0)).2 = y := ⟨_, rfl⟩
            rw [hx] at hcx
            rw [hy] at hcy
            have Hn : Hid ((x != y) = cycB N ps k m (j + 1)) := by show _ = _; rw [cycB_succ (by rw [Hl.out]; exact hlt), ← Hb.out, hx, hy, Bool.true_and]
            clear hcell hx hy
            go_wp2
            go_quiet (fail)
            have Hbe2 := Lib.hid (Hbe.out.trans (Drawn.below (w' := wr.drewN nq) ⟨nq, rfl⟩ _))
            go_wp2
            go_roundw
            case rel => exact ⟨j + 1, _, hlt, by go_num, rfl, Hn, Hbe2⟩
            case measure => simp [intOf]; omega
          | false =>
            have Hf : Hid (acyB N ps = false) := by show _ = _; rw [Hres.out, ← Hl.out]; exact cycB_false Hb.out.symm (by rw [Hl.out]; exact hj)
            go_wp2_with fail
            refine (acyclic_any N a n c ps Hl.out hcap wr (HE1.out.below Hbe.out (Nat.le_refl _))).mono ?_
            rintro e w2 ⟨rfl, hb2⟩
            rw [Hf.out]
            have HB2 := Lib.hid (Hbe.out.trans (hb2.mono Hbe.out.size))
            clear hb2
            go_wp2_with fail
            refine (awake_any w2).mono ?_
            rintro e w3 ⟨rfl, hb3⟩
            have HB3 := Lib.hid (HB1.out.trans ((HB2.out.trans (hb3.mono HB2.out.size)).mono (Nat.le_of_lt hz1)))
            clear hb3
            go_wp2
            go_ret
            exact ⟨rfl, HB3.out⟩
        · obtain rfl : n = j := by omega
          cases b with
          | true =>
            have Hf : Hid (acyB N ps = true) := by show _ = _; rw [Hres.out, ← Hb.out]
            go_wp2_with fail
            refine (acyclic_any N a n c ps Hl.out hcap wr (HE1.out.below Hbe.out (Nat.le_refl _))).mono ?_
            rintro e w2 ⟨rfl, hb2⟩
            rw [Hf.out]
            have HB2 := Lib.hid (Hbe.out.trans (hb2.mono Hbe.out.size))
            clear hb2
            go_wp2_with fail
            refine (awake_any w2).mono ?_
            rintro e w3 ⟨rfl, hb3⟩
            have HB3 := Lib.hid (HB1.out.trans ((HB2.out.trans (hb3.mono HB2.out.size)).mono (Nat.le_of_lt hz1)))
            clear hb3
            go_wp2
            go_ret
            exact ⟨rfl, HB3.out⟩
          | false =>
            have Hf : Hid (acyB N ps = false) := by show _ = _; rw [Hres.out, ← Hb.out]
            go_wp2_with fail
            refine (acyclic_any N a n c ps Hl.out hcap wr (HE1.out.below Hbe.out (Nat.le_refl _))).mono ?_
            rintro e w2 ⟨rfl, hb2⟩
            rw [Hf.out]
            have HB2 := Lib.hid (Hbe.out.trans (hb2.mono Hbe.out.size))
            clear hb2
            go_wp2_with fail
            refine (awake_any w2).mono ?_
            rintro e w3 ⟨rfl, hb3⟩
            have HB3 := Lib.hid (HB1.out.trans ((HB2.out.trans (hb3.mono HB2.out.size)).mono (Nat.le_of_lt hz1)))
            clear hb3
            go_wp2
            go_ret
            exact ⟨rfl, HB3.out⟩
    · have e1 : ((m : Int) == N) = false := by simpa using hmN
      rw [e0, e1] at hstart
      have Hst := Lib.hid hstart.symm
      clear hstart
      go_wp2
      go_loopw [5, 6] (fun v i W => ∃ j : Nat, ∃ b : Bool, j ≤ n ∧ i = .int .i64 j ∧ v = .bool b ∧ Hid (b = cycB N ps k m j) ∧ Hid (Below w1.heap.size w1 W)) (fun _ i _ => n - (intOf i).toNat)
      case atStart => exact ⟨0, _, Nat.zero_le _, rfl, rfl, Hst, Lib.hid (Below.refl _ _)⟩
      case round =>
        obtain ⟨j, b, hj, rfl, rfl, Hb, Hbe⟩ := hrel
        have k0 := (Hbe.out.cell (p := ⟨w.heap.size, 0, none⟩) hz1).trans g0
        have k1 := (Hbe.out.cell (p := ⟨w.heap.size, 1, none⟩) hz1).trans g1
        clear Hst
        by_cases hlt : j < n
        · cases b with
          | true =>
            obtain ⟨bb, off, rfl, hcell⟩ := (HE1.out.below Hbe.out (Nat.le_refl _)) (by rw [Hl.out]; omega)
            obtain ⟨hcx, hcy⟩ := hcell j (by rw [Hl.out]; exact hlt)
            obtain ⟨x, hx⟩ : ∃ x, (ps.getD j (0, 0)).1 = x := ⟨_, rfl⟩
            obtain ⟨y, hy⟩ : ∃ y, (ps.getD j (0, 0)).2 = y := ⟨_, rfl⟩
            rw [hx] at hcx
            rw [hy] at hcy
            have Hn : Hid ((x != y) = cycB N ps k m (j + 1)) := by show _ = _; rw [cycB_succ (by rw [Hl.out]; exact hlt), ← Hb.out, hx, hy, Bool.true_and]
            clear hcell hx hy
            go_wp2
            go_quiet (fail)
            have Hbe2 := Lib.hid (Hbe.out.trans (Drawn.below (w' := wr.drewN nq) ⟨nq, rfl⟩ _))
            go_wp2
            go_roundw
            case rel => exact ⟨j + 1, _, hlt, by go_num, rfl, Hn, Hbe2⟩
            case measure => simp [intOf]; omega
          | false =>
            have Hf : Hid (acyB N ps = false) := by show _ = _; rw [Hres.out, ← Hl.out]; exact cycB_false Hb.out.symm (by rw [Hl.out]; exact hj)
            go_wp2_with fail
            refine (acyclic_any N a n c ps Hl.out hcap wr (HE1.out.below Hbe.out (Nat.le_refl _))).mono ?_
            rintro e w2 ⟨rfl, hb2⟩
            rw [Hf.out]
            have HB2 := Lib.hid (Hbe.out.trans (hb2.mono Hbe.out.size))
            clear hb2
            go_wp2_with fail
            refine (awake_any w2).mono ?_
            rintro e w3 ⟨rfl, hb3⟩
            have HB3 := Lib.hid (HB1.out.trans ((HB2.out.trans (hb3.mono HB2.out.size)).mono (Nat.le_of_lt hz1)))
            clear hb3
            go_wp2
            go_ret
            exact ⟨rfl, HB3.out⟩
        · obtain rfl : n = j := by omega
          cases b with
          | true =>
            have Hf : Hid (acyB N ps = true) := by show _ = _; rw [Hres.out, ← Hb.out]
            go_wp2_with fail
            refine (acyclic_any N a n c ps Hl.out hcap wr (HE1.out.below Hbe.out (Nat.le_refl _))).mono ?_
            rintro e w2 ⟨rfl, hb2⟩
            rw [Hf.out]
            have HB2 := Lib.hid (Hbe.out.trans (hb2.mono Hbe.out.size))
            clear hb2
            go_wp2_with fail
            refine (awake_any w2).mono ?_
            rintro e w3 ⟨rfl, hb3⟩
            have HB3 := Lib.hid (HB1.out.trans ((HB2.out.trans (hb3.mono HB2.out.size)).mono (Nat.le_of_lt hz1)))
            clear hb3
            go_wp2
            go_ret
            exact ⟨rfl, HB3.out⟩
          | false =>
            have Hf : Hid (acyB N ps = false) := by show _ = _; rw [Hres.out, ← Hb.out]
            go_wp2_with fail
            refine (acyclic_any N a n c ps Hl.out hcap wr (HE1.out.below Hbe.out (Nat.le_refl _))).mono ?_
            rintro e w2 ⟨rfl, hb2⟩
            rw [Hf.out]
            have HB2 := Lib.hid (Hbe.out.trans (hb2.mono Hbe.out.size))
            clear hb2
            go_wp2_with fail
            refine (awake_any w2).mono ?_
            rintro e w3 ⟨rfl, hb3⟩
            have HB3 := Lib.hid (HB1.out.trans ((HB2.out.trans (hb3.mono HB2.out.size)).mono (Nat.le_of_lt hz1)))
            clear hb3
            go_wp2
            go_ret
            exact ⟨rfl, HB3.out⟩
  · have e0 : (k == 0) = false := by simpa using hk0
    rw [e0] at hstart
    have Hst := Lib.hid hstart.symm
    clear hstart
    go_wp2
    go_loopw [5, 6] (fun v i W => ∃ j : Nat, ∃ b : Bool, j ≤ n ∧ i = .int .i64 j ∧ v = .bool b ∧ Hid (b = cycB N ps k m j) ∧ Hid (Below w1.heap.size w1 W)) (fun _ i _ => n - (intOf i).toNat)
    case atStart => exact ⟨0, _, Nat.zero_le _, rfl, rfl, Hst, Lib.hid (Below.refl _ _)⟩
    case round =>
      obtain ⟨j, b, hj, rfl, rfl, Hb, Hbe⟩ := hrel
      have k0 := (Hbe.out.cell (p := ⟨w.heap.size, 0, none⟩) hz1).trans g0
      have k1 := (Hbe.out.cell (p := ⟨w.heap.size, 1, none⟩) hz1).trans g1
      clear Hst
      by_cases hlt : j < n
      · cases b with
        | true =>
          obtain ⟨bb, off, rfl, hcell⟩ := (HE1.out.below Hbe.out (Nat.le_refl _)) (by rw [Hl.out]; omega)
          obtain ⟨hcx, hcy⟩ := hcell j (by rw [Hl.out]; exact hlt)
          obtain ⟨x, hx⟩ : ∃ x, (ps.getD j (0, 0)).1 = x := ⟨_, rfl⟩
          obtain ⟨y, hy⟩ : ∃ y, (ps.getD j (0, 0)).2 = y := ⟨_, rfl⟩
          rw [hx] at hcx
          rw [hy] at hcy
          have Hn : Hid ((x != y) = cycB N ps k m (j + 1)) := by show _ = _; rw [cycB_succ (by rw [Hl.out]; exact hlt), ← Hb.out, hx, hy, Bool.true_and]
          clear hcell hx hy
          go_wp2
          go_quiet (fail)
          have Hbe2 := Lib.hid (Hbe.out.trans (Drawn.below (w' := wr.drewN nq) ⟨nq, rfl⟩ _))
          go_wp2
          go_roundw
          case rel => exact ⟨j + 1, _, hlt, by go_num, rfl, Hn, Hbe2⟩
          case measure => simp [intOf]; omega
        | false =>
          have Hf : Hid (acyB N ps = false) := by show _ = _; rw [Hres.out, ← Hl.out]; exact cycB_false Hb.out.symm (by rw [Hl.out]; exact hj)
          go_wp2_with fail
          refine (acyclic_any N a n c ps Hl.out hcap wr (HE1.out.below Hbe.out (Nat.le_refl _))).mono ?_
          rintro e w2 ⟨rfl, hb2⟩
          rw [Hf.out]
          have HB2 := Lib.hid (Hbe.out.trans (hb2.mono Hbe.out.size))
          clear hb2
          go_wp2_with fail
          refine (awake_any w2).mono ?_
          rintro e w3 ⟨rfl, hb3⟩
          have HB3 := Lib.hid (HB1.out.trans ((HB2.out.trans (hb3.mono HB2.out.size)).mono (Nat.le_of_lt hz1)))
          clear hb3
          go_wp2
          go_ret
          exact ⟨rfl, HB3.out⟩
      · obtain rfl : n = j := by omega
        cases b with
        | true =>
          have Hf : Hid (acyB N ps = true) := by show _ = _; rw [Hres.out, ← Hb.out]
          go_wp2_with fail
          refine (acyclic_any N a n c ps Hl.out hcap wr (HE1.out.below Hbe.out (Nat.le_refl _))).mono ?_
          rintro e w2 ⟨rfl, hb2⟩
          rw [Hf.out]
          have HB2 := Lib.hid (Hbe.out.trans (hb2.mono Hbe.out.size))
          clear hb2
          go_wp2_with fail
          refine (awake_any w2).mono ?_
          rintro e w3 ⟨rfl, hb3⟩
          have HB3 := Lib.hid (HB1.out.trans ((HB2.out.trans (hb3.mono HB2.out.size)).mono (Nat.le_of_lt hz1)))
          clear hb3
          go_wp2
          go_ret
          exact ⟨rfl, HB3.out⟩
        | false =>
          have Hf : Hid (acyB N ps = false) := by show _ = _; rw [Hres.out, ← Hb.out]
          go_wp2_with fail
          refine (acyclic_any N a n c ps Hl.out hcap wr (HE1.out.below Hbe.out (Nat.le_refl _))).mono ?_
          rintro e w2 ⟨rfl, hb2⟩
          rw [Hf.out]
          have HB2 := Lib.hid (Hbe.out.trans (hb2.mono Hbe.out.size))
          clear hb2
          go_wp2_with fail
          refine (awake_any w2).mono ?_
          rintro e w3 ⟨rfl, hb3⟩
          have HB3 := Lib.hid (HB1.out.trans ((HB2.out.trans (hb3.mono HB2.out.size)).mono (Nat.le_of_lt hz1)))
          clear hb3
          go_wp2
          go_ret
          exact ⟨rfl, HB3.out⟩
end Go.Proofs.Ytopbbihbpalnlaa
